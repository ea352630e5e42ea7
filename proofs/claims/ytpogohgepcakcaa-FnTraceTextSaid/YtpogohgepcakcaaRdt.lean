/- The values of a text. -/
import Derived.Test.YtpogohgepcakcaaTxt
namespace Go.Proofs.Ytpogohgepcakcaa
set_option maxRecDepth 100000
set_option linter.unusedVariables false
open Go.RowKit

/-- How reading ends. -/
def Rdd (w : World) (o : Option (List Int)) (e : Ending) (w' : World) : Prop :=
  ∃ v, e = .returned (.tuple #[v, .bool o.isSome]) ∧ IOwn w' w.heap.size v (o.getD []) ∧ Below w.heap.size w w'

def byteAt (s : ByteArray) (i : Nat) : Int := if h : i < s.size then ((s[i].toNat : Nat) : Int) else 0
/-- The bytes of a text, less 48. -/
def figs (s : ByteArray) : List Int := (List.range s.size).map fun i => byteAt s i - 48
/-- The values of a text, if it is one of values. -/
def rdt (s : ByteArray) : Option (List Int) :=
  if s.toList == [45] then some [] else if inB s.size 1 12 && (figs s).all (fun d => inB d 0 2) then some (figs s) else none

theorem figs_length (s : ByteArray) : (figs s).length = s.size := by simp [figs]
theorem figs_get {s : ByteArray} {i : Nat} (h : i < s.size) : (figs s)[i]? = some (byteAt s i - 48) := by
  unfold figs
  rw [List.getElem?_map, List.getElem?_range h]; rfl
theorem byteAt_bd (s : ByteArray) (i : Nat) : 0 ≤ byteAt s i ∧ byteAt s i ≤ 255 := by
  unfold byteAt
  split
  · rename_i h
    have := s[i].toNat_lt
    omega
  · omega
theorem byteAt_of {s : ByteArray} {i : Nat} (h : i < s.size) : byteAt s i = ((s[i].toNat : Nat) : Int) := dif_pos h
theorem rdt_no {s : ByteArray} {k : Nat} (h1 : (s.toList == [45]) = false) (hk : k < s.size) (hb : inB (byteAt s k - 48) 0 2 = false) : rdt s = none := by
  have : ((figs s).all fun d => inB d 0 2) = false := List.all_eq_false.2 ⟨_, List.mem_of_getElem? (figs_get hk), by simp [hb]⟩
  unfold rdt
  rw [h1, this, Bool.and_false]; rfl
theorem rdt_yes {s : ByteArray} (h1 : (s.toList == [45]) = false) (hi : inB s.size 1 12 = true) (ha : ((figs s).take s.size).all (fun d => inB d 0 2) = true) : rdt s = some (figs s) := by
  rw [List.take_of_length_le (by rw [figs_length]; exact Nat.le_refl _)] at ha
  unfold rdt
  rw [h1, hi, ha]; rfl

theorem ReadTrace_any (s : ByteArray) (w : World) (hs : s.size ≤ 1048576) :
    Calls Try.prog 36 #[.string s] w (Rdd w (rdt s)) := by
  cases h1 : (s.toList == [45])
  · cases hin : inB s.size 1 12
    · have hR := Lib.hid (show rdt s = none by unfold rdt; rw [h1, hin]; rfl)
      go_enter Try.func36, Try.ntmps36
      go_wp2_with (go_at_call 56; refine (within_any _ _ _ _).mono ?_; rw [hin]; rintro e w' ⟨rfl, rfl⟩)
      go_ret2
      rw [hR.out]
      exact ⟨_, rfl, IOwn.nil _ _, Below.refl _ _⟩
    · have hib := inB_iff.1 hin
      obtain ⟨n, hn⟩ : ∃ n, n = s.size := ⟨_, rfl⟩
      obtain ⟨i0, hi0, hz0, hz1', hz2'⟩ := info_parts info_int
      have hmk : ∀ wx : World, (Instr.makeSlice 38 (.int .i64 (s.size : Int)) (.int .i64 (s.size : Int))).run Try.prog wx = .ok (.slice (some ⟨wx.heap.size, 0, none⟩) s.size s.size) (wx.alloc (.cells (madeCells (Value.int .i64 0).cells (s.size * 1)) 3)) := by
        intro wx
        have hr := run_make (P := Try.prog) wx 38 3 i0 _ Try.underlying38 hi0 hz0 .i64 .i64 (s.size : Int) (s.size : Int) (by omega) (by omega) (by rw [hz2']; omega) (by omega)
        rw [hz1'] at hr
        simp only [Int.toNat_natCast] at hr
        exact hr
      have hI := Lib.hid hin
      go_enter Try.func36, Try.ntmps36
      go_wp2_with (go_at_call 56; refine (within_any _ _ _ _).mono ?_; rw [hI.out]; rintro e w' ⟨rfl, rfl⟩)
      have hhas0 := Has.new w 3 (madeCells #[.int .i64 0] s.size)
      have hb0 : Below w.heap.size w (w.alloc (.cells (madeCells #[.int .i64 0] s.size) 3)) := (Below.refl _ _).alloc (Nat.le_refl _) _
      have hs0 : (madeCells #[.int .i64 0] s.size).size = s.size := size_madeCells _ _
      have hH0 := Lib.hid hhas0
      clear hhas0 hmk
      generalize hw0 : w.alloc (.cells (madeCells #[.int .i64 0] s.size) 3) = w0 at hb0 hH0 ⊢
      clear hw0
      have hi1 := Lib.hid h1
      go_loopw [17] (fun i wr => ∃ (k : Nat) (cs : Array Value), k ≤ s.size ∧ i = .int .i64 k ∧ Has wr w.heap.size 3 cs ∧ IFill cs (figs s) s.size k ∧ ((figs s).take k).all (fun d => inB d 0 2) = true ∧ Below w.heap.size w wr) (fun i _ => s.size - (intOf i).toNat)
      case atStart => exact ⟨0, _, Nat.zero_le _, rfl, hH0.out, ⟨hs0, fun i s hi => absurd hi (by omega)⟩, by simp, hb0⟩
      case round =>
        obtain ⟨k, cs, hk, rfl, hhas, hfill, hall, hb⟩ := hrel
        have hHas := Lib.hid hhas
        have hFill := Lib.hid hfill
        have hAll := Lib.hid hall
        have hzz := hhas.lt
        clear hfill hall
        by_cases hlt : k < s.size
        · obtain ⟨u0, e0⟩ : ∃ u, wr.cell? ⟨w.heap.size, k, none⟩ = some u := ⟨_, (hhas.cell k).trans (Array.getElem?_eq_getElem (by rw [hFill.out.1]; exact hlt))⟩
          have f0 := hhas.frozen k
          have hbd := byteAt_bd s k
          have hfg := figs_get hlt
          have hno := Lib.hid (rdt_no (k := k) h1 hlt)
          rw [byteAt_of hlt] at hbd hfg hno
          have cV := Lib.hid (fun wx => valueOk_any (((s[k].toNat : Nat) : Int) - 48) wx)
          have hN := Lib.hid (hhas.put k (.int .i64 (((s[k].toNat : Nat) : Int) - 48)))
          cases hin2 : inB (((s[k].toNat : Nat) : Int) - 48) 0 2
          · have hR := Lib.hid (hno.out hin2)
            rw [hin2] at cV
            clear hfg hin2 hhas
            go_wp2_with (go_at_call 67; refine (cV.out _).mono ?_; rintro e w' ⟨rfl, rfl⟩)
            go_ret2
            rw [hR.out]
            exact ⟨_, rfl, IOwn.nil _ _, hb.setCell (by simp) _⟩
          · have hA2 := Lib.hid (all_next hfg hAll.out hin2)
            have hF2 := Lib.hid (hFill.out.step hfg hlt)
            rw [hin2] at cV
            clear hfg hin2 hhas
            go_wp2_with (go_at_call 67; refine (cV.out _).mono ?_; rintro e w' ⟨rfl, rfl⟩)
            go_roundw
            case rel => exact ⟨k + 1, _, by omega, by go_num, hN.out, hF2.out, hA2.out, hb.setCell (by simp) _⟩
            case measure => (simp [intOf]; try omega)
        · obtain rfl : k = s.size := by omega
          have hR := Lib.hid (rdt_yes h1 hI.out hAll.out)
          have hO := Lib.hid (IOwn.of_has (base := w.heap.size) hhas (hFill.out.done (figs_length s)) (figs_length s) (Nat.le_refl _) (by unfold maxLen; omega))
          clear hhas
          go_wp2
          go_ret2
          rw [hR.out]
          exact ⟨_, rfl, hO.out, hb⟩
  · have hR := Lib.hid (show rdt s = some [] by unfold rdt; rw [h1]; rfl)
    go_enter Try.func36, Try.ntmps36
    go_wp2
    go_ret2
    rw [hR.out]
    exact ⟨_, rfl, IOwn.nil _ _, Below.refl _ _⟩

theorem own_none (w : World) (t : TypeId) (n : Nat) (hn : n = w.heap.size) : (w.alloc (.cells #[] t)).ownsRow n t 1 (.slice (some ⟨w.heap.size, 0, none⟩) 0 0) 0 [] :=
  ⟨rfl, .inr ⟨w.heap.size, 0, #[], rfl, by omega, Has.new w _ _, Nat.le_refl _, Nat.zero_le _, rfl, rfl⟩⟩

theorem specReadTrace_any (s : ByteArray) (w : World) (hs : s.size ≤ 1048576) :
    Calls Try.prog 37 #[.string s] w (Rdd w (rdt s)) := by
  cases h1 : (s.toList == [45])
  · cases hin : inB s.size 1 12
    · have hR := Lib.hid (show rdt s = none by unfold rdt; rw [h1, hin]; rfl)
      have hib := inB_not.1 hin
      by_cases h0 : s.size = 0
      · have h0' : ((s.size : Int) == 0) = true := by rw [beq_iff_eq]; omega
        go_enter Try.func37, Try.ntmps37
        go_wp2_with fail
        go_ret2
        rw [hR.out]
        exact ⟨_, rfl, IOwn.nil _ _, Below.refl _ _⟩
      · have h0' : ((s.size : Int) == 0) = false := by rw [beq_eq_false_iff_ne]; omega
        have h12 : 12 < s.size := by omega
        go_enter Try.func37, Try.ntmps37
        go_wp2_with fail
        go_ret2
        rw [hR.out]
        exact ⟨_, rfl, IOwn.nil _ _, Below.refl _ _⟩
    · have hib := inB_iff.1 hin
      obtain ⟨i0, hi0, hz0, hz1', hz2'⟩ := info_parts info_int
      have hI := Lib.hid hin
      have h0' : ((s.size : Int) == 0) = false := by rw [beq_eq_false_iff_ne]; omega
      go_enter Try.func37, Try.ntmps37
      go_wp2_with fail
      have hown0 : IOwn (w.alloc (.cells #[] 3)) w.heap.size (.slice (some ⟨w.heap.size, 0, none⟩) 0 0) [] := own_none w _ _ rfl
      have hb0 : Below w.heap.size w (w.alloc (.cells #[] 3)) := (Below.refl _ _).alloc (Nat.le_refl _) _
      have hO0 := Lib.hid hown0
      clear hown0
      generalize w.alloc (.cells #[] 3) = w0 at hb0 hO0 ⊢
      go_loopw [4, 5] (fun v i wr => ∃ k : Nat, k ≤ s.size ∧ i = .int .i64 k ∧ IOwn wr w.heap.size v ((figs s).take k) ∧ ((figs s).take k).all (fun d => inB d 0 2) = true ∧ Below w.heap.size w wr) (fun _ i _ => s.size - (intOf i).toNat)
      case atStart => exact ⟨0, Nat.zero_le _, rfl, hO0.out, by simp, hb0⟩
      case round =>
        obtain ⟨k, hk, rfl, hown, hall, hb⟩ := hrel
        have hAll := Lib.hid hall
        have hOwn := Lib.hid hown
        have hbz := hb.size
        clear hall hown
        by_cases hlt : k < s.size
        · have hbd := byteAt_bd s k
          have hfg := figs_get hlt
          have hno := Lib.hid (rdt_no (k := k) h1 hlt)
          rw [byteAt_of hlt] at hbd hfg hno
          by_cases hlo : ((s[k].toNat : Nat) : Int) < 48
          · have hR := Lib.hid (hno.out (inB_no (by omega)))
            clear hfg
            go_wp2_with fail
            go_ret2
            rw [hR.out]
            exact ⟨_, rfl, IOwn.nil _ _, hb⟩
          · by_cases hhi : 50 < ((s[k].toNat : Nat) : Int)
            · have hR := Lib.hid (hno.out (inB_no (by omega)))
              clear hfg
              go_wp2_with fail
              go_ret2
              rw [hR.out]
              exact ⟨_, rfl, IOwn.nil _ _, hb⟩
            · have hA2 := Lib.hid (all_next hfg hAll.out (inB_yes (by omega)))
              have hT := Lib.hid (show (figs s).take (k + 1) = (figs s).take k ++ [((s[k].toNat : Nat) : Int) - 48] by
                rw [List.take_succ_eq_append_getElem (List.getElem?_eq_some_iff.1 hfg).1, (List.getElem?_eq_some_iff.1 hfg).2])
              have hkl : ((figs s).take k).length = k := by rw [List.length_take, figs_length]; omega
              clear hfg
              have hNew := Lib.hid (new_one wr (.int .i64 (((s[k].toNat : Nat) : Int) - 48)) 3)
              have hO3 := Lib.hid (hOwn.out.alloc (.cells #[.int .i64 (((s[k].toNat : Nat) : Int) - 48)] 3))
              have hb4 := hb.alloc hbz (.cells #[.int .i64 (((s[k].toNat : Nat) : Int) - 48)] 3)
              unfold IOwn at hO3
              rw [hkl] at hO3
              generalize (figs s).take k = bs at hO3 hT hkl
              generalize hxs : ints bs = xs at hO3
              go_wp2_with (at_builtin; refine wpList_append_own _ rfl (.tmp 34) (.tmp 40) 38 rfl w.heap.size 3 i0 _ 1 8 Try.underlying38 hi0 hz0 hz1' hz2' rfl (by decide) _ k xs rfl hO3.out ⟨wr.heap.size, 0, none⟩ 1 1 [.int .i64 (((s[k].toNat : Nat) : Int) - 48)] ?hx ?c1 ?c2 ?c3 ?c4 ?c5 ?c6 ?_)
              case c3 => simp [Value.oneCell']
              case c4 => unfold maxLen; omega
              case c5 => omega
              case c6 => first | omega | (simp; omega)
              intro v' w3 hown' hgrow _
              have hb5 := hb4.grown hgrow (by simp; omega) (fun k hk => by have := (World.ownsRow.lt hO3.out k hk).1; omega)
              have hO5 := Lib.hid hown'
              clear hown' hgrow hO3 hNew
              go_wp2
              go_roundw
              case rel =>
                refine ⟨k + 1, by omega, by go_num, ?_, hA2.out, hb5⟩
                rw [hT.out]
                have := hO5.out
                unfold IOwn
                rw [List.length_append, hkl, ints_append, hxs]
                exact this
              case measure => (simp [intOf]; try omega)
        · obtain rfl : k = s.size := by omega
          have hR := Lib.hid (rdt_yes h1 hI.out hAll.out)
          have hO := Lib.hid (show IOwn wr w.heap.size u4 (figs s) by
            have := hOwn.out
            rwa [List.take_of_length_le (by rw [figs_length]; exact Nat.le_refl _)] at this)
          go_wp2
          go_ret2
          rw [hR.out]
          exact ⟨_, rfl, hO.out, hb⟩
  · have hR := Lib.hid (show rdt s = some [] by unfold rdt; rw [h1]; rfl)
    go_enter Try.func37, Try.ntmps37
    go_wp2
    go_ret2
    rw [hR.out]
    exact ⟨_, rfl, own_none w _ _ rfl, (Below.refl _ _).alloc (Nat.le_refl _) _⟩
end Go.Proofs.Ytpogohgepcakcaa
