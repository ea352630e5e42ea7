/- The texts of traces: what is written and what is read. -/
import Derived.Test.YtpogohgepcakcaaIMk
import Derived.Test.YtpogohgepcakcaaRdr
import Derived.Laws.BytesArg
import Derived.Maps.AppendAt
namespace Go.Proofs.Ytpogohgepcakcaa
set_option maxRecDepth 100000
set_option linter.unusedVariables false
open Go.RowKit

/-- At most twelve values. -/
def okRow (ds : List Int) : Bool := decide (ds.length ≤ 12) && ds.all fun d => inB d 0 2
/-- The text of values, or none. -/
def txt (ds : List Int) : ByteArray := if okRow ds then (if ds.isEmpty then ⟨#[45]⟩ else strOfNums (ds.map (48 + ·))) else ByteArray.empty

theorem okRow_long {ds : List Int} (h : 12 < ds.length) : okRow ds = false := by
  unfold okRow
  rw [decide_eq_false (by omega)]; rfl
theorem okRow_bad {ds : List Int} {k : Nat} {d : Int} (h : ds[k]? = some d) (hd : inB d 0 2 = false) : okRow ds = false := by
  unfold okRow
  have : (ds.all fun d => inB d 0 2) = false := List.all_eq_false.2 ⟨d, List.mem_of_getElem? h, by simp [hd]⟩
  rw [this, Bool.and_false]
theorem txt_no {ds : List Int} (h : okRow ds = false) : txt ds = ByteArray.empty := by
  unfold txt; rw [h]; rfl

/-- The first k values' bytes lie in a row of cells. -/
def BFill (cs : Array Value) (ds : List Int) (n k : Nat) : Prop := cs.size = n ∧ ∀ i d, i < k → ds[i]? = some d → cs[i]? = some (.int .u8 (48 + d))
theorem BFill.step {cs : Array Value} {ds : List Int} {n k : Nat} {d : Int} (h : BFill cs ds n k) (hd : ds[k]? = some d) (hk : k < n) : BFill (cs.setIfInBounds k (.int .u8 (48 + d))) ds n (k + 1) := by
  refine ⟨by simpa using h.1, fun i e hi he => ?_⟩
  by_cases hik : i = k
  · subst hik
    obtain rfl : d = e := Option.some.inj (hd.symm.trans he)
    have := h.1
    rw [Array.getElem?_setIfInBounds, if_pos rfl, if_pos (by omega)]
  · rw [Array.getElem?_setIfInBounds, if_neg (by omega)]
    exact h.2 i e (by omega) he

/-- Bytes that the call has made itself. -/
def Own8 (w : World) (base : Nat) (v : Value) (bs : List Int) : Prop := w.ownsRow base 5 1 v bs.length (bs.map (Value.int .u8))
theorem new_one (w : World) (x : Value) (t : TypeId) : ∀ j u, [x][j]? = some u → (w.alloc (.cells #[x] t)).cell? ((⟨w.heap.size, 0, none⟩ : Addr).add j) = some u := by
  intro j u hu
  have hj : j = 0 := by
    have := (List.getElem?_eq_some_iff.1 hu).1
    simp at this; exact this
  subst hj
  have hu' : x = u := by simpa using hu
  subst hu'
  have h := (Has.new w t #[x]).cell 0
  simp [Addr.add] at h ⊢
theorem take_map_next {ds : List Int} {k : Nat} {d : Int} (h : ds[k]? = some d) : (ds.take (k + 1)).map (48 + ·) = (ds.take k).map (48 + ·) ++ [48 + d] := by
  have l1 := (List.getElem?_eq_some_iff.1 h).1
  rw [List.take_succ_eq_append_getElem l1, List.map_append, (List.getElem?_eq_some_iff.1 h).2]; rfl
theorem all_next {ds : List Int} {k : Nat} {d : Int} (h : ds[k]? = some d) (ha : (ds.take k).all (fun d => inB d 0 2) = true) (hd : inB d 0 2 = true) : (ds.take (k + 1)).all (fun d => inB d 0 2) = true := by
  have l1 := (List.getElem?_eq_some_iff.1 h).1
  rw [List.take_succ_eq_append_getElem l1, List.all_append, ha, (List.getElem?_eq_some_iff.1 h).2]
  simp [hd]
theorem txt_yes {ds : List Int} {n : Nat} (hL : ds.length = n) (hn : n ≤ 12) (h0 : 0 < n) (ha : (ds.take n).all (fun d => inB d 0 2) = true) : txt ds = strOfNums (ds.map (48 + ·)) := by
  have h1 : okRow ds = true := by
    unfold okRow
    rw [decide_eq_true (by omega), Bool.true_and]
    rwa [List.take_of_length_le (by omega)] at ha
  have h2 : ds.isEmpty = false := by
    cases hds : ds with
    | nil => rw [hds] at hL; simp at hL; omega
    | cons _ _ => rfl
  unfold txt
  rw [h1, h2]; rfl

theorem info_u8 : (Try.prog.info? 5).map (fun i => (i.zero, i.size, i.bytes)) = some (some (.int .u8 0), 1, 1) := by kernel_rfl

theorem TraceText_any (A : Option Addr) (n c : Nat) (ds : List Int) (w : World) (h : Ils w w.heap.size A n ds) (hn : n ≤ maxLen) :
    Calls Try.prog 35 #[.slice A n c] w fun e w' => e = .returned (.string (txt ds)) ∧ Below w.heap.size w w' := by
  have hn' : n ≤ 9223372036854775807 := by unfold maxLen at hn; omega
  have hH := Lib.hid h
  have hL := Lib.hid h.1
  clear h hn
  by_cases hbig : 12 < n
  · have hR := Lib.hid (txt_no (okRow_long (ds := ds) (by rw [hL.out]; exact hbig)))
    go_enter Try.func35, Try.ntmps35
    go_wp2
    go_ret
    rw [hR.out]
    exact ⟨rfl, Below.refl _ _⟩
  · by_cases h0 : n = 0
    · subst h0
      have hR := Lib.hid (show txt ds = ⟨#[45]⟩ by rw [List.eq_nil_of_length_eq_zero hL.out]; rfl)
      go_enter Try.func35, Try.ntmps35
      go_wp2
      go_ret
      rw [hR.out]
      exact ⟨rfl, Below.refl _ _⟩
    · have h0' : ((n : Int) == 0) = false := by simp; omega
      obtain ⟨i0, hi0, hz0, hz1', hz2'⟩ := info_parts info_u8
      have hmk : ∀ wx : World, (Instr.makeSlice 22 (.int .i64 (n : Int)) (.int .i64 (n : Int))).run Try.prog wx = .ok (.slice (some ⟨wx.heap.size, 0, none⟩) n n) (wx.alloc (.cells (madeCells (Value.int .u8 0).cells (n * 1)) 5)) := by
        intro wx
        have hr := run_make (P := Try.prog) wx 22 5 i0 _ Try.underlying22 hi0 hz0 .i64 .i64 (n : Int) (n : Int) (by omega) (by omega) (by rw [hz2']; omega) (by omega)
        rw [hz1'] at hr
        simp only [Int.toNat_natCast] at hr
        exact hr
      go_enter Try.func35, Try.ntmps35
      go_wp2
      have hhas0 := Has.new w 5 (madeCells #[.int .u8 0] n)
      have hfill0 : BFill (madeCells #[.int .u8 0] n) ds n 0 := ⟨size_madeCells _ _, fun i s hi => absurd hi (by omega)⟩
      have hb0 : Below w.heap.size w (w.alloc (.cells (madeCells #[.int .u8 0] n) 5)) := (Below.refl _ _).alloc (Nat.le_refl _) _
      have hF0 := Lib.hid hfill0
      have hH0 := Lib.hid hhas0
      clear hfill0 hhas0 hmk
      generalize hw0 : w.alloc (.cells (madeCells #[.int .u8 0] n) 5) = w0 at hb0 hH0 ⊢
      clear hw0
      go_loopw [17] (fun i wr => ∃ (k : Nat) (cs : Array Value), k ≤ n ∧ i = .int .i64 k ∧ Has wr w.heap.size 5 cs ∧ BFill cs ds n k ∧ (ds.take k).all (fun d => inB d 0 2) = true ∧ Below w.heap.size w wr) (fun i _ => n - (intOf i).toNat)
      case atStart => exact ⟨0, _, Nat.zero_le _, rfl, hH0.out, hF0.out, by simp, hb0⟩
      case round =>
        obtain ⟨k, cs, hk, rfl, hhas, hfill, hall, hb⟩ := hrel
        have hHas := Lib.hid hhas
        have hFill := Lib.hid hfill
        have hAll := Lib.hid hall
        have hzz := hhas.lt
        clear hfill hall
        by_cases hlt : k < n
        · obtain ⟨g, off, d, rfl, hg, hs, c0⟩ := (hH.out.below hb).at_ hlt
          obtain ⟨u0, e0⟩ : ∃ u, wr.cell? ⟨w.heap.size, k, none⟩ = some u := ⟨_, (hhas.cell k).trans (Array.getElem?_eq_getElem (by rw [hFill.out.1]; exact hlt))⟩
          have f0 := hhas.frozen k
          have cV := Lib.hid (fun wx => valueOk_any d wx)
          cases hin : inB d 0 2
          · have hR := Lib.hid (txt_no (okRow_bad hs hin))
            rw [hin] at cV
            clear hs hhas hin
            go_wp2_with (go_at_call 67; refine (cV.out _).mono ?_; rintro e w' ⟨rfl, rfl⟩)
            go_ret
            rw [hR.out]
            exact ⟨rfl, hb⟩
          · have hib := inB_iff.1 hin
            have hA2 := Lib.hid (show (ds.take (k + 1)).all (fun d => inB d 0 2) = true by
              have l1 := (List.getElem?_eq_some_iff.1 hs).1
              rw [List.take_succ_eq_append_getElem l1, List.all_append, hAll.out, (List.getElem?_eq_some_iff.1 hs).2]
              simp [hin])
            rw [hin] at cV
            have hS := Lib.hid hs
            have hN := Lib.hid (hhas.put k (.int .u8 (48 + d)))
            clear hs hhas hin
            go_wp2_with (go_at_call 67; refine (cV.out _).mono ?_; rintro e w' ⟨rfl, rfl⟩)
            go_roundw
            case rel => exact ⟨k + 1, _, by omega, by go_num, hN.out, hFill.out.step hS.out hlt, hA2.out, hb.setCell (by simp) _⟩
            case measure => (simp [intOf]; try omega)
        · obtain rfl : n = k := by omega
          have hR := Lib.hid (txt_yes hL.out (by omega) (by omega) hAll.out)
          have hcv := run_convert_bytes_arg (P := Try.prog) wr 22 5 Try.underlying22 Try.underlying5 w.heap.size 0 n n (ds.map (48 + ·)) (by rw [List.length_map]; exact hL.out) (fun i hi => by
            obtain ⟨d, hd⟩ : ∃ d, ds[i]? = some d := ⟨_, List.getElem?_eq_getElem (by rw [hL.out]; exact hi)⟩
            rw [Nat.zero_add, hHas.out.cell, hFill.out.2 i _ hi hd, List.getD_eq_getElem?_getD, List.getElem?_map, hd]
            rfl) 9 Try.underlying9
          clear hhas
          go_wp2
          go_ret
          rw [hR.out]
          exact ⟨rfl, hb⟩

theorem specTraceText_any (A : Option Addr) (n c : Nat) (ds : List Int) (w : World) (h : Ils w w.heap.size A n ds) (hn : n ≤ maxLen) :
    Calls Try.prog 38 #[.slice A n c] w fun e w' => e = .returned (.string (txt ds)) ∧ Below w.heap.size w w' := by
  have hn' : n ≤ 9223372036854775807 := by unfold maxLen at hn; omega
  have hH := Lib.hid h
  have hL := Lib.hid h.1
  clear h hn
  go_enter Try.func38, Try.ntmps38
  go_wp2
  obtain ⟨i0, hi0, hz0, hz1', hz2'⟩ := info_parts info_u8
  have hown0 : Own8 (w.alloc (.cells #[] 5)) w.heap.size (.slice (some ⟨w.heap.size, 0, none⟩) 0 0) [] := ⟨rfl, .inr ⟨w.heap.size, 0, #[], rfl, Nat.le_refl _, Has.new w _ _, Nat.le_refl _, Nat.zero_le _, rfl, rfl⟩⟩
  have hb0 : Below w.heap.size w (w.alloc (.cells #[] 5)) := (Below.refl _ _).alloc (Nat.le_refl _) _
  have hO0 := Lib.hid hown0
  clear hown0
  generalize w.alloc (.cells #[] 5) = w0 at hb0 hO0 ⊢
  go_loopw [3, 4] (fun v i wr => ∃ k : Nat, k ≤ n ∧ i = .int .i64 k ∧ Own8 wr w.heap.size v ((ds.take k).map (48 + ·)) ∧ (ds.take k).all (fun d => inB d 0 2) = true ∧ (0 < k → n ≤ 12) ∧ Below w.heap.size w wr) (fun _ i _ => n - (intOf i).toNat)
  case atStart => exact ⟨0, Nat.zero_le _, rfl, hO0.out, by simp, fun h => absurd h (by omega), hb0⟩
  case round =>
    obtain ⟨k, hk, rfl, hown, hall, h12, hb⟩ := hrel
    have hAll := Lib.hid hall
    have hOwn := Lib.hid hown
    have hbz := hb.size
    clear hall hown
    by_cases hlt : k < n
    · obtain ⟨g, off, d, rfl, hg, hs, c0⟩ := (hH.out.below hb).at_ hlt
      have cV := Lib.hid (fun wx => l1In_any d 0 2 wx)
      cases hin : inB d 0 2
      · have hR := Lib.hid (txt_no (okRow_bad hs hin))
        rw [hin] at cV
        clear hs hin
        go_wp2_with (go_at_call 72; refine (cV.out _).mono ?_; rintro e w' ⟨rfl, rfl⟩)
        go_ret
        rw [hR.out]
        exact ⟨rfl, hb⟩
      · rw [hin] at cV
        by_cases h13 : 12 < n
        · have hR := Lib.hid (txt_no (okRow_long (ds := ds) (by rw [hL.out]; exact h13)))
          clear hs hin
          go_wp2_with (go_at_call 72; refine (cV.out _).mono ?_; rintro e w' ⟨rfl, rfl⟩)
          go_ret
          rw [hR.out]
          exact ⟨rfl, hb⟩
        · have hib := inB_iff.1 hin
          have hA2 := Lib.hid (all_next hs hAll.out hin)
          have hT := Lib.hid (take_map_next hs)
          have hkl : ((ds.take k).map (48 + ·)).length = k := by rw [List.length_map, List.length_take, hL.out]; omega
          clear hs hin
          have hNew := Lib.hid (new_one wr (.int .u8 (48 + d)) 5)
          have hO3 := Lib.hid (World.ownsRow.alloc hOwn.out (.cells #[.int .u8 (48 + d)] 5))
          have hb4 := hb.alloc hbz (.cells #[.int .u8 (48 + d)] 5)
          rw [hkl] at hO3
          generalize (ds.take k).map (48 + ·) = bs at hO3 hT hkl
          generalize hxs : bs.map (Value.int .u8) = xs at hO3
          go_wp2_with (first | (go_at_call 72; refine (cV.out _).mono ?_; rintro e w' ⟨rfl, rfl⟩) | (at_builtin; refine wpList_append_own _ rfl (.tmp 23) (.tmp 30) 22 rfl w.heap.size 5 i0 _ 1 1 Try.underlying22 hi0 hz0 hz1' hz2' rfl (by decide) _ k xs rfl hO3.out ⟨wr.heap.size, 0, none⟩ 1 1 [.int .u8 (48 + d)] ?hx ?c1 ?c2 ?c3 ?c4 ?c5 ?c6 ?_))
          case hx => first | rfl | (simp; done)
          case c1 => rfl
          case c2 => first | exact hNew.out | (intro j u hu; simpa using hu)
          case c3 => simp [Value.oneCell']
          case c4 => unfold maxLen; omega
          case c5 => omega
          case c6 => first | omega | (simp; omega)
          intro v' w3 hown' hgrow _
          have hb5 := hb4.grown hgrow (by simp; omega) (fun k hk => by have := (World.ownsRow.lt hO3.out k hk).1; omega)
          have hO5 := Lib.hid hown'
          clear hown' hgrow hO3 hNew
          go_wp2
          go_roundw
          case rel =>
            refine ⟨k + 1, by omega, by go_num, ?_, hA2.out, fun _ => by omega, hb5⟩
            rw [hT.out]
            have := hO5.out
            unfold Own8
            rw [List.length_append, hkl, List.map_append, hxs]
            exact this
          case measure => (simp [intOf]; try omega)
    · obtain rfl : n = k := by omega
      by_cases h0 : n = 0
      · subst h0
        have hR := Lib.hid (show txt ds = ⟨#[45]⟩ by rw [List.eq_nil_of_length_eq_zero hL.out]; rfl)
        go_wp2
        go_ret
        rw [hR.out]
        exact ⟨rfl, hb⟩
      · have h0' : ((n : Int) == 0) = false := by simp; omega
        have hR := Lib.hid (txt_yes hL.out (h12 (by omega)) (by omega) hAll.out)
        have hO := hOwn.out
        have hkl : ((ds.take n).map (48 + ·)).length = n := by rw [List.length_map, List.length_take, hL.out]; omega
        rcases hO.2 with ⟨hv, hn0⟩ | ⟨g, cap, cur, hv, _⟩
        · rw [hkl] at hn0; omega
        · rw [hkl] at hv
          subst hv
          have hcv := run_convert_bytes_arg (P := Try.prog) wr 22 5 Try.underlying22 Try.underlying5 g 0 n cap (ds.map (48 + ·)) (by rw [List.length_map]; exact hL.out) (fun i hi => by
            obtain ⟨d, hd⟩ : ∃ d, ds[i]? = some d := ⟨_, List.getElem?_eq_getElem (by rw [hL.out]; exact hi)⟩
            have := World.ownsRow.cells hO (g := g) rfl i (.int .u8 (48 + d)) (by rw [List.take_of_length_le (by rw [hL.out]; exact Nat.le_refl _), List.getElem?_map, List.getElem?_map, hd]; rfl)
            rw [List.getD_eq_getElem?_getD, List.getElem?_map, hd]
            show _ = some (Value.int .u8 (48 + d))
            rw [← this]
            congr 1
            unfold Addr.add
            split
            · (rename_i h0; simp; try omega)
            · (simp; try omega)) 9 Try.underlying9
          clear hO hOwn
          go_wp2
          go_ret
          rw [hR.out]
          exact ⟨rfl, hb⟩
end Go.Proofs.Ytpogohgepcakcaa
