/- Weights of a variable's values, weights where it has a value, its mean: the program's functions. -/
import Derived.Test.YtbndonfpdioibaaAa
namespace Go.Proofs.Ytbndonfpdioibaa
set_option maxRecDepth 100000
set_option linter.unusedVariables false
open Go.RowKit

/-- How a list of numbers and whether there is one are told. -/
def Lbd (w : World) (os : List Int) (ok : Bool) (e : Ending) (w' : World) : Prop := ∃ v, e = .returned (.tuple #[v, .bool ok]) ∧ IOwn w' w.heap.size v os ∧ Below w.heap.size w w'
/-- A list of the states' numbers, and a variable. -/
def lvOk (ds : List Int) (v : Int) : Bool := lstOk 1000000000 ds && inB v 0 3
def margOf (ds : List Int) (v : Int) : List Int := if lvOk ds v = true then marg ds v else []
def givOk (ds : List Int) (v x : Int) : Bool := lvOk ds v && inB x 0 2
def givOf (ds : List Int) (v x : Int) : List Int := if givOk ds v x = true then givF ds v x 81 else []
def meanOk (ds : List Int) (v : Int) : Bool := lvOk ds v && decide (isum ds ≠ 0)
def mean1 (ds : List Int) (v : Int) : Int := if meanOk ds v = true then low1 (above ds v) (isum ds) else 0
def mean2 (ds : List Int) (v : Int) : Int := if meanOk ds v = true then low2 (above ds v) (isum ds) else 0
theorem margOf_len (ds : List Int) (v : Int) : (margOf ds v).length ≤ 81 := by
  unfold margOf
  split
  · rw [marg_len]; decide
  · simp
theorem givOf_len (ds : List Int) (v x : Int) : (givOf ds v x).length ≤ 81 := by
  unfold givOf
  split
  · rw [givF_len]; exact Nat.le_refl _
  · simp
theorem made_ints (n : Nat) : (madeCells #[Value.int .i64 0] n).toList = ints (zs n) := by
  apply List.ext_getElem?
  intro i
  rw [Array.getElem?_toList]
  by_cases h : i < n
  · rw [ints_get (d := 0) (by unfold zs; rw [List.getElem?_replicate, if_pos h])]
    unfold madeCells
    simp [h, Nat.mod_one]
  · rw [List.getElem?_eq_none (by rw [ints_length, zs_len]; omega), Array.getElem?_eq_none (by rw [size_madeCells]; omega)]

set_option maxHeartbeats 1000000 in
theorem MarginalOf_any (A : Option Addr) (n c : Nat) (ds : List Int) (v : Int) (w : World) (h : Ils w w.heap.size A n ds) (hn : n ≤ maxLen) :
    Calls Try.prog 61 #[.slice A n c, .int .i64 v] w (Lbd w (margOf ds v) (lvOk ds v)) := by
  have hI := Lib.hid h
  have cL := Lib.hid (listOk_any A n c ds 1000000000 w h hn)
  clear h hn
  cases hk : lstOk 1000000000 ds
  · have hR := Lib.hid (show lvOk ds v = false by unfold lvOk; rw [hk]; rfl)
    have hR2 := Lib.hid (show margOf ds v = [] by unfold margOf; rw [hR.out]; rfl)
    rw [hk] at cL
    clear hk
    go_enter Try.func61, Try.ntmps61
    go_wp2_with (first | (go_at_call 97; refine cL.out.mono ?_; rintro e w1 ⟨rfl, hb⟩) | (go_at_call 113; refine (varOk_any _ _).mono ?_; rintro e w' ⟨rfl, rfl⟩))
    go_ret2
    exact ⟨_, by rw [hR.out]; rfl, by rw [hR2.out]; exact IOwn.nil _ _, hb⟩
  · cases hv : inB v 0 3
    · have hR := Lib.hid (show lvOk ds v = false by unfold lvOk; rw [hk, hv]; rfl)
      have hR2 := Lib.hid (show margOf ds v = [] by unfold margOf; rw [hR.out]; rfl)
      rw [hk] at cL
      clear hk
      go_enter Try.func61, Try.ntmps61
      go_wp2_with (first | (go_at_call 97; refine cL.out.mono ?_; rintro e w1 ⟨rfl, hb⟩) | (go_at_call 113; refine (varOk_any _ _).mono ?_; rintro e w' ⟨rfl, rfl⟩))
      go_ret2
      exact ⟨_, by rw [hR.out]; rfl, by rw [hR2.out]; exact IOwn.nil _ _, hb⟩
    · have hR := Lib.hid (show lvOk ds v = true by unfold lvOk; rw [hk, hv]; rfl)
      have hR2 := Lib.hid (show margOf ds v = marg ds v by unfold margOf; rw [hR.out]; rfl)
      have hLB := Lib.hid (lstOk_bd hk)
      have hv3 := inB_iff.1 hv
      obtain rfl : n = 81 := by rw [← hI.out.1]; exact hLB.out.1
      have hT := Lib.hid (show ds.take 81 = ds from List.take_of_length_le (by rw [hLB.out.1]; exact Nat.le_refl _))
      have hM := Lib.hid (marg_bd (fun x hx => (hLB.out.2 x hx).1) v)
      have hS := Lib.hid (show isum ds ≤ 81000000000 by
        have := (isum_top (by decide) hLB.out.2).2
        rw [hLB.out.1] at this
        omega)
      rw [hk] at cL
      clear hk
      obtain ⟨i0, hi0, hz0, hz1', hz2'⟩ := info_parts info_int
      have hmk : ∀ wx : World, (Instr.makeSlice 24 (.int .i64 3) (.int .i64 3)).run Try.prog wx = .ok (.slice (some ⟨wx.heap.size, 0, none⟩) 3 3) (wx.alloc (.cells (madeCells (Value.int .i64 0).cells (3 * 1)) 3)) := by
        intro wx
        have hr := run_make (P := Try.prog) wx 24 3 i0 _ Try.underlying24 hi0 hz0 .i64 .i64 3 3 (by omega) (by omega) (by rw [hz2']; omega) (by omega)
        rw [hz1'] at hr
        exact hr
      go_enter Try.func61, Try.ntmps61
      go_wp2_with (first | (go_at_call 97; refine cL.out.mono ?_; rintro e w1 ⟨rfl, hb⟩) | (go_at_call 113; refine (varOk_any _ _).mono ?_; rintro e w' ⟨rfl, rfl⟩))
      clear hmk
      have hz1 := hb.size
      have hI1 := Lib.hid (hI.out.below hb)
      have hO0 := Lib.hid (show (w1.alloc (.cells (madeCells #[.int .i64 0] 3) 3)).ownsRow w.heap.size 3 1 (.slice (some ⟨w1.heap.size, 0, none⟩) 3 3) 3 (ints (marg (ds.take 0) v)) from
        IOwn.of_has (ds := [0, 0, 0]) (Has.new w1 _ _) (made_ints 3) rfl hz1 (by decide))
      have hB0 := Lib.hid (hb.alloc hz1 (.cells (madeCells #[.int .i64 0] 3) 3))
      generalize hGG : w1.heap.size = G at *
      clear hb hGG
      go_loopg [20] 81 (fun gn o wr => ∃ k : Nat, k ≤ 81 ∧ gn = 81 - k ∧ o = .int .i64 k ∧ wr.ownsRow w.heap.size 3 1 (.slice (some ⟨G, 0, none⟩) 3 3) 3 (ints (marg (ds.take k) v)) ∧ Below w.heap.size w wr)
      case atStart => exact ⟨0, Nat.zero_le _, rfl, rfl, hO0.out, hB0.out⟩
      case round =>
        obtain ⟨k, hk, hgn, rfl, hown, hB⟩ := hrel
        have hgk : gk = 81 - k := hgn
        have hB' := Lib.hid hB
        have hOw := Lib.hid hown
        clear hgn
        by_cases hlt : k < 81
        · obtain ⟨g, off, d, rfl, hg, hd, c0⟩ := (hI.out.below hB).at_ hlt
          have hk0 : (0 : Int) ≤ (k : Int) := by omega
          have hk1 : (k : Int) < 81 := by omega
          have hzv := state_val (st := k) (v := v) (by omega) hv3
          obtain ⟨z, hz⟩ : ∃ z : Nat, valueAt k v = (z : Int) := ⟨(valueAt k v).toNat, by omega⟩
          have hz3 : z < 3 := by omega
          have cV := Lib.hid (fun wx => ValueAt_any k v wx)
          rw [hz] at cV
          have hD := hLB.out.2 d (List.mem_of_getElem? hd)
          have hm1 := hM.out z k
          have hs1 := hS.out
          obtain ⟨b, cur, hbe, hwb, hH, _, _, _, hcl⟩ := owns_open hown (by omega)
          have hbe' : G = b := by injection hbe with e; injection e
          subst hbe'
          have hc1 := hcl z (by omega)
          rw [ints_get (marg_at (ds.take k) v hz3)] at hc1
          have hfz := hH.frozen z
          have hSt := Lib.hid (marg_step hd hz hz3)
          have hO2 := Lib.hid (owns_set (x := rsum (ev v z) (ds.take k) 0 + d) hOw.out hz3)
          have hB2 := Lib.hid (hB'.out.setCell (p := ⟨G, z, none⟩) hwb (.int .i64 (rsum (ev v z) (ds.take k) 0 + d)))
          generalize rsum (ev v z) (ds.take k) 0 = sk at *
          have hw : IntKind.i64.wrap (sk + d) = sk + d := by rw [IntKind.wrap_i64]; omega
          have hz0 : (0 : Int) ≤ (z : Int) := by omega
          have hz4 : (z : Int) < 3 := by omega
          clear hown hB hbe hH hcl hd hz hzv
          go_wp2_with fail
          refine (cV.out _).mono ?_
          rintro e w2 ⟨rfl, rfl⟩
          go_wp2_with fail
          go_roundg (81 - (k + 1))
          case measure => omega
          case rel => exact ⟨k + 1, by omega, rfl, by go_num, by rw [← hSt.out]; exact hO2.out, hB2.out⟩
        · obtain rfl : k = 81 := by omega
          have hF := Lib.hid (show Lbd w (margOf ds v) (lvOk ds v) (.returned (.tuple #[.slice (some ⟨G, 0, none⟩) 3 3, .bool true])) wr from ⟨_, by rw [hR.out], by rw [hR2.out]; rw [hT.out] at hown; exact hown, hB⟩)
          clear hown hB
          go_wp2_with fail
          go_ret2
          exact hF.out

set_option maxHeartbeats 1000000 in
theorem GivenOf_any (A : Option Addr) (n c : Nat) (ds : List Int) (v x : Int) (w : World) (h : Ils w w.heap.size A n ds) (hn : n ≤ maxLen) :
    Calls Try.prog 63 #[.slice A n c, .int .i64 v, .int .i64 x] w (Lbd w (givOf ds v x) (givOk ds v x)) := by
  have hI := Lib.hid h
  have cL := Lib.hid (listOk_any A n c ds 1000000000 w h hn)
  clear h hn
  cases hg : givOk ds v x
  · have hR := Lib.hid hg
    have hR2 := Lib.hid (show givOf ds v x = [] by unfold givOf; rw [hg]; rfl)
    cases hk : lstOk 1000000000 ds
    · rw [hk] at cL
      clear hk hg
      go_enter Try.func63, Try.ntmps63
      go_wp2_with (first | (go_at_call 97; refine cL.out.mono ?_; rintro e w1 ⟨rfl, hb⟩) | (go_at_call 113; refine (varOk_any _ _).mono ?_; rintro e w' ⟨rfl, rfl⟩) | (go_at_call 71; refine (valueOk_any _ _).mono ?_; rintro e w' ⟨rfl, rfl⟩))
      go_ret2
      exact ⟨_, rfl, by rw [hR2.out]; exact IOwn.nil _ _, hb⟩
    · cases hv : inB v 0 3
      · rw [hk] at cL
        clear hk hg
        go_enter Try.func63, Try.ntmps63
        go_wp2_with (first | (go_at_call 97; refine cL.out.mono ?_; rintro e w1 ⟨rfl, hb⟩) | (go_at_call 113; refine (varOk_any _ _).mono ?_; rintro e w' ⟨rfl, rfl⟩) | (go_at_call 71; refine (valueOk_any _ _).mono ?_; rintro e w' ⟨rfl, rfl⟩))
        go_ret2
        exact ⟨_, rfl, by rw [hR2.out]; exact IOwn.nil _ _, hb⟩
      · have hx : inB x 0 2 = false := by
          unfold givOk lvOk at hg
          rwa [hk, hv] at hg
        rw [hk] at cL
        clear hk hg
        go_enter Try.func63, Try.ntmps63
        go_wp2_with (first | (go_at_call 97; refine cL.out.mono ?_; rintro e w1 ⟨rfl, hb⟩) | (go_at_call 113; refine (varOk_any _ _).mono ?_; rintro e w' ⟨rfl, rfl⟩) | (go_at_call 71; refine (valueOk_any _ _).mono ?_; rintro e w' ⟨rfl, rfl⟩))
        go_ret2
        exact ⟨_, rfl, by rw [hR2.out]; exact IOwn.nil _ _, hb⟩
  · have hR := Lib.hid hg
    have hR2 := Lib.hid (show givOf ds v x = givF ds v x 81 by unfold givOf; rw [hg]; rfl)
    obtain ⟨⟨hk, hv⟩, hx⟩ : (lstOk 1000000000 ds = true ∧ inB v 0 3 = true) ∧ inB x 0 2 = true := by
      unfold givOk lvOk at hg
      rwa [Bool.and_eq_true, Bool.and_eq_true] at hg
    have hLB := Lib.hid (lstOk_bd hk)
    have hv3 := inB_iff.1 hv
    obtain rfl : n = 81 := by rw [← hI.out.1]; exact hLB.out.1
    rw [hk] at cL
    clear hk hg
    obtain ⟨i0, hi0, hz0, hz1', hz2'⟩ := info_parts info_int
    have hmk : ∀ wx : World, (Instr.makeSlice 24 (.int .i64 81) (.int .i64 81)).run Try.prog wx = .ok (.slice (some ⟨wx.heap.size, 0, none⟩) 81 81) (wx.alloc (.cells (madeCells (Value.int .i64 0).cells (81 * 1)) 3)) := by
      intro wx
      have hr := run_make (P := Try.prog) wx 24 3 i0 _ Try.underlying24 hi0 hz0 .i64 .i64 81 81 (by omega) (by omega) (by rw [hz2']; omega) (by omega)
      rw [hz1'] at hr
      exact hr
    go_enter Try.func63, Try.ntmps63
    go_wp2_with (first | (go_at_call 97; refine cL.out.mono ?_; rintro e w1 ⟨rfl, hb⟩) | (go_at_call 113; refine (varOk_any _ _).mono ?_; rintro e w' ⟨rfl, rfl⟩) | (go_at_call 71; refine (valueOk_any _ _).mono ?_; rintro e w' ⟨rfl, rfl⟩))
    clear hmk
    have hz1 := hb.size
    have hO0 := Lib.hid (show (w1.alloc (.cells (madeCells #[.int .i64 0] 81) 3)).ownsRow w.heap.size 3 1 (.slice (some ⟨w1.heap.size, 0, none⟩) 81 81) 81 (ints (givF ds v x 0)) from by
      rw [givF_zero]
      have := IOwn.of_has (ds := zs 81) (Has.new w1 3 _) (made_ints 81) (zs_len 81) hz1 (by decide)
      unfold IOwn at this
      rwa [zs_len] at this)
    have hB0 := Lib.hid (hb.alloc hz1 (.cells (madeCells #[.int .i64 0] 81) 3))
    generalize hGG : w1.heap.size = G at *
    clear hb hGG
    go_loopg [27] 81 (fun gn o wr => ∃ k : Nat, k ≤ 81 ∧ gn = 81 - k ∧ o = .int .i64 k ∧ wr.ownsRow w.heap.size 3 1 (.slice (some ⟨G, 0, none⟩) 81 81) 81 (ints (givF ds v x k)) ∧ Below w.heap.size w wr)
    case atStart => exact ⟨0, Nat.zero_le _, rfl, rfl, hO0.out, hB0.out⟩
    case round =>
      obtain ⟨k, hk, hgn, rfl, hown, hB⟩ := hrel
      have hgk : gk = 81 - k := hgn
      have hB' := Lib.hid hB
      have hOw := Lib.hid hown
      clear hgn
      by_cases hlt : k < 81
      · obtain ⟨g, off, d, rfl, hg, hd, c0⟩ := (hI.out.below hB).at_ hlt
        have hk0 : (0 : Int) ≤ (k : Int) := by omega
        have hk1 : (k : Int) < 81 := by omega
        have cV := Lib.hid (fun wx => ValueAt_any k v wx)
        by_cases hvx : valueAt k v = x
        · have hSt := Lib.hid (givF_yes hlt hd hvx)
          rw [hvx] at cV
          obtain ⟨b, cur, hbe, hwb, hH, _, _, _, hcl⟩ := owns_open hown (by omega)
          have hbe' : G = b := by injection hbe with e; injection e
          subst hbe'
          have hc1 := hcl k (by omega)
          rw [ints_get (givF_at ds v x k hlt)] at hc1
          have hfz := hH.frozen k
          have hO2 := Lib.hid (owns_set (x := d) hOw.out hlt)
          have hB2 := Lib.hid (hB'.out.setCell (p := ⟨G, k, none⟩) hwb (.int .i64 d))
          clear hown hB hbe hH hcl hd hvx
          generalize (if k < k ∧ valueAt k v = x then ds.getD k 0 else 0) = u0 at hc1
          go_wp2_with fail
          refine (cV.out _).mono ?_
          rintro e w2 ⟨rfl, rfl⟩
          go_wp2_with fail
          go_roundg (81 - (k + 1))
          case measure => omega
          case rel => exact ⟨k + 1, by omega, rfl, by go_num, by rw [← hSt.out]; exact hO2.out, hB2.out⟩
        · have hSt := Lib.hid (givF_no (ds := ds) hvx)
          have hne : (valueAt k v == x) = false := by simpa using hvx
          clear hown hB hd
          generalize valueAt k v = z at cV hvx hne
          go_wp2_with fail
          refine (cV.out _).mono ?_
          rintro e w2 ⟨rfl, rfl⟩
          go_wp2_with fail
          go_roundg (81 - (k + 1))
          case measure => omega
          case rel => exact ⟨k + 1, by omega, rfl, by go_num, by rw [hSt.out]; exact hOw.out, hB'.out⟩
      · obtain rfl : k = 81 := by omega
        have hF := Lib.hid (show Lbd w (givOf ds v x) true (.returned (.tuple #[.slice (some ⟨G, 0, none⟩) 81 81, .bool true])) wr from ⟨_, rfl, by rw [hR2.out]; unfold IOwn; rw [givF_len]; exact hown, hB⟩)
        clear hown hB
        go_wp2_with fail
        go_ret2
        exact hF.out

/-- How a mean is told. -/
def Mnd (w : World) (ds : List Int) (v : Int) (e : Ending) (w' : World) : Prop := e = .returned (.tuple #[.int .i64 (mean1 ds v), .int .i64 (mean2 ds v), .bool (meanOk ds v)]) ∧ Below w.heap.size w w'
theorem mean_no {ds : List Int} {v : Int} (h : meanOk ds v = false) : mean1 ds v = 0 ∧ mean2 ds v = 0 := by
  unfold mean1 mean2
  rw [h]
  exact ⟨rfl, rfl⟩
end Go.Proofs.Ytbndonfpdioibaa
