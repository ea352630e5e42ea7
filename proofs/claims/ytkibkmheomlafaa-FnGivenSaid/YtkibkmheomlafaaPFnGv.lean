/- For every list of bytes: of the drawn list and variable the program's MarginalOf, MeanOf and GivenOf return what the model's return; the sum of what is given for a value is that value's weight, what is given over all values is the list, and there is a mean just where it is not all 0, which is a fraction in lowest terms where there is one. No condition. -/
import Derived.Test.YtkibkmheomlafaaRows
import Derived.Test.YtkibkmheomlafaaDi
import Derived.Test.YtkibkmheomlafaaAc
import Derived.Test.YtkibkmheomlafaaAr
import Derived.Test.YtkibkmheomlafaaWs
import Derived.Test.YtkibkmheomlafaaNm
import Derived.Test.YtkibkmheomlafaaKt
import Derived.Test.YtkibkmheomlafaaOpB
import Derived.ProofKit
import Derived.OpenShut
import Derived.ShutString
import Derived.ChangeOld
import Derived.Below
namespace Go.Proofs.Ytkibkmheomlafaa.fnGiven
open Go.ChangeShapes Go.WideShapes Go.ChangeAt Go.RowKit 
set_option linter.unusedVariables false
set_option maxRecDepth 100000

theorem own : ownKnob Try.prog.godebug = none := by kernel_rfl
theorem laidOut : laidOutB Try.prog = true := by kernel_rfl

/-- What has the first values of a variable, up to a state one value more. -/
def gs (ds : List Int) (v : Int) (k j : Nat) : List Int := (List.range 81).map fun (q : Nat) => if valueAt q v < ((if q < j then k + 1 else k : Nat) : Int) then ds.getD q 0 else 0
theorem gs_len (ds : List Int) (v : Int) (k j : Nat) : (gs ds v k j).length = 81 := by simp [gs]
theorem gs_at (ds : List Int) (v : Int) (k j : Nat) {q : Nat} (hq : q < 81) : (gs ds v k j)[q]? = some (if valueAt q v < ((if q < j then k + 1 else k : Nat) : Int) then ds.getD q 0 else 0) := by
  unfold gs
  rw [List.getElem?_map, List.getElem?_range hq]; rfl
theorem gs_zero {ds : List Int} {v : Int} (hv : 0 ≤ v ∧ v ≤ 3) : gs ds v 0 0 = zs 81 := by
  apply List.ext_getElem?
  intro q
  by_cases hq : q < 81
  · rw [gs_at _ _ _ _ hq, if_neg (by have := state_val (st := q) (v := v) (by omega) hv; rw [if_neg (by omega)]; omega)]
    unfold zs
    rw [List.getElem?_replicate, if_pos hq]
  · rw [List.getElem?_eq_none (by rw [gs_len]; omega), List.getElem?_eq_none (by rw [zs_len]; omega)]
theorem gs_next (ds : List Int) (v : Int) (k : Nat) : gs ds v k 81 = gs ds v (k + 1) 0 := by
  apply List.ext_getElem?
  intro q
  by_cases hq : q < 81
  · rw [gs_at _ _ _ _ hq, gs_at _ _ _ _ hq, if_pos (show q < 81 from hq), if_neg (show ¬ q < 0 by omega)]
  · rw [List.getElem?_eq_none (by rw [gs_len]; omega), List.getElem?_eq_none (by rw [gs_len]; omega)]
theorem gs_all {ds : List Int} {v : Int} (hl : ds.length = 81) (hv : 0 ≤ v ∧ v ≤ 3) : gs ds v 3 0 = ds := by
  apply List.ext_getElem?
  intro q
  by_cases hq : q < 81
  · rw [gs_at _ _ _ _ hq, if_pos (by have := state_val (st := q) (v := v) (by omega) hv; rw [if_neg (by omega)]; omega), List.getElem?_eq_getElem (by omega), List.getD_eq_getElem?_getD, List.getElem?_eq_getElem (by omega)]
    rfl
  · rw [List.getElem?_eq_none (by rw [gs_len]; omega), List.getElem?_eq_none (by omega)]
theorem gs_step {ds : List Int} {v : Int} {k j : Nat} {s g : Int} (hj : j < 81) (hs : (gs ds v k j)[j]? = some s) (hg : (givF ds v k 81)[j]? = some g) : (gs ds v k j).set j (s + g) = gs ds v k (j + 1) := by
  rw [gs_at _ _ _ _ hj, if_neg (show ¬ j < j by omega)] at hs
  rw [givF_at _ _ _ _ hj] at hg
  injection hs with hs
  injection hg with hg
  apply List.ext_getElem?
  intro q
  by_cases hq : q < 81
  · by_cases he : q = j
    · subst he
      rw [List.getElem?_set_self (by rw [gs_len]; exact hq), gs_at _ _ _ _ hq, if_pos (show q < q + 1 by omega), ← hs, ← hg]
      congr 1
      by_cases h1 : valueAt q v < (k : Int)
      · rw [if_pos h1, if_neg (by omega), if_pos (by omega), Int.add_zero]
      · by_cases h2 : valueAt q v = (k : Int)
        · rw [if_neg h1, if_pos ⟨hq, h2⟩, if_pos (by omega), Int.zero_add]
        · rw [if_neg h1, if_neg (by omega), if_neg (by omega), Int.zero_add]
    · rw [List.getElem?_set_ne (by omega), gs_at _ _ _ _ hq, gs_at _ _ _ _ hq]
      congr 1
      by_cases h3 : q < j
      · rw [if_pos h3, if_pos (show q < j + 1 by omega)]
      · rw [if_neg h3, if_neg (show ¬ q < j + 1 by omega)]
  · rw [List.getElem?_eq_none (by rw [List.length_set, gs_len]; omega), List.getElem?_eq_none (by rw [gs_len]; omega)]
theorem lv_parts {ds : List Int} {v : Int} (h : lvOk ds v = true) : lstOk 1000000000 ds = true ∧ inB v 0 3 = true := by
  unfold lvOk at h
  rwa [Bool.and_eq_true] at h
theorem make81 : ∀ wx : World, (Instr.makeSlice 29 (.int .i64 81) (.int .i64 81)).run Try.prog wx = .ok (.slice (some ⟨wx.heap.size, 0, none⟩) 81 81) (wx.alloc (.cells (madeCells (Value.int .i64 0).cells (81 * 1)) 3)) := by
  intro wx
  obtain ⟨i0, hi0, hz0, hz1', hz2'⟩ := info_parts info_int
  have hr := run_make (P := Try.prog) wx 29 3 i0 _ Try.underlying29 hi0 hz0 .i64 .i64 81 81 (by omega) (by omega) (by rw [hz2']; omega) (by omega)
  rw [hz1'] at hr
  exact hr
theorem made_zs : (madeCells #[.int .i64 0] 81).toList = ints (zs 81) := by kernel_rfl
theorem gv_sum {ds : List Int} {v x : Int} (hl : ds.length = 81) : isum (givF ds v x 81) = rsum (ev v x) ds 0 := by
  have h := rsum_giv (fun _ => 1) (v := v) (x := x) hl 81 (Nat.le_refl _)
  rw [rsum_one', List.take_of_length_le (by omega)] at h
  rw [givF_all, h]
  exact rsum_congr ds 0 fun i _ _ => Int.mul_one _

set_option maxHeartbeats 4000000 in
theorem walk {H : Type} (enc : TypeId × Value → H) (W : World) (base : Nat) (v0 : Value) (d0 : DataW H) (p0 : List MemPlace) (hv0 : Value.okWide Try.prog W .any base 22 v0)
    (h0 : DataW.Trod enc Try.prog W 0 (fun _ => true) true 22 v0 d0 p0) (_ : ∀ x ∈ p0, x.block < W.heap.size) :
    Calls Try.prog 10 #[v0] W fun e w' => e = .returned (.bool true) ∧ Below W.heap.size W w' := by
  obtain ⟨A, n, c, rfl, hn, hc, hb⟩ := open_bytes hv0 h0
  clear hv0 h0
  have hcM := Lib.hid hc
  have hnn : n ≤ 9223372036854775807 := by unfold maxLen at hc; omega
  clear hc
  by_cases h1 : 1048576 < n
  · go_enter Try.func10, Try.ntmps10
    go_wp2_with fail
    go_ret
    exact ⟨rfl, Below.refl _ _⟩
  go_enter Try.func10, Try.ntmps10
  go_wp2_with fail
  refine (DrawMarginalOf_any A n c _ hb hn hcM.out).mono ?_
  rintro e w1 ⟨u, ds, v, rfl, hO, hl, hB1⟩
  obtain ⟨AP, cP, hv, hlcP, hcmP⟩ := hO.form
  subst hv
  have hP1 := Lib.hid hO.lst
  have hB1' := Lib.hid hB1
  clear hB1 hb
  have hB1 := hB1'
  clear hB1'
  have hdm : ds.length ≤ maxLen := by unfold maxLen; omega
  have kM := Lib.hid (fun wx hx => MarginalOf_any AP ds.length cP ds v wx hx hdm)
  have kMS := Lib.hid (fun wx hx => specMarginalOf_any AP ds.length cP ds v wx hx hdm)
  have kN := Lib.hid (fun wx hx => MeanOf_any AP ds.length cP ds v wx hx hdm)
  have kNS := Lib.hid (fun wx hx => specMeanOf_any AP ds.length cP ds v wx hx hdm)
  have kG := Lib.hid (fun x wx hx => GivenOf_any AP ds.length cP ds v x wx hx hdm)
  have kGS := Lib.hid (fun x wx hx => specGivenOf_any AP ds.length cP ds v x wx hx hdm)
  have hml := Lib.hid (margOf_len ds v)
  unfold Lbd at kM kMS kG kGS
  unfold Mnd at kN kNS
  have n1 : (lvOk ds v != lvOk ds v) = false := by simp
  have n2 : (meanOk ds v != meanOk ds v) = false := by simp
  have n3 : (mean1 ds v != mean1 ds v) = false := by simp
  have n4 : (mean2 ds v != mean2 ds v) = false := by simp
  have hmm : (margOf ds v).length ≤ maxLen := by have := hml.out; unfold maxLen; omega
  clear hO
  go_wp2_with fail
  refine (kM.out _ hP1.out).mono ?_
  rintro e w2 ⟨v3, rfl, hO3, hb⟩
  have hP2 := Lib.hid ((hP1.out.below hb).more hb.size)
  clear hP1
  obtain ⟨AM, cM, hv, hlcM, hcmM⟩ := hO3.form
  subst hv
  have hM2 := Lib.hid hO3.lst
  have hB2 := Lib.hid (hB1.out.trans (hb.mono hB1.out.size))
  clear hb hO3 hB1
  go_wp2_with fail
  refine (kMS.out _ hP2.out).mono ?_
  rintro e w3 ⟨v4, rfl, hO4, hb⟩
  have hP3 := Lib.hid ((hP2.out.below hb).more hb.size)
  clear hP2
  have hM3 := Lib.hid ((hM2.out.below hb).more hb.size)
  clear hM2
  obtain ⟨AX, cX, hv, hlcX, hcmX⟩ := hO4.form
  subst hv
  have hX3 := Lib.hid hO4.lst
  have hB3 := Lib.hid (hB2.out.trans (hb.mono hB2.out.size))
  clear hb hO4 hB2
  go_wp2_with fail
  refine (kN.out _ hP3.out).mono ?_
  rintro e w4 ⟨rfl, hb⟩
  have hP4 := Lib.hid ((hP3.out.below hb).more hb.size)
  clear hP3
  have hM4 := Lib.hid ((hM3.out.below hb).more hb.size)
  clear hM3
  have hX4 := Lib.hid ((hX3.out.below hb).more hb.size)
  clear hX3
  have hB4 := Lib.hid (hB3.out.trans (hb.mono hB3.out.size))
  clear hb hB3
  go_wp2_with fail
  refine (kNS.out _ hP4.out).mono ?_
  rintro e w5 ⟨rfl, hb⟩
  have hP5 := Lib.hid ((hP4.out.below hb).more hb.size)
  clear hP4
  have hM5 := Lib.hid ((hM4.out.below hb).more hb.size)
  clear hM4
  have hX5 := Lib.hid ((hX4.out.below hb).more hb.size)
  clear hX4
  have hB5 := Lib.hid (hB4.out.trans (hb.mono hB4.out.size))
  clear hb hB4
  go_wp2_with fail
  refine (wcInts_any AM AX (margOf ds v).length (margOf ds v).length cM cX (margOf ds v) (margOf ds v) _ hM5.out hX5.out hmm hmm).mono ?_
  rw [decide_eq_true rfl]
  rintro e w6 ⟨rfl, hq8⟩
  have hb : Below w5.heap.size w5 w6 := by obtain ⟨q, rfl⟩ := hq8; exact below_drewN (Below.refl _ _) q
  have hP6 := Lib.hid ((hP5.out.below hb).more hb.size)
  clear hP5
  have hM6 := Lib.hid ((hM5.out.below hb).more hb.size)
  clear hM5
  have hX6 := Lib.hid ((hX5.out.below hb).more hb.size)
  clear hX5
  have hB6 := Lib.hid (hB5.out.trans (hb.mono hB5.out.size))
  clear hb hq8 hB5
  clear hX6
  cases hk : lvOk ds v
  · have hE : margOf ds v = [] := by unfold margOf; rw [hk]; rfl
    have hE2 : meanOk ds v = false := by unfold meanOk; rw [hk]; rfl
    rw [hE, hE2]
    clear n1 n2 n3 n4
    go_wp2_with fail
    go_ret
    exact ⟨rfl, hB6.out⟩
  · obtain ⟨hls, hvb⟩ := lv_parts hk
    have hLB := Lib.hid (lstOk_bd hls)
    have hv3 := inB_iff.1 hvb
    have eM : margOf ds v = marg ds v := by unfold margOf; rw [hk]; rfl
    have eI : meanOk ds v = decide (isum ds ≠ 0) := by unfold meanOk; rw [hk, Bool.true_and]
    have hgok : ∀ x : Nat, x < 3 → givOk ds v (x : Int) = true ∧ givOf ds v (x : Int) = givF ds v (x : Int) 81 := fun x hx => by
      have h1 : givOk ds v (x : Int) = true := by unfold givOk; rw [hk, Bool.true_and]; exact inB_iff.2 ⟨by omega, by omega⟩
      exact ⟨h1, by unfold givOf; rw [h1]; rfl⟩
    have hd81 := hLB.out.1
    have hGk := Lib.hid hgok
    have hsum := Lib.hid (show 0 ≤ isum ds ∧ isum ds ≤ 81000000000 by
      have h1 := (isum_top (by decide) hLB.out.2)
      rw [hd81] at h1
      exact ⟨(isum_nonneg fun x hx => (hLB.out.2 x hx).1), h1.2⟩)
    have hmz := Lib.hid (fun (z : Nat) (hz : z < 3) => marg_bd (fun x hx => (hLB.out.2 x hx).1) v (z : Int) ds.length)
    have hPl := Lib.hid hP6.out
    have hMl := Lib.hid hM6.out
    have hBp := hB6
    rw [eM, marg_len] at hMl ⊢
    rw [hd81] at hPl ⊢
    clear hgok n1 n2 n3 n4
    have hmk := make81
    have hz5 := hBp.out.size
    have hI0 := Lib.hid (show (w6.alloc (.cells (madeCells #[.int .i64 0] 81) 3)).ownsRow w6.heap.size 3 1 (.slice (some ⟨w6.heap.size, 0, none⟩) 81 81) 81 (ints (gs ds v 0 0)) from by
      rw [gs_zero hv3]
      exact IOwn.of_has (Has.new w6 3 _) made_zs (zs_len 81) (Nat.le_refl _) (by decide))
    have hB0 := Lib.hid (show Below w6.heap.size w6 (w6.alloc (.cells (madeCells #[.int .i64 0] 81) 3)) from (Below.refl _ _).alloc (Nat.le_refl _) _)
    go_wp2_with fail
    clear hmk
    generalize w6.alloc (.cells (madeCells #[.int .i64 0] 81) 3) = W0 at hI0 hB0 ⊢
    generalize hFe : w6.heap.size = F at hI0 ⊢
    go_loopg [16] 3 (fun gn y wr => ∃ k : Nat, k ≤ 3 ∧ gn = 3 - k ∧ y = .int .i64 k ∧ wr.ownsRow F 3 1 (.slice (some ⟨F, 0, none⟩) 81 81) 81 (ints (gs ds v k 0)) ∧ Below w6.heap.size w6 wr)
    case atStart => exact ⟨0, Nat.zero_le _, rfl, rfl, hI0.out, hB0.out⟩
    case round =>
      obtain ⟨k, hk, hgn, rfl, hS, hb⟩ := hrel
      have hgk : gk = 3 - k := hgn
      clear hgn
      have hSh := Lib.hid hS
      have hbh := Lib.hid hb
      by_cases hk3 : k < 3
      · obtain ⟨ho1, ho2⟩ := hGk.out k hk3
        have kG' := Lib.hid (fun wx hx => kG.out (k : Int) wx hx)
        have kGS' := Lib.hid (fun wx hx => kGS.out (k : Int) wx hx)
        rw [ho1, ho2] at kG' kGS'
        rw [hd81] at kG' kGS'
        have hP1 := Lib.hid (fun (wx : World) (hx : Below wr.heap.size wr wx) => (hPl.out.below (hb.trans (hx.mono hb.size))).more (Nat.le_trans hb.size hx.size))
        have hFlt : F < wr.heap.size := (World.ownsRow.lt hS F rfl).2
        have hg0 : ∀ x ∈ givF ds v (k : Int) 81, 0 ≤ x ∧ x ≤ 1000000000 := fun x hx => by
          have h1 := giv_ok (v := v) (x := (k : Int)) (show (0 : Int) ≤ 1000000000 by decide) hls
          exact (lstOk_bd h1).2 x hx
        have hg0h := Lib.hid hg0
        have hgsm := gv_sum (v := v) (x := (k : Int)) hd81
        have hmb := hmz.out k hk3
        rw [List.take_of_length_le (Nat.le_refl _)] at hmb
        clear hb hS ho1 ho2
        go_wp2_with fail
        refine (kG'.out _ (hP1.out _ (Below.refl _ _))).mono ?_
        rintro e q1 ⟨g1, rfl, hg1, hbq1⟩
        obtain ⟨AG, cG, hv1, _, _⟩ := hg1.form
        subst hv1
        rw [givF_len]
        have hg1h := Lib.hid hg1
        have hq1 := Lib.hid hbq1
        clear hg1 hbq1
        go_wp2_with fail
        refine (kGS'.out _ (hP1.out _ hq1.out)).mono ?_
        rintro e q2 ⟨g2, rfl, hg2, hbq2⟩
        obtain ⟨AH, cH, hv2, _, _⟩ := hg2.form
        subst hv2
        rw [givF_len]
        have hHq := Lib.hid (fun (wx : World) (hx : Below q2.heap.size q2 wx) => (show Ils wx wx.heap.size AH 81 (givF ds v (k : Int) 81) from by have := hg2.lst; rw [givF_len] at this; exact (this.below hx).more hx.size))
        have hg12 := Lib.hid (show q2.ownsRow wr.heap.size 3 1 (.slice AG 81 cG) 81 (ints (givF ds v (k : Int) 81)) from by have := hg1h.out.below hbq2; unfold IOwn at this; rwa [givF_len] at this)
        have hGq := Lib.hid (fun (wx : World) (hx : Below q2.heap.size q2 wx) => (show Ils wx wx.heap.size AG 81 (givF ds v (k : Int) 81) from ((ownI_lst hg12.out).below hx).more hx.size))
        have hq2 := Lib.hid (hq1.out.trans (hbq2.mono hq1.out.size))
        have hq2s := hq2.out.size
        have hw2 := Lib.hid (hbh.out.trans (hq2.out.mono hbh.out.size))
        obtain ⟨gm, om, d, rfl, hgm, hd, cm⟩ := (hMl.out.below hw2.out).at_ hk3
        have hde : d = rsum (ev v (k : Int)) ds 0 := by
          rw [marg_at ds v hk3] at hd
          injection hd with hd
          exact hd.symm
        rw [← hde] at hgsm hmb
        have hgm2 : gm < q2.heap.size := Nat.lt_of_lt_of_le hgm hw2.out.size
        have hOk := Lib.hid (fun (wx : World) (hx : Below q2.heap.size q2 wx) => (show Below q2.heap.size q2 wx ∧ wx.cell? ⟨gm, om + k, none⟩ = some (.int .i64 d) from ⟨hx, (hx.cell (p := ⟨gm, om + k, none⟩) hgm2).trans cm⟩))
        have hdd : (d != d) = false := by simp
        have hgt : isum (givF ds v (k : Int) 81) ≤ 1000000000000000000 := by rw [hgsm]; have := hsum.out; omega
        have hgn0 : ∀ x ∈ givF ds v (k : Int) 81, 0 ≤ x := fun x hx => (hg0h.out x hx).1
        have hk0 : (0 : Int) ≤ (k : Int) := by omega
        have hk1 : (k : Int) < 3 := by omega
        clear hg2 hbq2 hg1h hd hg0 hde hmb
        go_wp2_with fail
        go_region_held3 (fun wx => Below q2.heap.size q2 wx ∧ wx.cell? ⟨gm, om + k, none⟩ = some (.int .i64 d)) (first | exact hOk.out _ ((Below.refl _ _).drew) | exact hOk.out _ (bt6 (by assumption) hbq) | exact hOk.out _ (below_drewN (Below.refl _ _) _) | exact hOk.out _ (below_drewN (And.left (by assumption)) _) | exact hOk.out _ (bs6 (by assumption)) | exact hOk.out _ (bd6 (by assumption)) | go_keep) (first | (go_at_call 18; refine (wcInts_any AG AH 81 81 cG cH _ _ _ (hGq.out _ (And.left (by assumption))) (hHq.out _ (And.left (by assumption))) (by decide) (by decide)).mono ?_; rw [decide_eq_true rfl]; rintro e q ⟨rfl, t8, rfl⟩) | (go_at_call 24; refine (wcSum_any AG 81 cG _ _ (hGq.out _ (And.left (by assumption))) (by decide) hgn0 hgt).mono ?_; rw [hgsm]; rintro e q ⟨rfl, hbq⟩))
        all_goals
          rename_i hHeld
          have hB3 := Lib.hid hHeld.1
          clear hHeld hbq cm hdd
          generalize q = q3 at hB3 ⊢
          have hS3 := Lib.hid (owns_but hSh.out (KeptBut.of_below (hq2.out.trans (hB3.out.mono hq2s)) (fun _ => False)) (fun _ _ h => h))
          have hG3 := Lib.hid (owns_but hg12.out (KeptBut.of_below hB3.out (fun _ => False)) (fun _ _ h => h))
          have hw3 := Lib.hid (hw2.out.trans (hB3.out.mono hw2.out.size))
          clear hHq hGq hP1 kG' kGS'
          go_wp2_with fail
          obtain ⟨go, rfl⟩ : ∃ go : Nat, go = gk := ⟨_, rfl⟩
          obtain ⟨wo, hwo⟩ : ∃ wo : Nat, wo = wr.heap.size := ⟨_, rfl⟩
          rw [← hwo] at hG3 hFlt
          clear hwo
          go_loopg [131] 81 (fun gn y wr => ∃ j : Nat, j ≤ 81 ∧ gn = 81 - j ∧ y = .int .i64 j ∧ wr.ownsRow F 3 1 (.slice (some ⟨F, 0, none⟩) 81 81) 81 (ints (gs ds v k j)) ∧ wr.ownsRow wo 3 1 (.slice AG 81 cG) 81 (ints (givF ds v (k : Int) 81)) ∧ Below w6.heap.size w6 wr)
          case atStart => exact ⟨0, Nat.zero_le _, rfl, rfl, hS3.out, hG3.out, hw3.out⟩
          case round =>
            obtain ⟨j, hj, hgn, rfl, hS, hG, hb⟩ := hrel
            have hgj : gk = 81 - j := hgn
            clear hgn
            have hSj := Lib.hid hS
            have hGj := Lib.hid hG
            have hbj := Lib.hid hb
            by_cases hj81 : j < 81
            · obtain ⟨gg, cur, rfl, hgb, hgH, _, _, _, hgc⟩ := owns_open hG (by decide)
              obtain ⟨F2, cur2, hF2, _, hSH, _, _, _, hSc⟩ := owns_open hS (by decide)
              have hFF : F = F2 := by injection hF2 with e; injection e
              subst hFF
              have hgl : (givF ds v (k : Int) 81).length = 81 := givF_len _ _ _ _
              have hsl : (gs ds v k j).length = 81 := gs_len _ _ _ _
              obtain ⟨y, hy⟩ : ∃ y, (givF ds v (k : Int) 81)[j]? = some y := ⟨_, List.getElem?_eq_getElem (by omega)⟩
              obtain ⟨s, hs⟩ : ∃ s, (gs ds v k j)[j]? = some s := ⟨_, List.getElem?_eq_getElem (by omega)⟩
              have c0 : wr.cell? ⟨gg, j, none⟩ = some (.int .i64 y) := (hgc j (by omega)).trans (ints_get hy)
              have c1 : wr.cell? ⟨F, j, none⟩ = some (.int .i64 s) := (hSc j (by omega)).trans (ints_get hs)
              have f1 := hSH.frozen j
              have hyb := hg0h.out y (List.mem_of_getElem? hy)
              have hsb : 0 ≤ s ∧ s ≤ 1000000000 := by
                rw [gs_at _ _ _ _ hj81] at hs
                injection hs with hs
                have hdj := hLB.out.2 (ds[j]'(by omega)) (List.getElem_mem _)
                have hgd : ds.getD j 0 = ds[j]'(by omega) := by rw [List.getD_eq_getElem?_getD, List.getElem?_eq_getElem (by omega)]; rfl
                rw [hgd] at hs
                split at hs <;> omega
              have hst := gs_step hj81 hs hy
              have hS2 := Lib.hid (show (wr.setCell ⟨F, j, none⟩ (.int .i64 (s + y))).ownsRow F 3 1 (.slice (some ⟨F, 0, none⟩) 81 81) 81 (ints (gs ds v k (j + 1))) from by rw [← hst]; exact owns_set hSj.out hj81)
              have hG2 := Lib.hid (owns_but hGj.out ((KeptBut.refl wr (fun i => i = F)).put (p := ⟨F, j, none⟩) (fun _ => rfl) (.int .i64 (s + y))) (fun i hi e => by have := (World.ownsRow.lt hGj.out i hi).1; omega))
              have hB2 := Lib.hid (hbj.out.setCell (p := ⟨F, j, none⟩) (by show w6.heap.size ≤ F; omega) (.int .i64 (s + y)))
              have hw1 : IntKind.i64.wrap (s + y) = s + y := by rw [IntKind.wrap_i64]; omega
              have hj0 : (0 : Int) ≤ (j : Int) := by omega
              have hj1 : (j : Int) < 81 := by omega
              clear hS hG hb hgH hSH hgc hSc hy hs hst hgl hsl hF2
              go_wp2_with fail
              go_roundg (81 - (j + 1))
              case measure => omega
              case rel => exact ⟨j + 1, by omega, rfl, by go_num, hS2.out, hG2.out, hB2.out⟩
            · obtain rfl : j = 81 := by omega
              have hS2 := Lib.hid (show wr.ownsRow F 3 1 (.slice (some ⟨F, 0, none⟩) 81 81) 81 (ints (gs ds v (k + 1) 0)) from by rw [← gs_next]; exact hS)
              clear hS hG hb
              go_wp2_with fail
              go_roundg (3 - (k + 1))
              case measure => omega
              case rel => exact ⟨k + 1, by omega, rfl, by go_num, hS2.out, hbj.out⟩
      · obtain rfl : k = 3 := by omega
        rw [show gs ds v ((3 : Nat)) 0 = ds from gs_all hd81 hv3] at hS
        have hSl := Lib.hid (fun (wx : World) (hx : Below wr.heap.size wr wx) => (show Ils wx wx.heap.size (some ⟨F, 0, none⟩) 81 ds from ((ownI_lst hS).below hx).more hx.size))
        have hPw := Lib.hid (fun (wx : World) (hx : Below wr.heap.size wr wx) => (hPl.out.below (hb.trans (hx.mono hb.size))).more (Nat.le_trans hb.size hx.size))
        obtain ⟨gm, om, d1, rfl, hgm, hd1, cm1⟩ := (hMl.out.below hb).at_ (k := 1) (by decide)
        obtain ⟨gm', om', d2, hme, _, hd2, cm2⟩ := (hMl.out.below hb).at_ (k := 2) (by decide)
        obtain ⟨rfl, rfl⟩ : gm = gm' ∧ om = om' := by injection hme with e; injection e with e1 e2 _; exact ⟨e1, e2⟩
        have e1 : d1 = rsum (ev v 1) ds 0 := by injection hd1 with e; exact e.symm
        have e2 : d2 = rsum (ev v 2) ds 0 := by injection hd2 with e; exact e.symm
        have hab : d1 + 2 * d2 = above ds v := by rw [above_marg hd81 hv3, e1, e2]
        have hm1 : 0 ≤ rsum (ev v 1) ds 0 ∧ rsum (ev v 1) ds 0 ≤ isum ds := by have h := hmz.out 1 (by decide); rw [List.take_of_length_le (Nat.le_refl _)] at h; exact h
        have hm2 : 0 ≤ rsum (ev v 2) ds 0 ∧ rsum (ev v 2) ds 0 ≤ isum ds := by have h := hmz.out 2 (by decide); rw [List.take_of_length_le (Nat.le_refl _)] at h; exact h
        have hsb := hsum.out
        have hwa : IntKind.i64.wrap (2 * d2) = 2 * d2 := by rw [IntKind.wrap_i64]; omega
        have hwb : IntKind.i64.wrap (d1 + 2 * d2) = above ds v := by rw [IntKind.wrap_i64]; omega
        have hgm2 : gm < wr.heap.size := Nat.lt_of_lt_of_le hgm hb.size
        have hOk := Lib.hid (fun (wx : World) (hx : Below wr.heap.size wr wx) => (show Below wr.heap.size wr wx ∧ wx.cell? ⟨gm, om + 1, none⟩ = some (.int .i64 d1) ∧ wx.cell? ⟨gm, om + 2, none⟩ = some (.int .i64 d2) from ⟨hx, (hx.cell (p := ⟨gm, om + 1, none⟩) hgm2).trans cm1, (hx.cell (p := ⟨gm, om + 2, none⟩) hgm2).trans cm2⟩))
        have hdn0 : ∀ x ∈ ds, 0 ≤ x := fun x hx => (hLB.out.2 x hx).1
        have hdt : isum ds ≤ 1000000000000000000 := by omega
        have hF1 : meanOk ds v = decide (isum ds ≠ 0) := eI
        have hMean := Lib.hid (show isum ds ≠ 0 → mean1 ds v = low1 (above ds v) (isum ds) ∧ mean2 ds v = low2 (above ds v) (isum ds) from fun h => by
          have : meanOk ds v = true := by rw [eI]; exact decide_eq_true h
          unfold mean1 mean2
          rw [this]
          exact ⟨rfl, rfl⟩)
        have kS := Lib.hid (fun (nq : Nat) => (wcSum_same AP 81 cP ds (wr.drewN nq) (hPw.out _ (below_drewN (Below.refl _ _) nq)) (by decide) hdn0 hdt).mono fun _ _ h => (show _ ∧ _ = wr.drewN nq from ⟨h.1, h.2.symm⟩))
        have kW := Lib.hid (fun wx (hx : Ils wx wx.heap.size AP 81 ds) => wcSum_same AP 81 cP ds wx hx (by decide) hdn0 hdt)
        have hB5 := Lib.hid (hBp.out.trans (hb.mono hz5))
        have hEnd := Lib.hid (fun (wx : World) (hx : Below wr.heap.size wr wx) => hB5.out.trans (hx.mono hB5.out.size))
        cases hfo : fracOk (above ds v) (isum ds)
        · have kF := Lib.hid (fun wx => FractionOf_any (above ds v) (isum ds) wx)
          unfold Frd at kF
          rw [hfo, if_neg (by decide)] at kF
          clear hS hb hMl hPl hGk hme hd1 hd2 e1 e2 hfo hm1 hm2 kG kGS kM kMS kN kNS hLB hmz hsum eM eI hF1 hls hvb hk hv3 hab hB5 hBp
          generalize above ds v = ab at *
          generalize isum ds = sd at *
          go_wp2_with fail
          go_quiet (first | (go_at_call 24; exact Calls.quiet_of_same (kS.out _)) | (go_at_call 45; exact Calls.quiet_of (kF.out _)))
          generalize hwq : wr.drewN _ = wz
          have hBz : Below wr.heap.size wr wz := by rw [← hwq]; exact below_drewN (Below.refl _ _) _
          have hSz := Lib.hid (hSl.out _ hBz)
          have hPz := Lib.hid (hPw.out _ hBz)
          have hBzh := Lib.hid hBz
          clear hwq hBz cm1 cm2 kS kF hOk hSl hPw
          go_wp2_with fail
          refine (wcInts_any (some ⟨F, 0, none⟩) AP 81 81 81 cP ds ds _ hSz.out hPz.out (by decide) (by decide)).mono ?_
          rw [decide_eq_true rfl]
          rintro e w9 ⟨rfl, t9, rfl⟩
          have hP9 := Lib.hid ((hPz.out.below (below_drewN (Below.refl _ _) t9)).more (below_drewN (Below.refl wz.heap.size wz) t9).size)
          go_wp2_with fail
          refine (kW.out _ hP9.out).mono ?_
          rintro e w10 ⟨rfl, rfl⟩
          by_cases h0 : sd = 0
          · have h0' : ¬ 0 < sd := by omega
            go_wp2_with fail
            go_ret
            exact ⟨rfl, hEnd.out _ (below_drewN hBzh.out _)⟩
          · have h0' : 0 < sd := by omega
            obtain ⟨hq1, hq2⟩ := hMean.out h0
            go_wp2_with fail
            go_ret
            exact ⟨rfl, hEnd.out _ (below_drewN hBzh.out _)⟩
        · have kF := Lib.hid (fun wx => FractionOf_any (above ds v) (isum ds) wx)
          unfold Frd at kF
          rw [hfo, if_pos rfl] at kF
          clear hS hb hMl hPl hGk hme hd1 hd2 e1 e2 hfo hm1 hm2 kG kGS kM kMS kN kNS hLB hmz hsum eM eI hF1 hls hvb hk hv3 hab hB5 hBp
          generalize above ds v = ab at *
          generalize isum ds = sd at *
          go_wp2_with fail
          go_quiet (first | (go_at_call 24; exact Calls.quiet_of_same (kS.out _)) | (go_at_call 45; exact Calls.quiet_of (kF.out _)))
          generalize hwq : wr.drewN _ = wz
          have hBz : Below wr.heap.size wr wz := by rw [← hwq]; exact below_drewN (Below.refl _ _) _
          have hSz := Lib.hid (hSl.out _ hBz)
          have hPz := Lib.hid (hPw.out _ hBz)
          have hBzh := Lib.hid hBz
          clear hwq hBz cm1 cm2 kS kF hOk hSl hPw
          go_wp2_with fail
          refine (wcInts_any (some ⟨F, 0, none⟩) AP 81 81 81 cP ds ds _ hSz.out hPz.out (by decide) (by decide)).mono ?_
          rw [decide_eq_true rfl]
          rintro e w9 ⟨rfl, t9, rfl⟩
          have hP9 := Lib.hid ((hPz.out.below (below_drewN (Below.refl _ _) t9)).more (below_drewN (Below.refl wz.heap.size wz) t9).size)
          go_wp2_with fail
          refine (kW.out _ hP9.out).mono ?_
          rintro e w10 ⟨rfl, rfl⟩
          by_cases h0 : sd = 0
          · have h0' : ¬ 0 < sd := by omega
            go_wp2_with fail
            go_ret
            exact ⟨rfl, hEnd.out _ (below_drewN hBzh.out _)⟩
          · have h0' : 0 < sd := by omega
            obtain ⟨hq1, hq2⟩ := hMean.out h0
            go_wp2_with fail
            go_ret
            exact ⟨rfl, hEnd.out _ (below_drewN hBzh.out _)⟩

set_option maxRecDepth 100000 in
theorem lifted (os : Os) (started : os.Started) (H : Type) (enc : TypeId × Value → H) :
    ReturnsInHanded {} Try.checked os 10 .any (Rows.fnGivenSpec.pre6 enc Try.prog Try.f10 Rows.fnGivenRow.domain false) (Rows.fnGivenSpec.post enc Try.prog Try.f10 false true false false) := by
  refine returnsInHanded_of_change (C := Try.checked) own started (by kernel_rfl) Try.func10
    (ChangeSpec.witness6 (enc := enc) (C := Try.checked) false ⟨#[], #[.slice none 0 0], []⟩ 8 (by kernel_rfl) (by kernel_rfl) (by kernel_rfl) (by kernel_rfl)) ?_
  intro W base args ds gs before hval0 hW hcnd _
  have hval : ∀ (j : Nat) t v, Try.f10.params[j]? = some t → args[j]? = some v → Value.okWide Try.prog W .any base t v := hval0
  have hW' := hW
  obtain ⟨p, q, hA0, hV, rfl, hfz, hnd⟩ := hW
  have hA : DataW.TrodAll enc Try.prog W 0 (fun _ => true) true Try.f10.params.toList args.toList ds p := hA0
  rw [Try.params10] at hA hval
  obtain ⟨v0, vs0, d0, ds0, p0, q0, hargs, rfl, rfl, h0, r0⟩ := trodAll_cons hA
  obtain ⟨rfl, rfl, rfl⟩ := trodAll_nil r0
  obtain rfl : args = #[v0] := by cases args; simp_all
  obtain ⟨rfl, rfl⟩ := trodVars_none hV
  have lt0 : ∀ x ∈ p0, x.block < W.heap.size := by
    obtain ⟨m, hm⟩ := h0
    exact DataW.trod_lt m _ _ _ hm
  clear hA0 hval0
  refine (walk enc W base v0 d0 p0 (hval 0 22 v0 rfl rfl) h0 lt0).mono fun e W' ⟨he, bel⟩ => ?_
  subst he
  exact ⟨_, rfl, _, _, _, [], _, [], hW', trodAll_mk1 (shut_bool Try.underlying4 _), (trodAll_cons_mk (Below.trod laidOut (by kernel_rfl) (of_decide_eq_true (by kernel_rfl)) h0 bel lt0) trodAll_mk0), rfl, bel.frame _, fun h => by cases h⟩

theorem proved : Rows.FnGivenSaid :=
  OpenClaim.holds_of_wide 10 Try.f10 rfl rfl rfl rfl rfl rfl rfl ⟨rfl, rfl, rfl, rfl, rfl⟩ rfl rfl rfl rfl rfl (by kernel_rfl) Try.func10 (by kernel_rfl)
    (of_decide_eq_true (by kernel_rfl)) (by unfold Func.isWrapper; first | (rw [if_pos (by decide +kernel)]; kernel_rfl) | (rw [if_neg (by decide +kernel)]; exact ⟨rfl, rfl⟩))
    (fun os started H enc _ => lifted os started H enc)
end Go.Proofs.Ytkibkmheomlafaa.fnGiven
