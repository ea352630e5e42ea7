/- Whether two variables hang on each other nowhere: the model's function. -/
import Derived.Test.YtebaocnjlakdgaaAs
namespace Go.Proofs.Ytebaocnjlakdgaa
set_option maxRecDepth 100000
set_option linter.unusedVariables false
open Go.RowKit

theorem joint_bd {ds : List Int} {a b : Int} (h0 : ∀ x ∈ ds, 0 ≤ x) : ∀ x ∈ joint ds a b, 0 ≤ x ∧ x ≤ isum ds := by
  intro x hx
  unfold joint keyed at hx
  obtain ⟨q, _, rfl⟩ := List.mem_map.1 hx
  have := rsum_part (v := fun st => if key2 a b st = (q : Int) then 1 else 0) (c := 1) (fun k => by split <;> omega) (ds := ds) 0 h0
  omega
theorem redL_bd {M : Int} {js : List Int} (h : ∀ x ∈ js, 0 ≤ x ∧ x ≤ M) (hM : 0 ≤ M) : ∀ x ∈ redL js, 0 ≤ x ∧ x ≤ M := by
  have hg := gcdF_bd h hM
  unfold redL divL
  split
  · exact h
  · intro x hx
    obtain ⟨d, hd, rfl⟩ := List.mem_map.1 hx
    exact div_bd (h d hd) (by omega)
theorem keyed_bd {N : Nat} {key : Int → Int} {js : List Int} (h0 : ∀ x ∈ js, 0 ≤ x) (k : Nat) (z : Int) : 0 ≤ rsum (fun st => if key st = z then 1 else 0) (js.take k) 0 ∧ rsum (fun st => if key st = z then 1 else 0) (js.take k) 0 ≤ isum js := by
  have h1 := rsum_part (v := fun st => if key st = z then 1 else 0) (c := 1) (fun k => by split <;> omega) (ds := js.take k) 0 (fun x hx => h0 x (List.mem_of_mem_take hx))
  have h2 := (isum_le h0 k).2
  omega
/-- How it is told. -/
def Apd (w : World) (ds : List Int) (a b : Int) (e : Ending) (w' : World) : Prop := e = .returned (.bool (apartOf ds a b)) ∧ Below w.heap.size w w'

set_option maxHeartbeats 4000000 in
theorem specApart_any (A : Option Addr) (n c : Nat) (ds : List Int) (a b : Int) (w : World) (h : Ils w w.heap.size A n ds) (hn : n ≤ maxLen) :
    Calls Try.prog 26 #[.slice A n c, .int .i64 a, .int .i64 b] w (Apd w ds a b) := by
  have hI := Lib.hid h
  have cL := Lib.hid (l4List_any A n c ds w h hn)
  clear h hn
  cases hk : lstOk 1000000000 ds
  · have hR := Lib.hid (show apartOf ds a b = false by unfold apartOf lvOk; rw [hk]; simp)
    rw [hk] at cL
    clear hk
    go_enter Try.func26, Try.ntmps26
    go_wp2_with (first | (go_at_call 62; refine cL.out.mono ?_; rintro e w1 ⟨rfl, hb⟩) | (go_at_call 63; refine (l1Var_any _ _).mono ?_; rintro e w' ⟨rfl, rfl⟩))
    go_ret
    exact ⟨ret_bool hR.out, hb⟩
  · cases hv : inB a 0 3
    · have hR := Lib.hid (show apartOf ds a b = false by unfold apartOf lvOk; rw [hk, hv]; simp)
      rw [hk] at cL
      clear hk
      go_enter Try.func26, Try.ntmps26
      go_wp2_with (first | (go_at_call 62; refine cL.out.mono ?_; rintro e w1 ⟨rfl, hb⟩) | (go_at_call 63; refine (l1Var_any _ _).mono ?_; rintro e w' ⟨rfl, rfl⟩))
      go_ret
      exact ⟨ret_bool hR.out, hb⟩
    · cases hv2 : inB b 0 3
      · have hR := Lib.hid (show apartOf ds a b = false by unfold apartOf lvOk; rw [hk, hv, hv2]; simp)
        rw [hk] at cL
        clear hk
        go_enter Try.func26, Try.ntmps26
        go_wp2_with (first | (go_at_call 62; refine cL.out.mono ?_; rintro e w1 ⟨rfl, hb⟩) | (go_at_call 63; refine (l1Var_any _ _).mono ?_; rintro e w' ⟨rfl, rfl⟩))
        go_ret
        exact ⟨ret_bool hR.out, hb⟩
      · by_cases hab : a = b
        · subst hab
          have hR := Lib.hid (show apartOf ds a a = false by unfold apartOf; simp)
          have haa : (a == a) = true := by simp
          rw [hk] at cL
          clear hk
          go_enter Try.func26, Try.ntmps26
          go_wp2_with (first | (go_at_call 62; refine cL.out.mono ?_; rintro e w1 ⟨rfl, hb⟩) | (go_at_call 63; refine (l1Var_any _ _).mono ?_; rintro e w' ⟨rfl, rfl⟩))
          go_ret
          exact ⟨ret_bool hR.out, hb⟩
        · have hR := Lib.hid (show apartOf ds a b = crossOk (joint ds a b) by unfold apartOf lvOk; rw [hk, hv, hv2]; simp [hab])
          have hab' : (a == b) = false := by simpa using hab
          have hLB := Lib.hid (lstOk_bd hk)
          have ha3 := inB_iff.1 hv
          have hb3 := inB_iff.1 hv2
          have hA3 := Lib.hid ha3
          have hB3 := Lib.hid hb3
          obtain rfl : n = 81 := by rw [← hI.out.1]; exact hLB.out.1
          have hT := Lib.hid (show ds.take 81 = ds from List.take_of_length_le (by rw [hLB.out.1]; exact Nat.le_refl _))
          have hS := Lib.hid (show isum ds ≤ 81000000000 by
            have := (isum_top (by decide) hLB.out.2).2
            rw [hLB.out.1] at this
            omega)
          have hM := Lib.hid (fun k z => keyed_bd (N := 9) (key := key2 a b) (fun x hx => (hLB.out.2 x hx).1) k z)
          rw [hk] at cL
          clear hk ha3 hb3
          go_enter Try.func26, Try.ntmps26
          go_wp2_with (first | (go_at_call 62; refine cL.out.mono ?_; rintro e w1 ⟨rfl, hb⟩) | (go_at_call 63; refine (l1Var_any _ _).mono ?_; rintro e w' ⟨rfl, rfl⟩))
          have hz0 := hb.size
          have hI1 := Lib.hid (hI.out.below hb)
          have hB0 := Lib.hid hb
          clear hb
          refine (l3ZerosN_any 9 (by decide) _).mono ?_
          rintro e w2 ⟨o, rfl, hO, hb⟩
          have hO' : w2.ownsRow w1.heap.size 3 1 o 9 (ints (joint (ds.take 0) a b)) := by
            have := hO
            unfold IOwn at this
            rw [zs_len] at this
            unfold joint
            rw [List.take_zero, keyed_zero]
            exact this
          obtain ⟨A3, c3, rfl, _, _⟩ := owns_form hO'
          obtain ⟨G, cur0, rfl, hwb, _⟩ := owns_open hO' (by decide)
          have hO1 := Lib.hid hO'
          have hB1 := Lib.hid hb
          have hI2 := Lib.hid (((hI1.out).more (B' := w1.heap.size) hz0).below hb)
          clear hO hO' hb
          go_wp2_with fail
          go_loopg [8] 81 (fun gn o wr => ∃ k : Nat, k ≤ 81 ∧ gn = 81 - k ∧ o = .int .i64 k ∧ wr.ownsRow w1.heap.size 3 1 (.slice (some ⟨G, 0, none⟩) 9 c3) 9 (ints (joint (ds.take k) a b)) ∧ Below w1.heap.size w1 wr)
          case atStart => exact ⟨0, Nat.zero_le _, rfl, rfl, hO1.out, hB1.out⟩
          case round =>
            obtain ⟨k, hk, hgn, rfl, hown, hB⟩ := hrel
            have hgk : gk = 81 - k := hgn
            have hB' := Lib.hid hB
            have hOw := Lib.hid hown
            clear hgn
            by_cases hlt : k < 81
            · obtain ⟨g, off, d, rfl, hg, hd, c0⟩ := (((hI1.out).more (B' := w1.heap.size) hz0).below hB).at_ hlt
              have hk0 : (0 : Int) ≤ (k : Int) := by omega
              have hk1 : (k : Int) < 81 := by omega
              have hk2 : 0 ≤ (k : Int) ∧ (k : Int) ≤ 80 := by omega
              have hza := state_val (st := k) (v := a) hk2 hA3.out
              have hzb := state_val (st := k) (v := b) hk2 hB3.out
              have cVa := Lib.hid (fun wx => l1At_v k a wx hk2 hA3.out)
              have cVb := Lib.hid (fun wx => l1At_v k b wx hk2 hB3.out)
              obtain ⟨z, hz⟩ : ∃ z : Nat, key2 a b k = (z : Int) := ⟨(key2 a b k).toNat, by unfold key2; omega⟩
              have hz9 : z < 9 := by unfold key2 at hz; omega
              have hSt := Lib.hid (keyed_step (N := 9) (key := key2 a b) hd hz hz9)
              have hzk : 3 * valueAt k a + valueAt k b = (z : Int) := hz
              generalize valueAt k a = va at *
              generalize valueAt k b = vb at *
              have hw0 : IntKind.i64.wrap (3 * va) = 3 * va := by rw [IntKind.wrap_i64]; omega
              have hw1 : IntKind.i64.wrap (3 * va + vb) = (z : Int) := by rw [IntKind.wrap_i64]; omega
              have hD := hLB.out.2 d (List.mem_of_getElem? hd)
              have hm1 := hM.out k z
              have hs1 := hS.out
              obtain ⟨b2, cur, hbe, hwb, hH, _, _, _, hcl⟩ := owns_open hown (by omega)
              have hbe' : G = b2 := by injection hbe with e; injection e
              subst hbe'
              have hc1 := hcl z (by omega)
              rw [show (ints (joint (ds.take k) a b))[z]? = some (.int .i64 (rsum (fun st => if key2 a b st = (z : Int) then 1 else 0) (ds.take k) 0)) from ints_get (keyed_at 9 (key2 a b) (ds.take k) hz9)] at hc1
              have hfz := hH.frozen z
              have hO2 := Lib.hid (owns_set (x := rsum (fun st => if key2 a b st = (z : Int) then 1 else 0) (ds.take k) 0 + d) hOw.out hz9)
              have hB2 := Lib.hid (hB'.out.setCell (p := ⟨G, z, none⟩) hwb (.int .i64 (rsum (fun st => if key2 a b st = (z : Int) then 1 else 0) (ds.take k) 0 + d)))
              generalize rsum (fun st => if key2 a b st = (z : Int) then 1 else 0) (ds.take k) 0 = sk at *
              have hw : IntKind.i64.wrap (sk + d) = sk + d := by rw [IntKind.wrap_i64]; omega
              have hz00 : (0 : Int) ≤ (z : Int) := by omega
              have hz4 : (z : Int) < 9 := by omega
              clear hown hB hbe hH hcl hd hz hk2 hzk
              go_wp2_with fail
              refine (cVa.out _).mono ?_
              rintro e w3 ⟨rfl, rfl⟩
              go_wp2_with fail
              refine (cVb.out _).mono ?_
              rintro e w3 ⟨rfl, rfl⟩
              go_wp2_with fail
              go_still_tail 12, (by kernel_rfl)
              repeat still_step
              try (refine wpStill_nil ?_)
              try (change wpList _ _ _ _ _ (World.drew _))
              go_wp2_with fail
              go_roundg (81 - (k + 1))
              case measure => omega
              case rel => exact ⟨k + 1, by omega, rfl, by go_num, by unfold joint; rw [← hSt.out]; exact hO2.out, hB2.out.drew⟩
            · obtain rfl : k = 81 := by omega
              rw [hT.out] at hown hOw
              have hJ := joint_bd (a := a) (b := b) (fun x hx => (hLB.out.2 x hx).1)
              have hs1 := hS.out
              have hJ2 := Lib.hid (show ∀ x ∈ joint ds a b, 0 ≤ x ∧ x ≤ 81000000000 from fun x hx => by have := hJ x hx; omega)
              have hJl : (joint ds a b).length = 9 := keyed_len _ _ _
              have hX := Lib.hid (hR.out.trans (crossOk_red hJ2.out (by decide)).symm)
              have hE2 := Lib.hid (redL_bd hJ2.out (by decide))
              have hEl : (redL (joint ds a b)).length = 9 := by unfold redL; rw [divL_len, hJl]
              have hIl := Lib.hid (show Ils wr wr.heap.size (some ⟨G, 0, none⟩) 9 (joint ds a b) from ownI_lst hown)
              have hBw := Lib.hid (hB0.out.trans (hB.mono hz0))
              clear hown hOw hB hJ hB' hgk hs1 hJl
              go_wp2_with fail
              refine (l4Reduced_any (some ⟨G, 0, none⟩) 9 c3 (joint ds a b) _ hIl.out (by decide) (fun x hx => by have := hJ2.out x hx; omega)).mono ?_
              rintro e w4 ⟨oe, rfl, hO, hb⟩
              generalize redL (joint ds a b) = es at *
              have hB4 := Lib.hid (hBw.out.trans (hb.mono hBw.out.size))
              obtain ⟨Ae, ce, rfl, _, _⟩ := hO.form
              rw [hEl]
              have hI4 := Lib.hid (show Ils w4 w4.heap.size Ae 9 es by have := hO.lst; rwa [hEl] at this)
              have hTe := Lib.hid (show es.take 9 = es from List.take_of_length_le (by omega))
              have hz4 := hB4.out.size
              clear hO hb
              go_wp2_with fail
              refine (l3ZerosN_any 3 (by decide) _).mono ?_
              rintro e w5 ⟨o, rfl, hO, hb⟩
              have hOx : w5.ownsRow w4.heap.size 3 1 o 3 (ints (rowK (es.take 0))) := by
                have := hO
                unfold IOwn at this
                rw [zs_len] at this
                unfold rowK
                rw [List.take_zero, keyed_zero]
                exact this
              obtain ⟨Ax, cx, rfl, _, _⟩ := owns_form hOx
              obtain ⟨Gx, curx, rfl, hwx, hHx, _⟩ := owns_open hOx (by decide)
              have hgx5 : Gx < w5.heap.size := hHx.lt
              have hOx1 := Lib.hid hOx
              have hB5 := Lib.hid hb
              clear hO hOx hb hHx
              go_wp2_with fail
              refine (l3ZerosN_any 3 (by decide) _).mono ?_
              rintro e w6 ⟨o, rfl, hO, hb⟩
              have hOy : w6.ownsRow w5.heap.size 3 1 o 3 (ints (colK (es.take 0))) := by
                have := hO
                unfold IOwn at this
                rw [zs_len] at this
                unfold colK
                rw [List.take_zero, keyed_zero]
                exact this
              obtain ⟨Ay, cy, rfl, _, _⟩ := owns_form hOy
              obtain ⟨Gy, cury, rfl, hwy, hHy, _⟩ := owns_open hOy (by decide)
              have hxy : Gx ≠ Gy := by omega
              have hOx2 := Lib.hid (show w6.ownsRow w4.heap.size 3 1 (.slice (some ⟨Gx, 0, none⟩) 3 cx) 3 (ints (rowK (es.take 0))) from owns_but hOx1.out (KeptBut.of_below hb (fun _ => False)) (fun _ _ h => h))
              have hOy1 := Lib.hid hOy
              have hB6 := Lib.hid (hB5.out.trans (hb.mono hB5.out.size))
              have hM1 := Lib.hid (fun k z => keyed_bd (N := 3) (key := fun i => i / 3) (js := es) (fun x hx => (hE2.out x hx).1) k z)
              have hM2 := Lib.hid (fun k z => keyed_bd (N := 3) (key := fun i => i % 3) (js := es) (fun x hx => (hE2.out x hx).1) k z)
              have hSe := Lib.hid (show 0 ≤ isum es ∧ isum es ≤ 729000000000 by
                have := (isum_top (by decide) hE2.out)
                rw [hEl] at this
                omega)
              clear hO hOy hb hHy hOx1
              go_wp2_with fail
              clear hIl hI1 hI2 hBw hB0 hB1 hO1 hI
              go_loopg [12] 9 (fun gn o wr => ∃ k : Nat, k ≤ 9 ∧ gn = 9 - k ∧ o = .int .i64 k ∧ wr.ownsRow w4.heap.size 3 1 (.slice (some ⟨Gx, 0, none⟩) 3 cx) 3 (ints (rowK (es.take k))) ∧ wr.ownsRow w5.heap.size 3 1 (.slice (some ⟨Gy, 0, none⟩) 3 cy) 3 (ints (colK (es.take k))) ∧ Below w4.heap.size w4 wr)
              case atStart => exact ⟨0, Nat.zero_le _, rfl, rfl, hOx2.out, hOy1.out, hB6.out⟩
              case round =>
                obtain ⟨k, hk, hgn, rfl, hox, hoy, hB⟩ := hrel
                have hgk : gk = 9 - k := hgn
                have hB' := Lib.hid hB
                have hOwx := Lib.hid hox
                have hOwy := Lib.hid hoy
                clear hgn
                by_cases hlt : k < 9
                · obtain ⟨g, off, d, hge0, hge, hd, c0⟩ := (hI4.out.below hB).at_ hlt
                  subst hge0
                  have hgx : g ≠ Gx := by omega
                  have hgy : g ≠ Gy := by omega
                  have hk0 : (0 : Int) ≤ (k : Int) := by omega
                  have hk1 : (k : Int) < 9 := by omega
                  obtain ⟨z1, hz1⟩ : ∃ z1 : Nat, (k : Int) / 3 = (z1 : Int) := ⟨k / 3, by omega⟩
                  obtain ⟨z2, hz2⟩ : ∃ z2 : Nat, (k : Int) % 3 = (z2 : Int) := ⟨k % 3, by omega⟩
                  have hz13 : z1 < 3 := by omega
                  have hz23 : z2 < 3 := by omega
                  have hD := hE2.out d (List.mem_of_getElem? hd)
                  have hm1 := hM1.out k z1
                  have hm2 := hM2.out k z2
                  have hs1 := hSe.out
                  obtain ⟨bx, cur, hbe, hwbx, hHx, _, _, _, hclx⟩ := owns_open hox (by omega)
                  have hbe' : Gx = bx := by injection hbe with e; injection e
                  subst hbe'
                  obtain ⟨b2, cur2, hbe2, hwby, hHy, _, _, _, hcly⟩ := owns_open hoy (by omega)
                  have hbe2' : Gy = b2 := by injection hbe2 with e; injection e
                  subst hbe2'
                  have hc1 := hclx z1 (by omega)
                  rw [show (ints (rowK (es.take k)))[z1]? = some (.int .i64 (rsum (fun st => if st / 3 = (z1 : Int) then 1 else 0) (es.take k) 0)) from ints_get (keyed_at 3 (fun i => i / 3) (es.take k) hz13)] at hc1
                  have hfz := hHx.frozen z1
                  have hO2 := Lib.hid (owns_set (x := rsum (fun st => if st / 3 = (z1 : Int) then 1 else 0) (es.take k) 0 + d) hOwx.out hz13)
                  have hB2 := Lib.hid (hB'.out.setCell (p := ⟨Gx, z1, none⟩) hwbx (.int .i64 (rsum (fun st => if st / 3 = (z1 : Int) then 1 else 0) (es.take k) 0 + d)))
                  have hOy2 := Lib.hid (owns_put (g := Gx) (i := z1) (u := .int .i64 (rsum (fun st => if st / 3 = (z1 : Int) then 1 else 0) (es.take k) 0 + d)) hOwy.out hgx5)
                  have hIe2 := Lib.hid (hI4.out.below hB2.out)
                  have hSx := Lib.hid (keyed_step (N := 3) (key := fun i => i / 3) hd hz1 hz13)
                  have hSy := Lib.hid (keyed_step (N := 3) (key := fun i => i % 3) hd hz2 hz23)
                  generalize rsum (fun st => if st / 3 = (z1 : Int) then 1 else 0) (es.take k) 0 = s1 at *
                  have hw : IntKind.i64.wrap (s1 + d) = s1 + d := by rw [IntKind.wrap_i64]; omega
                  have hz10 : (0 : Int) ≤ (z1 : Int) := by omega
                  have hz14 : (z1 : Int) < 3 := by omega
                  have hz20 : (0 : Int) ≤ (z2 : Int) := by omega
                  have hwz1 : IntKind.i64.wrap (z1 : Int) = (z1 : Int) := by rw [IntKind.wrap_i64]; omega
                  have hwz2 : IntKind.i64.wrap (z2 : Int) = (z2 : Int) := by rw [IntKind.wrap_i64]; omega
                  have hz24 : (z2 : Int) < 3 := by omega
                  have hzt : (k : Int).tmod 3 = (z2 : Int) := by rw [Int.tmod_eq_emod_of_nonneg hk0]; exact hz2
                  clear hox hoy hB hbe hbe2 hHx hHy hclx hcly
                  go_wp2_with fail
                  go_still_tail 14, (by kernel_rfl)
                  repeat still_step
                  try (refine wpStill_nil ?_)
                  try (change wpList _ _ _ _ _ (World.drew _))
                  go_wp2_with fail
                  have hO3 := Lib.hid (show ((wr.setCell ⟨Gx, z1, none⟩ (.int .i64 (s1 + d))).drew).ownsRow w4.heap.size 3 1 (.slice (some ⟨Gx, 0, none⟩) 3 cx) 3 (ints (rowK (es.take (k + 1)))) from by unfold rowK; rw [← hSx.out]; exact hO2.out)
                  have hOy3 := Lib.hid (show ((wr.setCell ⟨Gx, z1, none⟩ (.int .i64 (s1 + d))).drew).ownsRow w5.heap.size 3 1 (.slice (some ⟨Gy, 0, none⟩) 3 cy) 3 (ints (colK (es.take k))) from hOy2.out)
                  have hB3 := Lib.hid (show Below w4.heap.size w4 ((wr.setCell ⟨Gx, z1, none⟩ (.int .i64 (s1 + d))).drew) from hB2.out.drew)
                  clear hO2 hOy2 hB2 hIe2 hOwx hOwy hB' hc1 hfz hSx c0
                  generalize (wr.setCell ⟨Gx, z1, none⟩ (.int .i64 (s1 + d))).drew = wt at hO3 hOy3 hB3 ⊢
                  obtain ⟨g', off', d', hge', hge2, hd', c0⟩ := (hI4.out.below hB3.out).at_ hlt
                  obtain ⟨hgg, hoo⟩ : g = g' ∧ off = off' := by injection hge' with e; injection e with e1 e2 _; exact ⟨e1, e2⟩
                  subst hgg hoo
                  obtain rfl : d = d' := by rw [hd] at hd'; exact Option.some.inj hd'
                  obtain ⟨b2, cur2, hbe2, hwby, hHy, _, _, _, hcly⟩ := owns_open hOy3.out (by omega)
                  have hbe2' : Gy = b2 := by injection hbe2 with e; injection e
                  subst hbe2'
                  have hc1 := hcly z2 (by omega)
                  rw [show (ints (colK (es.take k)))[z2]? = some (.int .i64 (rsum (fun st => if st % 3 = (z2 : Int) then 1 else 0) (es.take k) 0)) from ints_get (keyed_at 3 (fun i => i % 3) (es.take k) hz23)] at hc1
                  have hfz := hHy.frozen z2
                  have hO4 := Lib.hid (owns_set (x := rsum (fun st => if st % 3 = (z2 : Int) then 1 else 0) (es.take k) 0 + d) hOy3.out hz23)
                  have hB4' := Lib.hid (hB3.out.setCell (p := ⟨Gy, z2, none⟩) (Nat.le_trans (by omega) hwby) (.int .i64 (rsum (fun st => if st % 3 = (z2 : Int) then 1 else 0) (es.take k) 0 + d)))
                  have hOx4 := Lib.hid (owns_but hO3.out ((KeptBut.refl wt (fun i => i = Gy)).put (p := ⟨Gy, z2, none⟩) (fun _ => rfl) (.int .i64 (rsum (fun st => if st % 3 = (z2 : Int) then 1 else 0) (es.take k) 0 + d))) (fun q hq hq2 => by
                    have : some Gx = some q := hq
                    injection this with this
                    omega))
                  generalize rsum (fun st => if st % 3 = (z2 : Int) then 1 else 0) (es.take k) 0 = s2 at *
                  have hw2 : IntKind.i64.wrap (s2 + d) = s2 + d := by rw [IntKind.wrap_i64]; omega
                  clear hd hd' hge' hbe2 hHy hcly hO3 hOy3 hB3
                  go_still_tail 14, (by kernel_rfl)
                  repeat still_step
                  try (refine wpStill_nil ?_)
                  try (change wpList _ _ _ _ _ (World.drew _))
                  go_wp2_with fail
                  go_roundg (9 - (k + 1))
                  case measure => omega
                  case rel => exact ⟨k + 1, by omega, rfl, by go_num, hOx4.out, by unfold colK; rw [← hSy.out]; exact hO4.out, hB4'.out.drew⟩
                · obtain rfl : k = 9 := by omega
                  rw [hTe.out] at hox hoy
                  have hIx := Lib.hid (ownI_lst hox)
                  have hIy := Lib.hid (ownI_lst hoy)
                  have hIe := Lib.hid ((hI4.out.below hB).more hB.size)
                  have hBf := Lib.hid (hB4.out.trans (hB.mono hz4))
                  clear hox hoy hB hB' hOwx hOwy hgk hOx2 hOy1 hB6 hB5 hB4 hM1 hM2
                  have hrl : (rowK es).length = 3 := keyed_len _ _ _
                  have hcl : (colK es).length = 3 := keyed_len _ _ _
                  have hrb := Lib.hid (show ∀ z : Nat, z < 3 → 0 ≤ (rowK es).getD z 0 ∧ (rowK es).getD z 0 ≤ isum es from fun z hz => by
                    unfold rowK
                    rw [keyed_getD _ _ _ hz]
                    have := keyed_bd (N := 3) (key := fun i => i / 3) (js := es) (fun x hx => (hE2.out x hx).1) 9 z
                    rwa [hTe.out] at this)
                  have hcb := Lib.hid (show ∀ z : Nat, z < 3 → 0 ≤ (colK es).getD z 0 ∧ (colK es).getD z 0 ≤ isum es from fun z hz => by
                    unfold colK
                    rw [keyed_getD _ _ _ hz]
                    have := keyed_bd (N := 3) (key := fun i => i % 3) (js := es) (fun x hx => (hE2.out x hx).1) 9 z
                    rwa [hTe.out] at this)
                  have cS := Lib.hid (fun wx (hx : Ils wx wx.heap.size Ae 9 es) => l3SumS_any Ae 9 ce es wx hx hEl (by decide) (fun x hx => (hE2.out x hx).1) (by have := hSe.out; omega))
                  obtain ⟨wf, rfl⟩ : ∃ x, x = wr := ⟨_, rfl⟩
                  go_wp2_with fail
                  go_loopg [13] 9 (fun gn o wq => ∃ k : Nat, k ≤ 9 ∧ gn = 9 - k ∧ o = .int .i64 k ∧ (∀ i, i < k → crossAt es i = true) ∧ Below wf.heap.size wf wq)
                  case atStart => exact ⟨0, Nat.zero_le _, rfl, rfl, fun i hi => by omega, Below.refl _ _⟩
                  case round =>
                    obtain ⟨k, hk, hgn, rfl, hyes, hBq⟩ := hrel
                    have hBq' := Lib.hid hBq
                    have hBz := Lib.hid (hBf.out.trans (hBq.mono hBf.out.size))
                    have hgk : gk = 9 - k := hgn
                    have hY := Lib.hid hyes
                    clear hgn hyes
                    by_cases hlt : k < 9
                    · obtain ⟨z1, hz1⟩ : ∃ z1 : Nat, (k : Int) / 3 = (z1 : Int) := ⟨k / 3, by omega⟩
                      obtain ⟨z2, hz2⟩ : ∃ z2 : Nat, (k : Int) % 3 = (z2 : Int) := ⟨k % 3, by omega⟩
                      have hz13 : z1 < 3 := by omega
                      have hz23 : z2 < 3 := by omega
                      obtain ⟨g, off, d, hge0, hge, hd, c0⟩ := (hIe.out.below hBq).at_ hlt
                      obtain ⟨gx, offx, dx, hgx0, hgxe, hdx, cx0⟩ := (hIx.out.below hBq).at_ hz13
                      obtain ⟨gy, offy, dy, hgy0, hgye, hdy, cy0⟩ := (hIy.out.below hBq).at_ hz23
                      injection hgx0 with hgx0
                      injection hgx0 with ex1 ex2 _
                      subst ex1 ex2
                      injection hgy0 with hgy0
                      injection hgy0 with ey1 ey2 _
                      subst ey1 ey2
                      rw [Nat.zero_add] at cx0 cy0
                      subst hge0
                      have hk0 : (0 : Int) ≤ (k : Int) := by omega
                      have hk1 : (k : Int) < 9 := by omega
                      have hz10 : (0 : Int) ≤ (z1 : Int) := by omega
                      have hz14 : (z1 : Int) < 3 := by omega
                      have hz20 : (0 : Int) ≤ (z2 : Int) := by omega
                      have hwz1 : IntKind.i64.wrap (z1 : Int) = (z1 : Int) := by rw [IntKind.wrap_i64]; omega
                      have hwz2 : IntKind.i64.wrap (z2 : Int) = (z2 : Int) := by rw [IntKind.wrap_i64]; omega
                      have hz24 : (z2 : Int) < 3 := by omega
                      have hD := hE2.out d (List.mem_of_getElem? hd)
                      have hr1 := hrb.out z1 hz13
                      have hr2 := hcb.out z2 hz23
                      have e1 : (rowK es).getD z1 0 = dx := by rw [List.getD_eq_getElem?_getD, hdx]; rfl
                      have e2 : (colK es).getD z2 0 = dy := by rw [List.getD_eq_getElem?_getD, hdy]; rfl
                      have e3 : es.getD k 0 = d := by rw [List.getD_eq_getElem?_getD, hd]; rfl
                      rw [e1] at hr1
                      rw [e2] at hr2
                      have hs1 := hSe.out
                      have hAt : crossAt es k = !(decide (d * isum es ≠ dx * dy)) := by
                        have t1 : k / 3 = z1 := by omega
                        have t2 : k % 3 = z2 := by omega
                        unfold crossAt
                        rw [t1, t2, e1, e2, e3]
                        by_cases h : d * isum es = dx * dy <;> simp [h]
                      have cS1 := Lib.hid (fun p => cS.out (wr.drewN p) (((hIe.out.below hBq).more hBq.size).below (below_drewN (Below.refl _ _) p)))
                      have cC := Lib.hid (fun wx => l4Cross_any d (isum es) dx dy wx (by omega) (by omega) (by omega) (by omega))
                      clear e1 e2 e3 hd hdx hdy hBq
                      cases hcr : decide (d * isum es ≠ dx * dy)
                      · have hY2 := Lib.hid (show ∀ i, i < k + 1 → crossAt es i = true from fun i hi => by
                          rcases Nat.lt_or_eq_of_le (show i ≤ k by omega) with h | h
                          · exact hY.out i h
                          · rw [h, hAt, hcr]; rfl)
                        unfold Crd at cC
                        rw [hcr] at cC
                        clear hAt hcr
                        go_wp2_with fail
                        go_quiet (first | (go_at_call 49; exact Calls.quiet_of_same (cS1.out _)) | (go_at_call 67; exact Calls.quiet_of (cC.out _)))
                        go_wp2_with fail
                        go_roundg (9 - (k + 1))
                        case measure => omega
                        case rel => exact ⟨k + 1, by omega, rfl, by go_num, hY2.out, below_drewN hBq'.out _⟩
                      · have hN := Lib.hid (hX.out.trans (crossOk_no (by omega) (by rw [hAt, hcr]; rfl)))
                        unfold Crd at cC
                        rw [hcr] at cC
                        clear hAt hcr
                        go_wp2_with fail
                        go_quiet (first | (go_at_call 49; exact Calls.quiet_of_same (cS1.out _)) | (go_at_call 67; exact Calls.quiet_of (cC.out _)))
                        go_wp2_with fail
                        go_ret
                        exact ⟨ret_bool hN.out, below_drewN hBz.out _⟩
                    · obtain rfl : k = 9 := by omega
                      have hN := Lib.hid (hX.out.trans (crossOk_yes hY.out))
                      go_wp2_with fail
                      go_ret
                      exact ⟨ret_bool hN.out, hBz.out⟩

end Go.Proofs.Ytebaocnjlakdgaa
