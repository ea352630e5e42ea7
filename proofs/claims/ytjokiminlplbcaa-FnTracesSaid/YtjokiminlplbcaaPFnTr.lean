/- For every list of bytes: of the drawn program the program tells the traces and the best trace that the model tells; each trace that it tells runs to an end with a weight above 0 and at most the best trace's, in a state in its bounds; it tells them just where the program is well made with at most six draws, and a best one just where there is one. No condition. -/
import Derived.Test.YtjokiminlplbcaaRows
import Derived.Test.YtjokiminlplbcaaTrb
import Derived.Test.YtjokiminlplbcaaDrV
import Derived.ProofKit
import Derived.OpenShut
import Derived.ShutString
import Derived.ChangeOld
import Derived.Below
namespace Go.Proofs.Ytjokiminlplbcaa.fnTraces
open Go.ChangeShapes Go.WideShapes Go.ChangeAt Go.RowKit 
set_option linter.unusedVariables false
set_option maxRecDepth 100000

theorem own : ownKnob Try.prog.godebug = none := by kernel_rfl
theorem laidOut : laidOutB Try.prog = true := by kernel_rfl

theorem bestL_top : ∀ (ls : List Leaf) (b : List Int × Int), ∀ l ∈ ls, l.2.2 ≤ (bestL ls b).2
  | [], b, l, h => by simp at h
  | x :: r, b, l, h => by
    rw [bestL]
    rcases List.mem_cons.1 h with rfl | h
    · have := bestL_ge r (if b.2 < l.2.2 then (l.1, l.2.2) else b)
      split at this
      · rename_i hx
        rw [if_pos hx]
        exact this
      · rename_i hx
        rw [if_neg hx]
        omega
    · exact bestL_top r _ l h
theorem rows_facts (ps : List St) : ∀ ds ∈ rowsT (tracesOf ps), ∃ st wt, runTrace ps ds = some (st, wt) ∧ 0 < wt ∧ wt ≤ (bst (tracesOf ps)).2 ∧ 0 ≤ st ∧ st ≤ 80 ∧ ds.length ≤ 12 := by
  intro ds hd
  unfold rowsT at hd
  obtain ⟨l, hl, rfl⟩ := List.mem_map.1 hd
  have htop := bestL_top _ ([], 0) l hl
  cases ht : tracesOf ps with
  | none => rw [ht] at hl; simp at hl
  | some ls =>
    rw [ht] at hl htop
    unfold tracesOf at ht
    obtain ⟨os, hu, hs⟩ := Option.bind_eq_some_iff.1 ht
    obtain ⟨_, hlen, _, _, hOK⟩ := unrolled_parts hu
    split at hs
    · have hs' : traces os = ls := Option.some.inj hs
      subst hs'
      have hl' : l ∈ traces os := hl
      obtain ⟨h1, h2, _, h4⟩ := traces_fit (fun s hs => List.all_eq_true.1 hOK s hs) hl'
      have h5 : (os.filter St.draws).length ≤ os.length := List.length_filter_le _ _
      refine ⟨l.2.1, l.2.2, ?_, h2, ?_, h1.1, h1.2, by omega⟩
      · unfold runTrace
        rw [hu]
        exact (traces_iff.1 hl').1
      · exact htop
    · cases hs
theorem rows_len (ps : List St) : (rowsT (tracesOf ps)).length ≤ 531441 := by
  unfold rowsT
  rw [List.length_map]
  cases ht : tracesOf ps with
  | none => simp
  | some ls =>
    unfold tracesOf at ht
    obtain ⟨os, hu, hs⟩ := Option.bind_eq_some_iff.1 ht
    obtain ⟨_, hlen, _, _, _⟩ := unrolled_parts hu
    split at hs
    · have hs' : traces os = ls := Option.some.inj hs
      subst hs'
      exact traces_len hlen
    · cases hs
theorem some_iff (ps : List St) : (tracesOf ps).isSome = (decide (0 ≤ countDraws ps) && decide (countDraws ps ≤ 6)) := by
  unfold tracesOf countDraws
  cases hu : unrolled ps with
  | none => rfl
  | some os =>
    show (if (os.filter St.draws).length ≤ 6 then some (traces os) else none).isSome = _
    by_cases h : (os.filter St.draws).length ≤ 6
    · rw [if_pos h]
      simp
      omega
    · rw [if_neg h]
      simp
      omega
theorem best_iff (ps : List St) : decide (0 < (bst (tracesOf ps)).2) = decide (0 < (rowsT (tracesOf ps)).length) := by
  cases hr : rowsT (tracesOf ps) with
  | nil =>
    have h : (tracesOf ps).getD [] = [] := by
      unfold rowsT at hr
      exact List.map_eq_nil_iff.1 hr
    unfold bst
    rw [h]; rfl
  | cons ds r =>
    obtain ⟨_, wt, _, h1, h2, _⟩ := rows_facts ps ds (by rw [hr]; exact List.mem_cons_self)
    rw [decide_eq_true (show 0 < (bst (tracesOf ps)).2 by omega), decide_eq_true (by simp)]
theorem bst_len (ps : List St) : (bst (tracesOf ps)).1.length ≤ 12 := by
  unfold bst
  rcases bestL_mem ((tracesOf ps).getD []) ([], 0) with h | ⟨l, hl, h⟩
  · rw [h]; simp
  · rw [h]
    cases ht : tracesOf ps with
    | none => rw [ht] at hl; simp at hl
    | some ls =>
      rw [ht] at hl
      unfold tracesOf at ht
      obtain ⟨os, hu, hs⟩ := Option.bind_eq_some_iff.1 ht
      obtain ⟨_, hlen, _, _, hOK⟩ := unrolled_parts hu
      split at hs
      · have hs' : traces os = ls := Option.some.inj hs
        subst hs'
        have h1 := (traces_fit (fun s hs => List.all_eq_true.1 hOK s hs) hl).2.2.2
        have h2 : (os.filter St.draws).length ≤ os.length := List.length_filter_le _ _
        show l.1.length ≤ 12
        omega
      · cases hs
theorem rowsV_below' {w w' : World} {base : Nat} {v : Value} {rs : List (List Int)} {vs : List Value} (h : RowsV w base v rs vs) (hb : Below w.heap.size w w') : RowsV w' base v rs vs :=
  h.but (KeptBut.of_below hb (fun _ => False)) (fun _ _ h => h) (fun _ _ _ _ _ h => h)

set_option maxHeartbeats 2000000 in
theorem walk {H : Type} (enc : TypeId × Value → H) (W : World) (base : Nat) (v0 : Value) (d0 : DataW H) (p0 : List MemPlace) (hv0 : Value.okWide Try.prog W .any base 22 v0)
    (h0 : DataW.Trod enc Try.prog W 0 (fun _ => true) true 22 v0 d0 p0) (_ : ∀ x ∈ p0, x.block < W.heap.size) :
    Calls Try.prog 3 #[v0] W fun e w' => e = .returned (.bool true) ∧ Below W.heap.size W w' := by
  obtain ⟨A, n, c, rfl, hn, hc, hb⟩ := open_bytes hv0 h0
  clear hv0 h0
  have hcM := Lib.hid hc
  have hnn : n ≤ 9223372036854775807 := by unfold maxLen at hc; omega
  clear hc
  by_cases h1 : 1048576 < n
  · go_enter Try.func3, Try.ntmps3
    go_wp2_with fail
    go_ret
    exact ⟨rfl, Below.refl _ _⟩
  go_enter Try.func3, Try.ntmps3
  go_wp2_with fail
  refine (DrawTracesOf_any A n c _ hb hn hcM.out).mono ?_
  rintro e w1 ⟨v, ps, rfl, hO, hl11, hB1⟩
  obtain ⟨A1, c1, hv, hlc, hcm⟩ := hO.form
  subst hv
  have hP := Lib.hid hO.lst
  have hB1' := Lib.hid hB1
  have hlc' := Lib.hid hlc
  have hcm' := Lib.hid hcm
  have hbg : ps.length ≤ 1048576 := by omega
  have hplen : ps.length ≤ 9223372036854775807 := by omega
  have cT := Lib.hid (fun wx (hx : Lst wx wx.heap.size A1 ps.length ps) => TracesOf_any A1 ps.length c1 ps wx hx hlc hcm)
  have cS := Lib.hid (fun wx (hx : Lst wx wx.heap.size A1 ps.length ps) => specTracesOf_any A1 ps.length c1 ps wx hx hlc hcm hbg)
  have cB := Lib.hid (fun wx (hx : Lst wx wx.heap.size A1 ps.length ps) => BestTrace_any A1 ps.length c1 ps wx hx hlc hcm)
  have cQ := Lib.hid (fun wx (hx : Lst wx wx.heap.size A1 ps.length ps) => specBestTrace_any A1 ps.length c1 ps wx hx hlc hcm hbg)
  have cD := Lib.hid (fun wx (hx : Lst wx wx.heap.size A1 ps.length ps) => CountDraws_any A1 ps.length c1 ps wx hx hlc hcm)
  have cR := Lib.hid (fun A2 n2 c2 ds wx (hx : Lst wx wx.heap.size A1 ps.length ps) h2 hn2 => RunTrace_any A1 A2 ps.length c1 n2 c2 ps ds wx hx hlc hcm h2 hn2)
  have hrf := Lib.hid (rows_facts ps)
  have hrl := rows_len ps
  have hsi := Lib.hid (some_iff ps)
  have hbi := Lib.hid (best_iff ps)
  have hbl := Lib.hid (bst_len ps)
  unfold TrOa at cT
  unfold TrOd at cS
  unfold Btd at cB cQ
  generalize rowsT (tracesOf ps) = rs at cT cS hrf hrl hbi
  generalize (tracesOf ps).isSome = ok at cT cS hsi
  generalize (bst (tracesOf ps)).1 = bd at cB cQ hbl
  generalize (bst (tracesOf ps)).2 = bw at cB cQ hrf hbi
  generalize decide (0 < bw) = bi at cB cQ hbi
  generalize countDraws ps = cd at cD hsi
  clear hO hB1 hb hlc hcm
  go_wp2_with fail
  refine (cT.out _ hP.out).mono ?_
  rintro e w2 ⟨v2, vs2, rfl, hR2, _, hb2⟩
  obtain ⟨A2, c2, hv2, _, _⟩ := hR2.form
  subst hv2
  have hB2 := Lib.hid (hB1'.out.trans (hb2.mono hB1'.out.size))
  have hP2 := Lib.hid ((hP.out.below hb2).more hb2.size)
  have hR2' := Lib.hid hR2
  clear hR2 hb2
  go_wp2_with fail
  refine (cS.out _ hP2.out).mono ?_
  rintro e w3 ⟨v3, vs3, rfl, hR3, hb3⟩
  obtain ⟨A3, c3, hv3, _, _⟩ := hR3.form
  subst hv3
  have hB3 := Lib.hid (hB2.out.trans (hb3.mono hB2.out.size))
  have hP3 := Lib.hid ((hP2.out.below hb3).more hb3.size)
  have hR23 := Lib.hid (rowsV_below' hR2'.out hb3)
  have hR3' := Lib.hid hR3
  clear hR3 hb3
  go_wp2_with fail
  refine (cB.out _ hP3.out).mono ?_
  rintro e w4 ⟨v4, rfl, hI4, hb4⟩
  obtain ⟨A4, c4, hv4, _, _⟩ := hI4.form
  subst hv4
  have hB4 := Lib.hid (hB3.out.trans (hb4.mono hB3.out.size))
  have hP4 := Lib.hid ((hP3.out.below hb4).more hb4.size)
  have hR24 := Lib.hid (rowsV_below' hR23.out hb4)
  have hR34 := Lib.hid (rowsV_below' hR3'.out hb4)
  have hI4' := Lib.hid hI4
  clear hI4 hb4
  go_wp2_with fail
  refine (cQ.out _ hP4.out).mono ?_
  rintro e w5 ⟨v5, rfl, hI5, hb5⟩
  obtain ⟨A5, c5, hv5, _, _⟩ := hI5.form
  subst hv5
  have hB5 := Lib.hid (hB4.out.trans (hb5.mono hB4.out.size))
  have hP5 := Lib.hid ((hP4.out.below hb5).more hb5.size)
  have hR25 := Lib.hid (rowsV_below' hR24.out hb5)
  have hR35 := Lib.hid (rowsV_below' hR34.out hb5)
  have hI45 := Lib.hid ((hI4'.out.below hb5).lst)
  have hI5' := Lib.hid hI5.lst
  have hbm : bd.length ≤ maxLen := by have := hbl.out; unfold maxLen; omega
  have hz5 := hb5.size
  clear hI5 hb5
  have n1 : (ok != ok) = false := by simp
  have n2 : (bi != bi) = false := by simp
  have n3 : (bw != bw) = false := by simp
  go_wp2_with fail
  refine (wcRows_same A2 A3 rs.length c2 c3 _ _ rs vs2 vs3 _ (by exact hR25.out) (by exact hR35.out) rfl (by omega) (fun ds hd => by
    obtain ⟨_, _, _, _, _, _, _, h⟩ := hrf.out ds hd
    omega)).mono ?_
  rintro e w6 ⟨rfl, q, rfl⟩
  go_wp2_with fail
  refine (wcInts_any A4 A5 bd.length bd.length c4 c5 bd bd _ (by exact hI45.out) (by exact hI5'.out) hbm hbm).mono ?_
  rw [decide_eq_true (rfl : bd = bd)]
  rintro e w7 ⟨rfl, q2, rfl⟩
  go_wp2_with fail
  have hR2f := Lib.hid hR25
  have hP5f := Lib.hid hP5
  go_loopg [73] rs.length (fun gn v wr => ∃ k : Nat, k ≤ rs.length ∧ gn = rs.length - k ∧ v = .int .i64 k ∧ Below w5.heap.size w5 wr)
  case atStart => exact ⟨0, Nat.zero_le _, rfl, rfl, below_drewN (Below.refl _ _) (q + q2)⟩
  case round =>
    obtain ⟨k, hk, hgn, rfl, hB⟩ := hrel
    have hgk : gk = rs.length - k := hgn
    clear hgn
    have hB' := Lib.hid hB
    have hPr := Lib.hid ((hP5.out.below hB).more hB.size)
    have hBW := Lib.hid (hB5.out.trans (hB.mono hB5.out.size))
    by_cases hlt : k < rs.length
    · obtain ⟨g, Ax, cx, ds, rfl, _, hcg, hds, hOx⟩ := (rowsV_below' hR25.out hB).at_ rfl hlt
      obtain ⟨st, wt, hrun, hw1, hw2, hs1, hs2, hd12⟩ := hrf.out ds (List.mem_of_getElem? hds)
      have hIx := Lib.hid hOx.lst
      have hRun := Lib.hid hrun
      have hk0 : (0 : Int) ≤ (k : Int) := by omega
      have hk1 : (k : Int) < (rs.length : Int) := by omega
      have m1 : ¬ wt ≤ 0 := by omega
      have m2 : ¬ bw < wt := by omega
      have m3 : ¬ st < 0 := by omega
      have m4 : ¬ 81 ≤ st := by omega
      clear hOx hds hB hrun
      go_wp2_with fail
      refine (cR.out Ax ds.length cx ds _ hPr.out hIx.out (by unfold maxLen; omega)).mono ?_
      unfold RTd
      rw [hRun.out]
      rintro e w8 ⟨rfl, hb8⟩
      have hB8 := Lib.hid (hB'.out.trans (hb8.mono hB'.out.size))
      clear hb8 hcg
      go_wp2_with fail
      go_roundg (rs.length - (k + 1))
      case measure => omega
      case rel => exact ⟨k + 1, by omega, rfl, by go_num, hB8.out⟩
    · obtain ⟨m, hm⟩ : ∃ m, m = rs.length := ⟨_, rfl⟩
      obtain rfl : k = m := by omega
      have hsi' := hsi.out
      have hbi' := hbi.out
      rw [← hm] at hbi'
      rw [← hm]
      clear hB hcm' hlc'
      by_cases h1 : 0 ≤ cd
      · by_cases h2 : cd ≤ 6
        · obtain rfl : ok = true := by rw [hsi']; simp [h1, h2]
          by_cases h3 : 0 < k
          · obtain rfl : bi = true := by rw [hbi']; simp [h3]
            have h3' : 0 < rs.length := by omega
            clear hsi' hbi'
            go_wp2_with fail
            refine (cD.out _ hPr.out).mono ?_
            rintro e w8 ⟨rfl, hb8⟩
            have hP8 := Lib.hid ((hPr.out.below hb8).more hb8.size)
            have hB8 := Lib.hid (hBW.out.trans (hb8.mono hBW.out.size))
            clear hb8
            go_wp2_with fail
            refine (cD.out _ hP8.out).mono ?_
            rintro e w9 ⟨rfl, hb9⟩
            have hB9 := Lib.hid (hB8.out.trans (hb9.mono hB8.out.size))
            clear hb9
            go_wp2_with fail
            go_ret
            exact ⟨rfl, hB9.out⟩
          · obtain rfl : bi = false := by rw [hbi']; simp; omega
            have h3' : ¬ 0 < rs.length := by omega
            clear hsi' hbi'
            go_wp2_with fail
            refine (cD.out _ hPr.out).mono ?_
            rintro e w8 ⟨rfl, hb8⟩
            have hP8 := Lib.hid ((hPr.out.below hb8).more hb8.size)
            have hB8 := Lib.hid (hBW.out.trans (hb8.mono hBW.out.size))
            clear hb8
            go_wp2_with fail
            refine (cD.out _ hP8.out).mono ?_
            rintro e w9 ⟨rfl, hb9⟩
            have hB9 := Lib.hid (hB8.out.trans (hb9.mono hB8.out.size))
            clear hb9
            go_wp2_with fail
            go_ret
            exact ⟨rfl, hB9.out⟩
        · obtain rfl : ok = false := by rw [hsi']; simp; omega
          by_cases h3 : 0 < k
          · obtain rfl : bi = true := by rw [hbi']; simp [h3]
            have h3' : 0 < rs.length := by omega
            clear hsi' hbi'
            go_wp2_with fail
            refine (cD.out _ hPr.out).mono ?_
            rintro e w8 ⟨rfl, hb8⟩
            have hP8 := Lib.hid ((hPr.out.below hb8).more hb8.size)
            have hB8 := Lib.hid (hBW.out.trans (hb8.mono hBW.out.size))
            clear hb8
            go_wp2_with fail
            refine (cD.out _ hP8.out).mono ?_
            rintro e w9 ⟨rfl, hb9⟩
            have hB9 := Lib.hid (hB8.out.trans (hb9.mono hB8.out.size))
            clear hb9
            go_wp2_with fail
            go_ret
            have h2e : decide (cd ≤ 6) = false := decide_eq_false (by omega)
            exact ⟨by simp [h2e], hB9.out⟩
          · obtain rfl : bi = false := by rw [hbi']; simp; omega
            have h3' : ¬ 0 < rs.length := by omega
            clear hsi' hbi'
            go_wp2_with fail
            refine (cD.out _ hPr.out).mono ?_
            rintro e w8 ⟨rfl, hb8⟩
            have hP8 := Lib.hid ((hPr.out.below hb8).more hb8.size)
            have hB8 := Lib.hid (hBW.out.trans (hb8.mono hBW.out.size))
            clear hb8
            go_wp2_with fail
            refine (cD.out _ hP8.out).mono ?_
            rintro e w9 ⟨rfl, hb9⟩
            have hB9 := Lib.hid (hB8.out.trans (hb9.mono hB8.out.size))
            clear hb9
            go_wp2_with fail
            go_ret
            have h2e : decide (cd ≤ 6) = false := decide_eq_false (by omega)
            exact ⟨by simp [h2e], hB9.out⟩
      · obtain rfl : ok = false := by rw [hsi']; simp; omega
        by_cases h3 : 0 < k
        · obtain rfl : bi = true := by rw [hbi']; simp [h3]
          have h3' : 0 < rs.length := by omega
          clear hsi' hbi'
          go_wp2_with fail
          refine (cD.out _ hPr.out).mono ?_
          rintro e w8 ⟨rfl, hb8⟩
          have hB8 := Lib.hid (hBW.out.trans (hb8.mono hBW.out.size))
          clear hb8
          go_wp2_with fail
          go_ret
          exact ⟨rfl, hB8.out⟩
        · obtain rfl : bi = false := by rw [hbi']; simp; omega
          have h3' : ¬ 0 < rs.length := by omega
          clear hsi' hbi'
          go_wp2_with fail
          refine (cD.out _ hPr.out).mono ?_
          rintro e w8 ⟨rfl, hb8⟩
          have hB8 := Lib.hid (hBW.out.trans (hb8.mono hBW.out.size))
          clear hb8
          go_wp2_with fail
          go_ret
          exact ⟨rfl, hB8.out⟩

set_option maxRecDepth 100000 in
theorem lifted (os : Os) (started : os.Started) (H : Type) (enc : TypeId × Value → H) :
    ReturnsInHanded {} Try.checked os 3 .any (Rows.fnTracesSpec.pre6 enc Try.prog Try.f3 Rows.fnTracesRow.domain false) (Rows.fnTracesSpec.post enc Try.prog Try.f3 false true false false) := by
  refine returnsInHanded_of_change (C := Try.checked) own started (by kernel_rfl) Try.func3
    (ChangeSpec.witness6 (enc := enc) (C := Try.checked) false ⟨#[], #[.slice none 0 0], []⟩ 8 (by kernel_rfl) (by kernel_rfl) (by kernel_rfl) (by kernel_rfl)) ?_
  intro W base args ds gs before hval0 hW hcnd _
  have hval : ∀ (j : Nat) t v, Try.f3.params[j]? = some t → args[j]? = some v → Value.okWide Try.prog W .any base t v := hval0
  have hW' := hW
  obtain ⟨p, q, hA0, hV, rfl, hfz, hnd⟩ := hW
  have hA : DataW.TrodAll enc Try.prog W 0 (fun _ => true) true Try.f3.params.toList args.toList ds p := hA0
  rw [Try.params3] at hA hval
  obtain ⟨v0, vs0, d0, ds0, p0, q0, hargs, rfl, rfl, h0, r0⟩ := trodAll_cons hA
  obtain ⟨rfl, rfl, rfl⟩ := trodAll_nil r0
  obtain rfl : args = #[v0] := by cases args; simp_all
  obtain ⟨rfl, rfl⟩ := trodVars_none hV
  have lt0 : ∀ x ∈ p0, x.block < W.heap.size := by
    obtain ⟨m, hm⟩ := h0
    exact DataW.trod_lt m _ _ _ hm
  clear hA0 hval0
  refine (walk enc W base v0 d0 p0 (hval 0 22 v0 rfl rfl) h0 lt0).mono fun e W' ⟨he, bel⟩ => ?_
  subst he
  exact ⟨_, rfl, _, _, _, [], _, [], hW', trodAll_mk1 (shut_bool Try.underlying4 _), (trodAll_cons_mk (Below.trod laidOut (by kernel_rfl) (of_decide_eq_true (by kernel_rfl)) h0 bel lt0) trodAll_mk0), rfl, bel.frame _, fun h => by cases h⟩

theorem proved : Rows.FnTracesSaid :=
  OpenClaim.holds_of_wide 3 Try.f3 rfl rfl rfl rfl rfl rfl rfl ⟨rfl, rfl, rfl, rfl, rfl⟩ rfl rfl rfl rfl rfl (by kernel_rfl) Try.func3 (by kernel_rfl)
    (of_decide_eq_true (by kernel_rfl)) (by unfold Func.isWrapper; first | (rw [if_pos (by decide +kernel)]; kernel_rfl) | (rw [if_neg (by decide +kernel)]; exact ⟨rfl, rfl⟩))
    (fun os started H enc _ => lifted os started H enc)
end Go.Proofs.Ytjokiminlplbcaa.fnTraces
