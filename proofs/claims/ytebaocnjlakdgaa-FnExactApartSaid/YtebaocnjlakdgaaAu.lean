/- Whether two variables hang on each other nowhere: the program's function. -/
import Derived.Test.YtebaocnjlakdgaaAt
import Derived.Test.YtebaocnjlakdgaaAq
namespace Go.Proofs.Ytebaocnjlakdgaa
set_option maxRecDepth 100000
set_option linter.unusedVariables false
open Go.RowKit

theorem eqTwo (a b c d : Int) (w : World) : (Op.equalIn 10000 91 (.agg #[.int .u64 a, .int .u64 b]) (.agg #[.int .u64 c, .int .u64 d])).run Try.prog w = .ok (a == c && b == d) w := by
  have u3 := Try.underlying89
  have a3 := Try.isAgg89
  have z3 := Try.sizeOf89
  have hS : Try.prog.underlying 91 = some (.struct (Try.prog.fieldsOf 91)) := by kernel_rfl
  rw [show (10000 : Nat) = 9999 + 1 from rfl, run_equalIn_agg w 9999 91 _ _ hS (by kernel_rfl)]
  simp only [Program.fieldsOf, Try.underlying91]
  go_simp
  by_cases h1 : a = c <;> by_cases h2 : b = d <;> simp [h1, h2]
theorem tally_sum (x y : Int) (wx : World) : (Instr.field 87 (.agg #[.int .i64 x, .int .i64 y]) 0).run Try.prog wx = .ok (.int .i64 x) wx := by kernel_rfl
theorem two_eq {P Q : Int} : (P / 18446744073709551616 == Q / 18446744073709551616 && P % 18446744073709551616 == Q % 18446744073709551616) = decide (P = Q) := by
  by_cases h : P = Q
  · subst h; simp
  · rw [decide_eq_false h]
    by_cases h1 : P / 18446744073709551616 = Q / 18446744073709551616
    · have h2 : P % 18446744073709551616 ≠ Q % 18446744073709551616 := by omega
      simp [h2]
    · simp [h1]

set_option maxHeartbeats 4000000 in
theorem Apart_any (A : Option Addr) (n c : Nat) (ds : List Int) (a b : Int) (w : World) (h : Ils w w.heap.size A n ds) (hn : n ≤ maxLen) :
    Calls Try.prog 28 #[.slice A n c, .int .i64 a, .int .i64 b] w (Apd w ds a b) := by
  have hI := Lib.hid h
  have hnm := Lib.hid hn
  have cA := Lib.hid (MarginalOf_any A n c ds a w h hn)
  have cB := Lib.hid (fun wx (hx : Ils wx wx.heap.size A n ds) => MarginalOf_any A n c ds b wx hx hnm.out)
  have hfd := tally_sum
  clear h hn
  unfold Lbd at cA cB
  cases hka : lvOk ds a
  · have hR := Lib.hid (show apartOf ds a b = false by unfold apartOf; rw [hka]; rfl)
    rw [hka] at cA
    clear hka
    go_enter Try.func28, Try.ntmps28
    go_wp2_with fail
    refine cA.out.mono ?_
    rintro e w1 ⟨v1, rfl, hO1, hb⟩
    obtain ⟨A1, c1, rfl, _, hcm1⟩ := hO1.form
    have hB1 := Lib.hid hb
    have hJ1 := Lib.hid hO1.lst
    have hI1 := Lib.hid ((hI.out.below hb).more hb.size)
    clear hO1 hb
    go_wp2_with fail
    refine (cB.out _ hI1.out).mono ?_
    rintro e w2 ⟨v2, rfl, hO2, hb⟩
    obtain ⟨A2, c2, rfl, _, hcm2⟩ := hO2.form
    have hB2 := Lib.hid (hB1.out.trans (hb.mono hB1.out.size))
    have hJ2 := Lib.hid hO2.lst
    have hK2 := Lib.hid ((hJ1.out.below hb).more hb.size)
    have hI2 := Lib.hid ((hI1.out.below hb).more hb.size)
    clear hO2 hb
    go_wp2_with fail
    go_ret
    exact ⟨ret_bool hR.out, hB2.out⟩
  · cases hkb : lvOk ds b
    · have hR := Lib.hid (show apartOf ds a b = false by unfold apartOf; rw [hkb]; simp)
      rw [hka] at cA
      rw [hkb] at cB
      clear hka hkb
      go_enter Try.func28, Try.ntmps28
      go_wp2_with fail
      refine cA.out.mono ?_
      rintro e w1 ⟨v1, rfl, hO1, hb⟩
      obtain ⟨A1, c1, rfl, _, hcm1⟩ := hO1.form
      have hB1 := Lib.hid hb
      have hJ1 := Lib.hid hO1.lst
      have hI1 := Lib.hid ((hI.out.below hb).more hb.size)
      clear hO1 hb
      go_wp2_with fail
      refine (cB.out _ hI1.out).mono ?_
      rintro e w2 ⟨v2, rfl, hO2, hb⟩
      obtain ⟨A2, c2, rfl, _, hcm2⟩ := hO2.form
      have hB2 := Lib.hid (hB1.out.trans (hb.mono hB1.out.size))
      have hJ2 := Lib.hid hO2.lst
      have hK2 := Lib.hid ((hJ1.out.below hb).more hb.size)
      have hI2 := Lib.hid ((hI1.out.below hb).more hb.size)
      clear hO2 hb
      go_wp2_with fail
      go_ret
      exact ⟨ret_bool hR.out, hB2.out⟩
    · by_cases hab : a = b
      · have hR := Lib.hid (show apartOf ds a b = false by unfold apartOf; simp [hab])
        have hab' : (a == b) = true := by simpa using hab
        rw [hka] at cA
        rw [hkb] at cB
        clear hka hkb hab
        go_enter Try.func28, Try.ntmps28
        go_wp2_with fail
        refine cA.out.mono ?_
        rintro e w1 ⟨v1, rfl, hO1, hb⟩
        obtain ⟨A1, c1, rfl, _, hcm1⟩ := hO1.form
        have hB1 := Lib.hid hb
        have hJ1 := Lib.hid hO1.lst
        have hI1 := Lib.hid ((hI.out.below hb).more hb.size)
        clear hO1 hb
        go_wp2_with fail
        refine (cB.out _ hI1.out).mono ?_
        rintro e w2 ⟨v2, rfl, hO2, hb⟩
        obtain ⟨A2, c2, rfl, _, hcm2⟩ := hO2.form
        have hB2 := Lib.hid (hB1.out.trans (hb.mono hB1.out.size))
        have hJ2 := Lib.hid hO2.lst
        have hK2 := Lib.hid ((hJ1.out.below hb).more hb.size)
        have hI2 := Lib.hid ((hI1.out.below hb).more hb.size)
        clear hO2 hb
        go_wp2_with fail
        go_ret
        exact ⟨ret_bool hR.out, hB2.out⟩
      · have hab' : (a == b) = false := by simpa using hab
        have hR := Lib.hid (show apartOf ds a b = crossOk (joint ds a b) by unfold apartOf; rw [hka, hkb]; simp [hab])
        have e1 : margOf ds a = marg ds a := by unfold margOf; rw [if_pos hka]
        have e2 : margOf ds b = marg ds b := by unfold margOf; rw [if_pos hkb]
        obtain ⟨hk, hv⟩ : lstOk 1000000000 ds = true ∧ inB a 0 3 = true := by
          have := hka
          unfold lvOk at this
          rwa [Bool.and_eq_true] at this
        have hv2 : inB b 0 3 = true := by
          have := hkb
          unfold lvOk at this
          rw [Bool.and_eq_true] at this
          exact this.2
        have hLB := Lib.hid (lstOk_bd hk)
        have hA3 := Lib.hid (inB_iff.1 hv)
        have hB3 := Lib.hid (inB_iff.1 hv2)
        obtain rfl : n = 81 := by rw [← hI.out.1]; exact hLB.out.1
        have hS := Lib.hid (show 0 ≤ isum ds ∧ isum ds ≤ 81000000000 by
          have := isum_top (by decide) hLB.out.2
          rw [hLB.out.1] at this
          omega)
        have hM := Lib.hid (fun v x => by
          have := marg_bd (fun x hx => (hLB.out.2 x hx).1) v x 81
          rwa [show ds.take 81 = ds from List.take_of_length_le (by rw [hLB.out.1]; exact Nat.le_refl _)] at this)
        have hg1 := Lib.hid (fun (v : Nat) (hv : v < 3) => show givOk ds a v = true ∧ lvOk (givF ds a v 81) b = true ∧ givOf ds a v = givF ds a v 81 ∧ margOf (givF ds a v 81) b = marg (givF ds a v 81) b from by
          have h1 : givOk ds a v = true := by unfold givOk; rw [hka, inB_yes (by omega)]; rfl
          have h2 : lvOk (givF ds a v 81) b = true := by unfold lvOk; rw [giv_ok (by decide) hk, hv2]; rfl
          exact ⟨h1, h2, by unfold givOf; rw [if_pos h1], by unfold margOf; rw [if_pos h2]⟩)
        have hMg := Lib.hid (fun (v : Nat) (x : Int) => by
          have hgo : lstOk 1000000000 (givF ds a v 81) = true := giv_ok (by decide) hk
          have := marg_bd (fun y hy => ((lstOk_bd hgo).2 y hy).1) b x 81
          rwa [show (givF ds a v 81).take 81 = givF ds a v 81 from List.take_of_length_le (by rw [givF_len]; exact Nat.le_refl _)] at this)
        have hSg := Lib.hid (fun (v : Nat) => show isum (givF ds a v 81) ≤ 81000000000 from by
          have hgo : lstOk 1000000000 (givF ds a v 81) = true := giv_ok (by decide) hk
          have := (isum_top (by decide) (lstOk_bd hgo).2).2
          rw [givF_len] at this
          omega)
        have hCr := Lib.hid (fun (v i : Nat) (hv : v < 3) (hi : i < 3) => show crossAt (joint ds a b) (3 * v + i) = decide (rsum (ev b i) (givF ds a v 81) 0 * isum ds = rsum (ev a v) ds 0 * rsum (ev b i) ds 0) from by
          unfold crossAt
          rw [joint_giv hLB.out.1 hA3.out hB3.out hv hi, joint_sum hLB.out.1 hA3.out hB3.out, show (3 * v + i) / 3 = v by omega, show (3 * v + i) % 3 = i by omega, row_marg hLB.out.1 hA3.out hB3.out hv, col_marg hLB.out.1 hA3.out hB3.out hi])
        have hs1 := hS.out
        have hMs := marg_isum (v := a) hLB.out.1 hA3.out
        have hM0 := Lib.hid (show ∀ x ∈ marg ds a, 0 ≤ x from fun x hx => by
          rw [marg_keyed] at hx
          unfold keyed at hx
          obtain ⟨q, _, rfl⟩ := List.mem_map.1 hx
          exact (hM.out a q).1)
        have hMa := Lib.hid (fun (z : Nat) (hz : z < 3) => marg_at ds a hz)
        have hMb := Lib.hid (fun (z : Nat) (hz : z < 3) => marg_at ds b hz)
        rw [e1] at cA
        rw [e2] at cB
        rw [hka] at cA
        rw [hkb] at cB
        have hlA : (marg ds a).length = 3 := rfl
        have hlB : (marg ds b).length = 3 := rfl
        generalize marg ds a = ma at *
        generalize marg ds b = mb at *
        clear hka hkb hk hv hv2 e1 e2 hab
        go_enter Try.func28, Try.ntmps28
        go_wp2_with fail
        refine cA.out.mono ?_
        rintro e w1 ⟨v1, rfl, hO1, hb⟩
        obtain ⟨A1, c1, rfl, _, hcm1⟩ := hO1.form
        have hB1 := Lib.hid hb
        have hJ1 := Lib.hid hO1.lst
        have hI1 := Lib.hid ((hI.out.below hb).more hb.size)
        clear hO1 hb
        go_wp2_with fail
        refine (cB.out _ hI1.out).mono ?_
        rintro e w2 ⟨v2, rfl, hO2, hb⟩
        obtain ⟨A2, c2, rfl, _, hcm2⟩ := hO2.form
        have hB2 := Lib.hid (hB1.out.trans (hb.mono hB1.out.size))
        have hJ2 := Lib.hid hO2.lst
        have hK2 := Lib.hid ((hJ1.out.below hb).more hb.size)
        have hI2 := Lib.hid ((hI1.out.below hb).more hb.size)
        clear hO2 hb
        rw [hlA] at *
        rw [hlB] at *
        go_wp2_with fail
        refine (tallyOf_any A1 3 c1 ma _ hK2.out (by decide) hM0.out (by rw [hMs]; omega)).mono ?_
        rintro e w3 ⟨rfl, hb⟩
        rw [hMs]
        have hB3' := Lib.hid (hB2.out.trans (hb.mono hB2.out.size))
        have hK3 := Lib.hid ((hK2.out.below hb).more hb.size)
        have hJ3 := Lib.hid ((hJ2.out.below hb).more hb.size)
        have hI3 := Lib.hid ((hI2.out.below hb).more hb.size)
        have hz3 := hB3'.out.size
        clear hb hI2 hI1 hJ1 hK2 hJ2 hB1 hB2 hM0 cA
        generalize isum ds = S at *
        go_wp2_with fail
        go_loopg [48] 3 (fun gn o wr => ∃ k : Nat, k ≤ 3 ∧ gn = 3 - k ∧ o = .int .i64 k ∧ (∀ v i : Nat, v < k → i < 3 → crossAt (joint ds a b) (3 * v + i) = true) ∧ Below w3.heap.size w3 wr)
        case atStart => exact ⟨0, Nat.zero_le _, rfl, rfl, fun v i hv => by omega, Below.refl _ _⟩
        case round =>
          obtain ⟨k, hk, hgn, rfl, hyes, hB⟩ := hrel
          obtain ⟨wq, rfl⟩ : ∃ x, x = wr := ⟨_, rfl⟩
          have hgk : gk = 3 - k := hgn
          have hY := Lib.hid hyes
          have hBq := Lib.hid hB
          clear hgn hyes
          by_cases hlt : k < 3
          · obtain ⟨g, off, one, hg0, hg, hd, c0⟩ := (hK3.out.below hB).at_ hlt
            subst hg0
            have hk0 : (0 : Int) ≤ (k : Int) := by omega
            have hk1 : (k : Int) < 3 := by omega
            obtain ⟨hG1, hG2, hG3, hG4⟩ := hg1.out k hlt
            have hone := Lib.hid (show one = rsum (ev a k) ds 0 from Option.some.inj (hd.symm.trans (hMa.out k hlt)))
            have cG := Lib.hid (GivenOf_any A 81 c ds a k wq ((hI3.out.below hB).more hB.size) hnm.out)
            unfold Lbd at cG
            rw [hG1, hG3] at cG
            clear hd hB hG1 hG3
            go_wp2_with fail
            refine cG.out.mono ?_
            rintro e w4 ⟨v4, rfl, hO, hb⟩
            obtain ⟨A4, c4, rfl, _, hcm4⟩ := hO.form
            have hl4 : (givF ds a k 81).length = 81 := givF_len _ _ _ _
            have cH := Lib.hid (MarginalOf_any A4 81 c4 (givF ds a k 81) b w4 (by have := hO.lst; rwa [hl4] at this) (by decide))
            unfold Lbd at cH
            rw [hG2, hG4] at cH
            have hB4 := Lib.hid (hBq.out.trans (hb.mono hBq.out.size))
            have hz4 := hb.size
            rw [hl4]
            clear hO hb
            go_wp2_with fail
            refine cH.out.mono ?_
            rintro e w5 ⟨v5, rfl, hO, hb⟩
            obtain ⟨A5, c5, rfl, _, hcm5⟩ := hO.form
            have hB5 := Lib.hid (hB4.out.trans (hb.mono hB4.out.size))
            have hK5 := Lib.hid (show Ils w5 w5.heap.size A5 3 (marg (givF ds a k 81) b) from hO.lst)
            have hJ5 := Lib.hid ((hJ3.out.below hB5.out).more hB5.out.size)
            have hl5 : (marg (givF ds a k 81) b).length = 3 := rfl
            have hz5 := hb.size
            rw [hl5]
            clear hO hb cG cH
            go_wp2_with fail
            go_loopg [68] 3 (fun gn o wr => ∃ i : Nat, i ≤ 3 ∧ gn = 3 - i ∧ o = .int .i64 i ∧ (∀ j : Nat, j < i → crossAt (joint ds a b) (3 * k + j) = true) ∧ Below w5.heap.size w5 wr)
            case atStart => exact ⟨0, Nat.zero_le _, rfl, rfl, fun j hj => by omega, Below.refl _ _⟩
            case round =>
              obtain ⟨i, hi, hgn, rfl, hyes, hB⟩ := hrel
              have hgi : _ = 3 - i := hgn
              have hY2 := Lib.hid hyes
              have hBr := Lib.hid hB
              have hBs := Lib.hid (hB5.out.trans (hB.mono hB5.out.size))
              clear hgn hyes
              by_cases hlti : i < 3
              · obtain ⟨g2, off2, oth, hg20, hg2, hd2, d0⟩ := (hJ5.out.below hB).at_ hlti
                obtain ⟨g5, off5, bo, hg50, hg5, hd5, b0⟩ := (hK5.out.below hB).at_ hlti
                subst hg20 hg50
                have hi0 : (0 : Int) ≤ (i : Int) := by omega
                have hi1 : (i : Int) < 3 := by omega
                have hoth : oth = rsum (ev b i) ds 0 := Option.some.inj (hd2.symm.trans (hMb.out i hlti))
                have hbo : bo = rsum (ev b i) (givF ds a k 81) 0 := Option.some.inj (hd5.symm.trans (marg_at _ _ hlti))
                have hAt := hCr.out k i hlt hlti
                have m1 := hM.out a k
                have m2 := hM.out b i
                have m3 := hMg.out k i
                have m4 := hSg.out k
                rw [← hone.out, ← hoth, ← hbo] at hAt
                rw [← hone.out] at m1
                rw [← hoth] at m2
                rw [← hbo] at m3
                have p1 := Lib.hid (fun wx => productOf_any bo S wx (by omega) (by omega))
                have p2 := Lib.hid (fun wx => productOf_any one oth wx (by omega) (by omega))
                have hq := two_eq (P := bo * S) (Q := one * oth)
                rw [← hAt] at hq
                generalize bo * S / 18446744073709551616 = x1 at *
                generalize bo * S % 18446744073709551616 = x2 at *
                generalize one * oth / 18446744073709551616 = y1 at *
                generalize one * oth % 18446744073709551616 = y2 at *
                have hE := eqTwo x1 x2 y1 y2
                rw [hq] at hE
                clear hd2 hd5 hoth hbo hB hq hAt m1 m2 m3 m4
                cases hcr : crossAt (joint ds a b) (3 * k + i)
                · have hN := Lib.hid (hR.out.trans (crossOk_no (by omega) hcr))
                  rw [hcr] at hE
                  clear hcr
                  go_wp2_with fail
                  refine (p1.out _).mono ?_
                  rintro e w6 ⟨rfl, hb⟩
                  have hb6 := Lib.hid hb
                  clear hb
                  go_wp2_with fail
                  refine (p2.out _).mono ?_
                  rintro e w7 ⟨rfl, hb⟩
                  have hb7 := Lib.hid (hb6.out.trans (hb.mono hb6.out.size))
                  clear hb
                  go_wp2_with fail
                  go_ret
                  exact ⟨ret_bool hN.out, hB3'.out.trans ((hBs.out.trans (hb7.out.mono hBs.out.size)).mono hz3)⟩
                · have hY3 := Lib.hid (show ∀ j : Nat, j < i + 1 → crossAt (joint ds a b) (3 * k + j) = true from fun j hj => by
                    rcases Nat.lt_or_eq_of_le (show j ≤ i by omega) with h | h
                    · exact hY2.out j h
                    · rw [h]; exact hcr)
                  rw [hcr] at hE
                  clear hcr
                  go_wp2_with fail
                  refine (p1.out _).mono ?_
                  rintro e w6 ⟨rfl, hb⟩
                  have hb6 := Lib.hid hb
                  clear hb
                  go_wp2_with fail
                  refine (p2.out _).mono ?_
                  rintro e w7 ⟨rfl, hb⟩
                  have hb7 := Lib.hid (hb6.out.trans (hb.mono hb6.out.size))
                  clear hb
                  go_wp2_with fail
                  go_roundg (3 - (i + 1))
                  case measure => omega
                  case rel => exact ⟨i + 1, by omega, rfl, by go_num, hY3.out, hBr.out.trans (hb7.out.mono hBr.out.size)⟩
              · obtain rfl : i = 3 := by omega
                have hY4 := Lib.hid (show ∀ v i : Nat, v < k + 1 → i < 3 → crossAt (joint ds a b) (3 * v + i) = true from fun v i hv hi => by
                  rcases Nat.lt_or_eq_of_le (show v ≤ k by omega) with h | h
                  · exact hY.out v i h hi
                  · rw [h]; exact hY2.out i hi)
                clear hB
                go_wp2_with fail
                go_roundg (3 - (k + 1))
                case measure => omega
                case rel => exact ⟨k + 1, by omega, rfl, by go_num, hY4.out, hBs.out⟩
          · obtain rfl : k = 3 := by omega
            have hN := Lib.hid (hR.out.trans (crossOk_yes (fun q hq => by
              have := hY.out (q / 3) (q % 3) (by omega) (by omega)
              rwa [show 3 * (q / 3) + q % 3 = q by omega] at this)))
            clear hB
            go_wp2_with fail
            go_ret
            exact ⟨ret_bool hN.out, hB3'.out.trans (hBq.out.mono hz3)⟩

end Go.Proofs.Ytebaocnjlakdgaa
