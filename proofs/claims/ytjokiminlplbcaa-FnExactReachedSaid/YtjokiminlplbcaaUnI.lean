/- The program's Unrolled. -/
import Derived.Test.YtjokiminlplbcaaOwn
namespace Go.Proofs.Ytjokiminlplbcaa
set_option maxRecDepth 100000
open Go.RowKit

/-- How Unrolled ends: what it hands back, in memory of its own. -/
def Unrd (w : World) (r : Option (List St)) (e : Ending) (w' : World) : Prop :=
  ∃ v, e = .returned (.tuple #[v, .bool r.isSome]) ∧ Own w' w.heap.size v (r.getD []) ∧ Below w.heap.size w w'

theorem Unrd.no {w w' : World} {r : Option (List St)} (h : r = none) (hb : Below w.heap.size w w') : Unrd w r (.returned (.tuple #[.slice none 0 0, .bool false])) w' := by
  subst h; exact ⟨_, rfl, Own.nil _ _, hb⟩

set_option maxRecDepth 100000 in
set_option maxHeartbeats 1000000 in
theorem Unrolled_any (A : Option Addr) (n c : Nat) (ps : List St) (w : World) (h : Lst w w.heap.size A n ps) (hn : n ≤ c) (hc : c ≤ maxLen) :
    Calls Try.prog 64 #[.slice A n c] w (Unrd w (unrolled ps)) := by
  have hnM := Lib.hid (Nat.le_trans hn hc)
  unfold maxLen at hc
  have hL := Lib.hid h.1
  have hH := Lib.hid h
  clear h
  by_cases h10 : 10 < n
  · have hR := Lib.hid (unrolled_no2 (ps := ps) (by rw [hL.out]; omega))
    go_enter Try.func64, Try.ntmps64
    go_wp2
    go_ret2
    exact Unrd.no hR.out (Below.refl _ _)
  cases hok : ps.all St.ok
  · have hR := Lib.hid (unrolled_no1 hok)
    go_enter Try.func64, Try.ntmps64
    go_wp2_with (go_at_call 94; refine (stmtsOk_any A n c ps _ hH.out hnM.out).mono ?_; rw [hok]; rintro e w1 ⟨rfl, hb1⟩)
    go_ret2
    exact Unrd.no hR.out hb1
  have hOK := Lib.hid hok
  obtain ⟨i0, hi0, hz0, hz1', hz2'⟩ := info_parts info_stmt
  go_enter Try.func64, Try.ntmps64
  go_wp2_with (go_at_call 94; refine (stmtsOk_any A n c ps _ hH.out hnM.out).mono ?_; rw [hok]; rintro e w1 ⟨rfl, hb1⟩)
  have hz1 := hb1.size
  go_loopw [4, 5] (fun l i wr => ∃ (k : Nat) (os : List St), k ≤ n ∧ i = .int .i64 k ∧ Sofar ps k os ∧ os.length ≤ 12 ∧ Own wr w.heap.size l os ∧ Below w.heap.size w wr) (fun _ i _ => n - (intOf i).toNat)
  case atStart => exact ⟨0, [], Nat.zero_le _, rfl, Sofar.start ps, by simp, Own.nil _ _, hb1⟩
  case round =>
    obtain ⟨k, os, hk, rfl, hso, hlen, hown, hb⟩ := hrel
    have hSo := Lib.hid hso
    have hOw := Lib.hid hown
    obtain ⟨A', c', hv, hlc, hcm⟩ := hown.form
    subst hv
    clear hso hown hb1 hz1
    have hz := hb.size
    by_cases hlt : k < n
    · obtain ⟨g, off, s, rfl, hg, hs, hat⟩ := (hH.out.below hb).at_ hlt
      obtain ⟨c0, c1, c2, c3, c4, c5, c6⟩ := hat.open_
      have hS := Lib.hid hs
      clear hs hat c1 c4 c5 c6
      cases hnl : s.notLoop
      · have h7 : (s.k == 7) = true := by unfold St.notLoop at hnl; cases h : (s.k == 7) <;> simp_all
        have hso : s.ok = true := (List.all_eq_true.1 hOK.out) s (List.mem_of_getElem? hS.out)
        obtain ⟨hb1, hb2, hc1, hc2⟩ : 1 ≤ s.b ∧ s.b ≤ 10 ∧ 0 ≤ s.c ∧ s.c ≤ 3 := by
          have h8 := ok_rng (k := s.k) (a := s.a) (b := s.b) (c := s.c) (u := s.u) (v := s.v) (x := s.x) hso
          have h9 : s.k = 7 := by simpa using h7
          omega
        clear hso
        obtain ⟨mb, hmb⟩ : ∃ mb : Nat, s.b = mb := ⟨s.b.toNat, by omega⟩
        obtain ⟨mc, hmc⟩ : ∃ mc : Nat, s.c = mc := ⟨s.c.toNat, by omega⟩
        have hMB : s.b.toNat = mb := by omega
        have hMC : s.c.toNat = mc := by omega
        rw [hmb] at c2 hb1 hb2
        rw [hmc] at c3 hc1 hc2
        have gS1 := fun h => Sofar.none_ hSo.out hS.out hnl h
        have gS2 := fun h => Sofar.loop hSo.out hS.out hnl h
        rw [hMB] at gS1 gS2
        rw [hMC] at gS2
        have hS1 := Lib.hid gS1
        have hS2 := Lib.hid gS2
        clear hmb hmc hMB hMC hnl gS1 gS2
        have hB : ∀ A' L, L = n - (k + 1) → (n - (k + 1) = 0 ∨ A' = some ⟨g, off + (k + 1) * 7, none⟩) → ∀ c1, n - (k + 1) ≤ c1 → c1 ≤ maxLen → ∀ nq, Calls Try.prog 95 #[.slice A' L c1, .int .i64 mb] (wr.drewN nq) fun e w' =>
            e = .returned (.bool (decide (mb ≤ (ps.drop (k + 1)).length) && ((ps.drop (k + 1)).take mb).all St.notLoop)) ∧ Below wr.heap.size (wr.drewN nq) w' := by
          rintro A' L rfl hA c1 h1 h2 nq
          have := bodyOk_any A' (n - (k + 1)) c1 (ps.drop (k + 1)) mb (wr.drewN nq) (((hH.out.below hb).more hz).drop_ hA) h1 h2 (by omega)
          rw [Int.toNat_natCast] at this
          refine this.mono ?_
          rintro e w' ⟨he, hw⟩
          refine ⟨he.trans (ret_bool ?_), hw⟩
          congr 1
          rw [List.length_drop, hL.out, Bool.eq_iff_iff]
          simp
        have HB := Lib.hid hB
        clear hB
        by_cases hck : c = k + 1
        · have hbo := Lib.hid (show (decide (mb ≤ (ps.drop (k + 1)).length) && ((ps.drop (k + 1)).take mb).all St.notLoop) = false by rw [decide_eq_false (by rw [List.length_drop, hL.out]; omega)]; rfl)
          subst hck
          go_wp2
          go_quiet (fail)
          go_wp2_with (go_at_call 95; refine (HB.out _ _ (by omega) (.inl (by omega)) _ (by omega) (by simp [maxLen]) _).mono ?_; rw [hbo.out]; rintro e w1 ⟨rfl, hb1⟩)
          go_ret2
          exact Unrd.no (unrolled_no3 (hS1.out hbo.out)) (hb.trans ((below_drewN (Below.refl _ _) _).trans (hb1.mono hz)))
        have hck' : k + 1 < c := by omega
        clear hck
        cases hbo : (decide (mb ≤ (ps.drop (k + 1)).length) && ((ps.drop (k + 1)).take mb).all St.notLoop)
        · have hBo := Lib.hid hbo
          clear hbo
          go_wp2
          go_quiet (fail)
          go_wp2_with (go_at_call 95; refine (HB.out _ _ (by omega) (.inr rfl) _ (by omega) (by unfold maxLen; omega) _).mono ?_; rw [hBo.out]; rintro e w1 ⟨rfl, hb1⟩)
          go_ret2
          exact Unrd.no (unrolled_no3 (hS1.out hBo.out)) (hb.trans ((below_drewN (Below.refl _ _) _).trans (hb1.mono hz)))
        · have hBo := Lib.hid hbo
          have hfit : k + 1 + mb ≤ n := by
            have := (Bool.and_eq_true_iff.1 hbo).1
            rw [List.length_drop, hL.out] at this
            simp at this
            omega
          clear hbo
          go_wp2
          go_quiet (fail)
          go_wp2_with (go_at_call 95; refine (HB.out _ _ (by omega) (.inr rfl) _ (by omega) (by unfold maxLen; omega) _).mono ?_; rw [hBo.out]; rintro e w1 ⟨rfl, hb1⟩)
          have hBB : Below w.heap.size w w1 := hb.trans ((below_drewN (Below.refl _ _) _).trans (hb1.mono hz))
          have hOw1 := Lib.hid (hOw.out.below (w' := w1) ((below_drewN (Below.refl _ _) _).trans (hb1.mono (Nat.le_refl _))))
          clear hb1
          have hbl : ((ps.drop (k + 1)).take mb).length = mb := by rw [List.length_take, List.length_drop, hL.out]; omega
          have hBL := Lib.hid hbl
          clear hbl
          generalize hbody : (ps.drop (k + 1)).take mb = body at hBo hS2 hBL
          have hBody := Lib.hid hbody
          clear hbody
          go_loopw [4, 8] (fun l i wq => ∃ q : Nat, q ≤ mc ∧ i = .int .i64 q ∧ Own wq w.heap.size l (os ++ rep body q) ∧ Below w.heap.size w wq) (fun _ i _ => mc - (intOf i).toNat)
          case atStart => exact ⟨0, Nat.zero_le _, rfl, by simpa [rep] using hOw1.out, hBB⟩
          case round =>
            obtain ⟨q, hq, rfl, hownq, hbq⟩ := hrel
            have hOq := Lib.hid hownq
            obtain ⟨A2, c2', hv, hlc2, hcm2⟩ := hownq.form
            subst hv
            clear hownq
            have hzq := hbq.size
            have hlq : (os ++ rep body q).length = os.length + q * body.length := by rw [List.length_append, rep_length]
            have hLq := Lib.hid hlq
            clear hlq
            by_cases hqt : q < mc
            · have hlt2 : (os ++ rep body q).length ≤ 60 := by
                rw [hLq.out, hBL.out]
                have : q * mb ≤ 3 * mb := Nat.mul_le_mul_right _ (by omega)
                omega
              have hLst := Lib.hid ((hH.out.below hbq).part (k := k + 1) (m := mb) (by omega) (by omega))
              go_wp2_with (at_builtin; refine wpList_append_own _ rfl (.tmp 50) (.tmp 56) 23 rfl w.heap.size 83 i0 _ 7 56 Try.underlying23 hi0 hz0 hz1' hz2' rfl (by decide) (.slice A2 (os ++ rep body q).length c2') _ _ rfl hOq.out ⟨g, off + (k + 1) * 7, none⟩ mb (c - (k + 1)) (flat body) ?hx ?c1 ?c2 ?c3 ?c4 ?c5 ?c6 ?_)
              case hx => first | rfl | simp [Act.eval]
              case c1 => rw [flat_length, hBL.out]
              case c2 => rw [← hBody.out]; exact hLst.out
              case c3 => exact flat_one body
              case c4 => unfold maxLen; omega
              case c5 => omega
              case c6 => exact hzq
              intro v' w' hown' hgrow _
              have hnew := hOq.out.append_ (news := body) (by rw [hBL.out, List.length_append]; exact hown') (by rw [List.length_append]; exact hgrow) hbq hzq
              have hN1 := Lib.hid hnew.1
              have hN2 := hnew.2
              clear hnew hown' hgrow
              go_wp2
              go_roundw
              case rel => exact ⟨q + 1, by omega, by go_num, by simpa [rep] using hN1.out, hN2⟩
              case measure => (simp [intOf]; try omega)
            · obtain rfl : q = mc := by omega
              have hSF := Lib.hid (hS2.out hBo.out)
              have hEnd := Lib.hid (fun h => unrolled_long hSF.out h)
              by_cases h12 : 12 < os.length + (rep body q).length
              · go_wp2
                go_ret2
                exact Unrd.no (hEnd.out (by rw [List.length_append]; exact h12)) hbq
              · go_wp2
                refine ⟨⟨k + 1 + mb, _, by omega, by go_num, hSF.out, by rw [List.length_append]; omega, hOq.out, hbq⟩, ?_⟩
                simp [intOf]
                omega
      · have h7 : (s.k == 7) = false := by unfold St.notLoop at hnl; cases h : (s.k == 7) <;> simp_all
        have gS2 := Sofar.plain hSo.out hS.out hnl
        have hS2 := Lib.hid gS2
        clear gS2 hnl c2 c3
        have hbs : rep [s] 1 = [s] := rfl
        have hBody := Lib.hid (show (ps.drop k).take 1 = [s] by rw [drop_cons hS.out]; rfl)
        go_wp2
        go_loopw [4, 8] (fun l i wq => ∃ q : Nat, q ≤ 1 ∧ i = .int .i64 q ∧ Own wq w.heap.size l (os ++ rep [s] q) ∧ Below w.heap.size w wq) (fun _ i _ => 1 - (intOf i).toNat)
        case atStart => exact ⟨0, Nat.zero_le _, rfl, by simpa [rep] using hOw.out, hb⟩
        case round =>
          obtain ⟨q, hq, rfl, hownq, hbq⟩ := hrel
          have hOq := Lib.hid hownq
          obtain ⟨A2, c2', hv, hlc2, hcm2⟩ := hownq.form
          subst hv
          clear hownq
          have hzq := hbq.size
          have hlq : (os ++ rep [s] q).length = os.length + q := by rw [List.length_append, rep_length]; simp
          have hLq := Lib.hid hlq
          clear hlq
          by_cases hqt : q < 1
          · have hlt2 : (os ++ rep [s] q).length ≤ 60 := by
              rw [hLq.out]
              omega
            have hLst := Lib.hid ((hH.out.below hbq).part (k := k) (m := 1) (by omega) (by omega))
            go_wp2_with (at_builtin; refine wpList_append_own _ rfl (.tmp 50) (.tmp 56) 23 rfl w.heap.size 83 i0 _ 7 56 Try.underlying23 hi0 hz0 hz1' hz2' rfl (by decide) (.slice A2 (os ++ rep [s] q).length c2') _ _ rfl hOq.out ⟨g, off + k * 7, none⟩ 1 (c - k) (flat [s]) ?hx ?c1 ?c2 ?c3 ?c4 ?c5 ?c6 ?_)
            case hx => first | rfl | simp [Act.eval]
            case c1 => rfl
            case c2 => rw [← hBody.out]; exact hLst.out
            case c3 => exact flat_one [s]
            case c4 => unfold maxLen; omega
            case c5 => omega
            case c6 => exact hzq
            intro v' w' hown' hgrow _
            have hnew := hOq.out.append_ (news := [s]) (by rw [List.length_append]; exact hown') (by rw [List.length_append]; exact hgrow) hbq hzq
            have hN1 := Lib.hid hnew.1
            have hN2 := hnew.2
            clear hnew hown' hgrow
            go_wp2
            go_roundw
            case rel => exact ⟨q + 1, by omega, by go_num, by simpa [rep] using hN1.out, hN2⟩
            case measure => (simp [intOf]; try omega)
          · obtain rfl : q = 1 := by omega
            have hEnd := Lib.hid (fun h => unrolled_long hS2.out h)
            by_cases h12 : 12 < os.length + 1
            · go_wp2
              go_ret2
              exact Unrd.no (hEnd.out (by rw [List.length_append]; exact h12)) hbq
            · go_wp2
              refine ⟨⟨k + 1, _, by omega, by go_num, hS2.out, by rw [List.length_append]; show os.length + 1 ≤ 12; omega, hOq.out, hbq⟩, ?_⟩
              simp [intOf]
              omega
    · obtain rfl : k = n := by omega
      have hY := Lib.hid (unrolled_yes (ps := ps) (os := os) (by rw [hL.out]; omega) hOK.out (hSo.out |> fun h => by rw [← hL.out] at h; exact h.done) hlen)
      go_wp2
      go_ret2
      rw [hY.out]
      exact ⟨_, rfl, hOw.out, hb⟩
end Go.Proofs.Ytjokiminlplbcaa
