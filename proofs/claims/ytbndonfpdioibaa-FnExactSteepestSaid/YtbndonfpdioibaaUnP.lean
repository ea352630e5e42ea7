/- The program's Unrolled. The model's Unrolled. What hangs on what a program unrolls to: whether it is one, whether it is plain, how many draws it has. Whether a program is plain (the program's own), and how many draws it has. -/
import Derived.Test.YtbndonfpdioibaaLsO
namespace Go.Proofs.Ytbndonfpdioibaa
set_option maxRecDepth 100000
open Go.RowKit

/-- How Unrolled ends: what it hands back, in memory of its own. -/
def Unrd (w : World) (r : Option (List St)) (e : Ending) (w' : World) : Prop :=
  ∃ v, e = .returned (.tuple #[v, .bool r.isSome]) ∧ Own w' w.heap.size v (r.getD []) ∧ Below w.heap.size w w'

theorem Unrd.no {w w' : World} {r : Option (List St)} (h : r = none) (hb : Below w.heap.size w w') : Unrd w r (.returned (.tuple #[.slice none 0 0, .bool false])) w' := by
  subst h; exact ⟨_, rfl, Own.nil _ _, hb⟩

set_option maxRecDepth 100000 in
set_option maxHeartbeats 1000000 in
theorem Unrolled_any (A : Option Addr) (n c : Nat) (ps : List St) (w : World) (h : Lst w w.heap.size A n ps) (hn : n ≤ c) (hc : c ≤ maxLen) :
    Calls Try.prog 41 #[.slice A n c] w (Unrd w (unrolled ps)) := by
  have hnM := Lib.hid (Nat.le_trans hn hc)
  unfold maxLen at hc
  have hL := Lib.hid h.1
  have hH := Lib.hid h
  clear h
  by_cases h10 : 10 < n
  · have hR := Lib.hid (unrolled_no2 (ps := ps) (by rw [hL.out]; omega))
    go_enter Try.func41, Try.ntmps41
    go_wp2
    go_ret2
    exact Unrd.no hR.out (Below.refl _ _)
  cases hok : ps.all St.ok
  · have hR := Lib.hid (unrolled_no1 hok)
    go_enter Try.func41, Try.ntmps41
    go_wp2_with (go_at_call 88; refine (stmtsOk_any A n c ps _ hH.out hnM.out).mono ?_; rw [hok]; rintro e w1 ⟨rfl, hb1⟩)
    go_ret2
    exact Unrd.no hR.out hb1
  have hOK := Lib.hid hok
  obtain ⟨i0, hi0, hz0, hz1', hz2'⟩ := info_parts info_stmt
  go_enter Try.func41, Try.ntmps41
  go_wp2_with (go_at_call 88; refine (stmtsOk_any A n c ps _ hH.out hnM.out).mono ?_; rw [hok]; rintro e w1 ⟨rfl, hb1⟩)
  have hz1 := hb1.size
  go_loopw [4, 5] (fun l i wr => ∃ (k : Nat) (os : List St), k ≤ n ∧ i = .int .i64 k ∧ Sofar ps k os ∧ os.length ≤ 12 ∧ Own wr w.heap.size l os ∧ Below w.heap.size w wr) (fun _ i _ => n - (intOf i).toNat)
  case atStart => exact ⟨0, [], Nat.zero_le _, rfl, Sofar.start ps, by simp, Own.nil _ _, hb1⟩
  case round =>
    obtain ⟨k, os, hk, rfl, hso, hlen, hown, hb⟩ := hrel
    have hSo := Lib.hid hso
    have hOw := Lib.hid hown
    obtain ⟨A', c', hv, hlc, hcm⟩ := hown.form
    subst hv
    clear hso hown hb1 hz1
    have hz := hb.size
    by_cases hlt : k < n
    · obtain ⟨g, off, s, rfl, hg, hs, hat⟩ := (hH.out.below hb).at_ hlt
      obtain ⟨c0, c1, c2, c3, c4, c5, c6⟩ := hat.open_
      have hS := Lib.hid hs
      clear hs hat c1 c4 c5 c6
      cases hnl : s.notLoop
      · have h7 : (s.k == 7) = true := by unfold St.notLoop at hnl; cases h : (s.k == 7) <;> simp_all
        have hso : s.ok = true := (List.all_eq_true.1 hOK.out) s (List.mem_of_getElem? hS.out)
        obtain ⟨hb1, hb2, hc1, hc2⟩ : 1 ≤ s.b ∧ s.b ≤ 10 ∧ 0 ≤ s.c ∧ s.c ≤ 3 := by
          have h8 := ok_rng (k := s.k) (a := s.a) (b := s.b) (c := s.c) (u := s.u) (v := s.v) (x := s.x) hso
          have h9 : s.k = 7 := by simpa using h7
          omega
        clear hso
        obtain ⟨mb, hmb⟩ : ∃ mb : Nat, s.b = mb := ⟨s.b.toNat, by omega⟩
        obtain ⟨mc, hmc⟩ : ∃ mc : Nat, s.c = mc := ⟨s.c.toNat, by omega⟩
        have hMB : s.b.toNat = mb := by omega
        have hMC : s.c.toNat = mc := by omega
        rw [hmb] at c2 hb1 hb2
        rw [hmc] at c3 hc1 hc2
        have gS1 := fun h => Sofar.none_ hSo.out hS.out hnl h
        have gS2 := fun h => Sofar.loop hSo.out hS.out hnl h
        rw [hMB] at gS1 gS2
        rw [hMC] at gS2
        have hS1 := Lib.hid gS1
        have hS2 := Lib.hid gS2
        clear hmb hmc hMB hMC hnl gS1 gS2
        have hB : ∀ A' L, L = n - (k + 1) → (n - (k + 1) = 0 ∨ A' = some ⟨g, off + (k + 1) * 7, none⟩) → ∀ c1, n - (k + 1) ≤ c1 → c1 ≤ maxLen → ∀ nq, Calls Try.prog 89 #[.slice A' L c1, .int .i64 mb] (wr.drewN nq) fun e w' =>
            e = .returned (.bool (decide (mb ≤ (ps.drop (k + 1)).length) && ((ps.drop (k + 1)).take mb).all St.notLoop)) ∧ Below wr.heap.size (wr.drewN nq) w' := by
          rintro A' L rfl hA c1 h1 h2 nq
          have := bodyOk_any A' (n - (k + 1)) c1 (ps.drop (k + 1)) mb (wr.drewN nq) (((hH.out.below hb).more hz).drop_ hA) h1 h2 (by omega)
          rw [Int.toNat_natCast] at this
          refine this.mono ?_
          rintro e w' ⟨he, hw⟩
          refine ⟨he.trans (ret_bool ?_), hw⟩
          congr 1
          rw [List.length_drop, hL.out, Bool.eq_iff_iff]
          simp
        have HB := Lib.hid hB
        clear hB
        by_cases hck : c = k + 1
        · have hbo := Lib.hid (show (decide (mb ≤ (ps.drop (k + 1)).length) && ((ps.drop (k + 1)).take mb).all St.notLoop) = false by rw [decide_eq_false (by rw [List.length_drop, hL.out]; omega)]; rfl)
          subst hck
          go_wp2
          go_quiet (fail)
          go_wp2_with (go_at_call 89; refine (HB.out _ _ (by omega) (.inl (by omega)) _ (by omega) (by simp [maxLen]) _).mono ?_; rw [hbo.out]; rintro e w1 ⟨rfl, hb1⟩)
          go_ret2
          exact Unrd.no (unrolled_no3 (hS1.out hbo.out)) (hb.trans ((below_drewN (Below.refl _ _) _).trans (hb1.mono hz)))
        have hck' : k + 1 < c := by omega
        clear hck
        cases hbo : (decide (mb ≤ (ps.drop (k + 1)).length) && ((ps.drop (k + 1)).take mb).all St.notLoop)
        · have hBo := Lib.hid hbo
          clear hbo
          go_wp2
          go_quiet (fail)
          go_wp2_with (go_at_call 89; refine (HB.out _ _ (by omega) (.inr rfl) _ (by omega) (by unfold maxLen; omega) _).mono ?_; rw [hBo.out]; rintro e w1 ⟨rfl, hb1⟩)
          go_ret2
          exact Unrd.no (unrolled_no3 (hS1.out hBo.out)) (hb.trans ((below_drewN (Below.refl _ _) _).trans (hb1.mono hz)))
        · have hBo := Lib.hid hbo
          have hfit : k + 1 + mb ≤ n := by
            have := (Bool.and_eq_true_iff.1 hbo).1
            rw [List.length_drop, hL.out] at this
            simp at this
            omega
          clear hbo
          go_wp2
          go_quiet (fail)
          go_wp2_with (go_at_call 89; refine (HB.out _ _ (by omega) (.inr rfl) _ (by omega) (by unfold maxLen; omega) _).mono ?_; rw [hBo.out]; rintro e w1 ⟨rfl, hb1⟩)
          have hBB : Below w.heap.size w w1 := hb.trans ((below_drewN (Below.refl _ _) _).trans (hb1.mono hz))
          have hOw1 := Lib.hid (hOw.out.below (w' := w1) ((below_drewN (Below.refl _ _) _).trans (hb1.mono (Nat.le_refl _))))
          clear hb1
          have hbl : ((ps.drop (k + 1)).take mb).length = mb := by rw [List.length_take, List.length_drop, hL.out]; omega
          have hBL := Lib.hid hbl
          clear hbl
          generalize hbody : (ps.drop (k + 1)).take mb = body at hBo hS2 hBL
          have hBody := Lib.hid hbody
          clear hbody
          go_loopw [4, 8] (fun l i wq => ∃ q : Nat, q ≤ mc ∧ i = .int .i64 q ∧ Own wq w.heap.size l (os ++ rep body q) ∧ Below w.heap.size w wq) (fun _ i _ => mc - (intOf i).toNat)
          case atStart => exact ⟨0, Nat.zero_le _, rfl, by simpa [rep] using hOw1.out, hBB⟩
          case round =>
            obtain ⟨q, hq, rfl, hownq, hbq⟩ := hrel
            have hOq := Lib.hid hownq
            obtain ⟨A2, c2', hv, hlc2, hcm2⟩ := hownq.form
            subst hv
            clear hownq
            have hzq := hbq.size
            have hlq : (os ++ rep body q).length = os.length + q * body.length := by rw [List.length_append, rep_length]
            have hLq := Lib.hid hlq
            clear hlq
            by_cases hqt : q < mc
            · have hlt2 : (os ++ rep body q).length ≤ 60 := by
                rw [hLq.out, hBL.out]
                have : q * mb ≤ 3 * mb := Nat.mul_le_mul_right _ (by omega)
                omega
              have hLst := Lib.hid ((hH.out.below hbq).part (k := k + 1) (m := mb) (by omega) (by omega))
              go_wp2_with (at_builtin; refine wpList_append_own _ rfl (.tmp 50) (.tmp 56) 27 rfl w.heap.size 78 i0 _ 7 56 Try.underlying27 hi0 hz0 hz1' hz2' rfl (by decide) (.slice A2 (os ++ rep body q).length c2') _ _ rfl hOq.out ⟨g, off + (k + 1) * 7, none⟩ mb (c - (k + 1)) (flat body) ?hx ?c1 ?c2 ?c3 ?c4 ?c5 ?c6 ?_)
              case hx => first | rfl | simp [Act.eval]
              case c1 => rw [flat_length, hBL.out]
              case c2 => rw [← hBody.out]; exact hLst.out
              case c3 => exact flat_one body
              case c4 => unfold maxLen; omega
              case c5 => omega
              case c6 => exact hzq
              intro v' w' hown' hgrow _
              have hnew := hOq.out.append_ (news := body) (by rw [hBL.out, List.length_append]; exact hown') (by rw [List.length_append]; exact hgrow) hbq hzq
              have hN1 := Lib.hid hnew.1
              have hN2 := hnew.2
              clear hnew hown' hgrow
              go_wp2
              go_roundw
              case rel => exact ⟨q + 1, by omega, by go_num, by simpa [rep] using hN1.out, hN2⟩
              case measure => (simp [intOf]; try omega)
            · obtain rfl : q = mc := by omega
              have hSF := Lib.hid (hS2.out hBo.out)
              have hEnd := Lib.hid (fun h => unrolled_long hSF.out h)
              by_cases h12 : 12 < os.length + (rep body q).length
              · go_wp2
                go_ret2
                exact Unrd.no (hEnd.out (by rw [List.length_append]; exact h12)) hbq
              · go_wp2
                refine ⟨⟨k + 1 + mb, _, by omega, by go_num, hSF.out, by rw [List.length_append]; omega, hOq.out, hbq⟩, ?_⟩
                simp [intOf]
                omega
      · have h7 : (s.k == 7) = false := by unfold St.notLoop at hnl; cases h : (s.k == 7) <;> simp_all
        have gS2 := Sofar.plain hSo.out hS.out hnl
        have hS2 := Lib.hid gS2
        clear gS2 hnl c2 c3
        have hbs : rep [s] 1 = [s] := rfl
        have hBody := Lib.hid (show (ps.drop k).take 1 = [s] by rw [drop_cons hS.out]; rfl)
        go_wp2
        go_loopw [4, 8] (fun l i wq => ∃ q : Nat, q ≤ 1 ∧ i = .int .i64 q ∧ Own wq w.heap.size l (os ++ rep [s] q) ∧ Below w.heap.size w wq) (fun _ i _ => 1 - (intOf i).toNat)
        case atStart => exact ⟨0, Nat.zero_le _, rfl, by simpa [rep] using hOw.out, hb⟩
        case round =>
          obtain ⟨q, hq, rfl, hownq, hbq⟩ := hrel
          have hOq := Lib.hid hownq
          obtain ⟨A2, c2', hv, hlc2, hcm2⟩ := hownq.form
          subst hv
          clear hownq
          have hzq := hbq.size
          have hlq : (os ++ rep [s] q).length = os.length + q := by rw [List.length_append, rep_length]; simp
          have hLq := Lib.hid hlq
          clear hlq
          by_cases hqt : q < 1
          · have hlt2 : (os ++ rep [s] q).length ≤ 60 := by
              rw [hLq.out]
              omega
            have hLst := Lib.hid ((hH.out.below hbq).part (k := k) (m := 1) (by omega) (by omega))
            go_wp2_with (at_builtin; refine wpList_append_own _ rfl (.tmp 50) (.tmp 56) 27 rfl w.heap.size 78 i0 _ 7 56 Try.underlying27 hi0 hz0 hz1' hz2' rfl (by decide) (.slice A2 (os ++ rep [s] q).length c2') _ _ rfl hOq.out ⟨g, off + k * 7, none⟩ 1 (c - k) (flat [s]) ?hx ?c1 ?c2 ?c3 ?c4 ?c5 ?c6 ?_)
            case hx => first | rfl | simp [Act.eval]
            case c1 => rfl
            case c2 => rw [← hBody.out]; exact hLst.out
            case c3 => exact flat_one [s]
            case c4 => unfold maxLen; omega
            case c5 => omega
            case c6 => exact hzq
            intro v' w' hown' hgrow _
            have hnew := hOq.out.append_ (news := [s]) (by rw [List.length_append]; exact hown') (by rw [List.length_append]; exact hgrow) hbq hzq
            have hN1 := Lib.hid hnew.1
            have hN2 := hnew.2
            clear hnew hown' hgrow
            go_wp2
            go_roundw
            case rel => exact ⟨q + 1, by omega, by go_num, by simpa [rep] using hN1.out, hN2⟩
            case measure => (simp [intOf]; try omega)
          · obtain rfl : q = 1 := by omega
            have hEnd := Lib.hid (fun h => unrolled_long hS2.out h)
            by_cases h12 : 12 < os.length + 1
            · go_wp2
              go_ret2
              exact Unrd.no (hEnd.out (by rw [List.length_append]; exact h12)) hbq
            · go_wp2
              refine ⟨⟨k + 1, _, by omega, by go_num, hS2.out, by rw [List.length_append]; show os.length + 1 ≤ 12; omega, hOq.out, hbq⟩, ?_⟩
              simp [intOf]
              omega
    · obtain rfl : k = n := by omega
      have hY := Lib.hid (unrolled_yes (ps := ps) (os := os) (by rw [hL.out]; omega) hOK.out (hSo.out |> fun h => by rw [← hL.out] at h; exact h.done) hlen)
      go_wp2
      go_ret2
      rw [hY.out]
      exact ⟨_, rfl, hOw.out, hb⟩
end Go.Proofs.Ytbndonfpdioibaa

namespace Go.Proofs.Ytbndonfpdioibaa
set_option maxRecDepth 100000
open Go.RowKit

/-- How the model's l1Unrolled ends: where it says yes, with what is told out in memory of its own. -/
def L1d (w : World) (r : Option (List St)) (e : Ending) (w' : World) : Prop :=
  ∃ v, e = .returned (.tuple #[v, .bool r.isSome]) ∧ (∀ os, r = some os → Own w' w.heap.size v os) ∧ Below w.heap.size w w'

theorem L1d.no {w w' : World} {r : Option (List St)} (h : r = none) (hb : Below w.heap.size w w') : L1d w r (.returned (.tuple #[.slice none 0 0, .bool false])) w' := by
  subst h; exact ⟨_, rfl, (fun _ h => by cases h), hb⟩

theorem rep_le (body : List St) (q : Nat) (hq : q ≤ 3) : (rep body q).length ≤ 3 * body.length := by
  rw [rep_length]; exact Nat.mul_le_mul_right _ hq

theorem unrolled_end {ps os : List St} {n : Nat} (hL : ps.length = n) (hok : ps.all St.ok = true) (h : unr ps 0 = some os) : (unrolled ps).isSome = (decide (n ≤ 10) && decide (os.length ≤ 12)) ∧ ∀ t, unrolled ps = some t → os = t := by
  unfold unrolled
  rw [hL, hok, h]
  by_cases h1 : n ≤ 10
  · by_cases h2 : os.length ≤ 12
    · simp [h1, h2]
    · simp [h1, h2]
  · simp [h1]

/-- A statement in a new block of its own. -/
theorem new_stmt (w : World) (s : St) : ∀ j u, (flat [s])[j]? = some u →
    (w.alloc (.cells #[.int .i64 s.k, .int .i64 s.a, .int .i64 s.b, .int .i64 s.c, .int .i64 s.u, .int .i64 s.v, .int .i64 s.x] 78)).cell? ((⟨w.heap.size, 0, none⟩ : Addr).add j) = some u := by
  intro j u hu
  have ha : ((⟨w.heap.size, 0, none⟩ : Addr).add j) = ⟨w.heap.size, j, none⟩ := by
    unfold Addr.add
    split
    · rename_i h0; rw [h0]
    · simp
  rw [ha, (Has.new w _ _).cell j]
  have hf : flat [s] = s.cells := by simp [flat]
  rw [hf] at hu
  simpa [St.cells] using hu

set_option maxRecDepth 100000 in
set_option maxHeartbeats 2000000 in
theorem l1Unrolled_any (A : Option Addr) (n c : Nat) (ps : List St) (w : World) (h : Lst w w.heap.size A n ps) (hn : n ≤ c) (hc : c ≤ maxLen) (hbig : n ≤ 1048576) :
    Calls Try.prog 65 #[.slice A n c] w (L1d w (unrolled ps)) := by
  unfold maxLen at hc
  have hL := Lib.hid h.1
  have hH := Lib.hid h
  clear h
  obtain ⟨i0, hi0, hz0, hz1', hz2'⟩ := info_parts info_stmt
  go_enter Try.func65, Try.ntmps65
  go_wp2
  have hown0 : Own (w.alloc (.cells #[] 78)) w.heap.size (.slice (some ⟨w.heap.size, 0, none⟩) 0 0) [] := World.ownsRow_made w #[] 0 (Nat.le_refl _) (by simp [maxLen]) rfl
  have hOwn0 := Lib.hid hown0
  have hb0 : Below w.heap.size w (w.alloc (.cells #[] 78)) := (Below.refl _ _).alloc (Nat.le_refl _) _
  clear hown0
  generalize hw0 : w.alloc (.cells #[] 78) = w0 at hOwn0 hb0 ⊢
  have hz0w : w.heap.size < w0.heap.size := by rw [← hw0]; simp
  clear hw0
  go_loopw [5] (fun i wr => ∃ k : Nat, k ≤ n ∧ i = .int .i64 k ∧ (ps.take k).all St.ok = true ∧ Below w0.heap.size w0 wr) (fun i _ => n - (intOf i).toNat)
  case atStart => exact ⟨0, Nat.zero_le _, rfl, by simp, Below.refl _ _⟩
  case round =>
    obtain ⟨k, hk, rfl, hall, hb⟩ := hrel
    have hAll := Lib.hid hall
    clear hall
    have hbw : Below w.heap.size w wr := hb0.trans (hb.mono (by omega))
    have hz := hbw.size
    by_cases hlt : k < n
    · obtain ⟨g, off, s, rfl, hg, hs, hat⟩ := (hH.out.below hbw).at_ hlt
      obtain ⟨c0, c1, c2, c3, c4, c5, c6⟩ := hat.open_
      have hS := Lib.hid hs
      clear hs hat
      cases hok : s.ok
      · have hR := Lib.hid (unrolled_no1 (all_no hS.out hok))
        go_wp2_with (go_at_call 118; refine (specStmtOk_st s _).mono ?_; rw [hok]; rintro e w1 ⟨rfl, hb1⟩)
        go_ret2
        exact L1d.no hR.out (hbw.trans (hb1.mono hz))
      · have hR := Lib.hid ((all_take_succ hS.out St.ok).trans (by rw [hAll.out, hok, Bool.and_self]))
        have hzz := hb.size
        go_wp2_with (go_at_call 118; refine (specStmtOk_st s _).mono ?_; rw [hok]; rintro e w1 ⟨rfl, hb1⟩)
        go_roundw
        case rel => exact ⟨k + 1, by omega, by go_num, hR.out, hb.trans (hb1.mono hzz)⟩
        case measure => (simp [intOf]; try omega)
    · obtain rfl : n = k := by omega
      have hOK := Lib.hid (show ps.all St.ok = true by have := hAll.out; rwa [List.take_of_length_le (by rw [hL.out]; omega)] at this)
      have hOwn1 := Lib.hid (hOwn0.out.below hb)
      clear hb hAll
      obtain ⟨w1, hw1⟩ : ∃ w1 : World, w1 = wr := ⟨_, rfl⟩
      subst hw1
      clear hb0
      go_wp2
      go_loopw [4, 6] (fun l i wr => ∃ (k : Nat) (os : List St), k ≤ n ∧ i = .int .i64 k ∧ Sofar ps k os ∧ os.length ≤ 3 * k ∧ Own wr w.heap.size l os ∧ Below w.heap.size w wr) (fun _ i _ => n - (intOf i).toNat)
      case atStart => exact ⟨0, [], Nat.zero_le _, rfl, Sofar.start ps, by simp, hOwn1.out, hbw⟩
      case round =>
        obtain ⟨k, os, hk, rfl, hso, hlen, hown, hb⟩ := hrel
        have hSo := Lib.hid hso
        have hOw := Lib.hid hown
        obtain ⟨A', c', hv, hlc, hcm⟩ := hown.form
        subst hv
        clear hso hown
        have hz := hb.size
        by_cases hlt : k < n
        · obtain ⟨g, off, s, rfl, hg, hs, hat⟩ := (hH.out.below hb).at_ hlt
          obtain ⟨c0, c1, c2, c3, c4, c5, c6⟩ := hat.open_
          have hS := Lib.hid hs
          clear hs hat
          cases hnl : s.notLoop
          · have h7 : (s.k == 7) = true := by unfold St.notLoop at hnl; cases h : (s.k == 7) <;> simp_all
            have h7' : (s.k != 7) = false := by simp [bne, h7]
            have hso : s.ok = true := (List.all_eq_true.1 hOK.out) s (List.mem_of_getElem? hS.out)
            obtain ⟨hb1, hb2, hc1, hc2⟩ : 1 ≤ s.b ∧ s.b ≤ 10 ∧ 0 ≤ s.c ∧ s.c ≤ 3 := by
              have h8 := ok_rng (k := s.k) (a := s.a) (b := s.b) (c := s.c) (u := s.u) (v := s.v) (x := s.x) hso
              have h9 : s.k = 7 := by simpa using h7
              omega
            clear hso
            obtain ⟨mb, hmb⟩ : ∃ mb : Nat, s.b = mb := ⟨s.b.toNat, by omega⟩
            obtain ⟨mc, hmc⟩ : ∃ mc : Nat, s.c = mc := ⟨s.c.toNat, by omega⟩
            have hMB : s.b.toNat = mb := by omega
            have hMC : s.c.toNat = mc := by omega
            rw [hmb] at c2 hb1 hb2
            rw [hmc] at c3 hc1 hc2
            have gS1 := fun h => Sofar.none_ hSo.out hS.out hnl h
            have gS2 := fun h => Sofar.loop hSo.out hS.out hnl h
            rw [hMB] at gS1 gS2
            rw [hMC] at gS2
            have hS1 := Lib.hid gS1
            have hS2 := Lib.hid gS2
            clear hmb hmc hMB hMC hnl gS1 gS2
            by_cases hfit : n ≤ k + mb
            · have hR := Lib.hid (unrolled_no3 (hS1.out (by rw [decide_eq_false (by rw [List.length_drop, hL.out]; omega)]; rfl)))
              go_wp2
              go_ret2
              exact L1d.no hR.out hb
            have hfit' : k + 1 + mb ≤ n := by omega
            clear hfit
            have hbl : ((ps.drop (k + 1)).take mb).length = mb := by rw [List.length_take, List.length_drop, hL.out]; omega
            have hBL := Lib.hid hbl
            clear hbl
            have hck : k + 1 < c := by omega
            have hsub : k + 1 + mb - (k + 1) = mb := by omega
            go_wp2
            go_loop [8] (fun i => ∃ q : Nat, q ≤ mb ∧ i = .int .i64 q ∧ ((ps.drop (k + 1)).take q).all St.notLoop = true) (fun i => mb - (intOf i).toNat)
            case atStart => exact ⟨0, Nat.zero_le _, rfl, by simp⟩
            case round =>
              obtain ⟨q, hq, rfl, hall⟩ := hrel
              have hAll2 := Lib.hid hall
              clear hall
              by_cases hqm : q < mb
              · obtain ⟨g2, off2, s2, hA2, hg2, hs2, hat2⟩ := (hH.out.below hb).at_ (show k + 1 + q < n by omega)
                injection hA2 with hA2
                injection hA2 with e1 e2 _
                subst e1 e2
                have d0 := hat2.open_.1
                rw [show off + (k + 1 + q) * 7 = off + (k + 1) * 7 + q * 7 by omega] at d0
                have hs2' : (ps.drop (k + 1))[q]? = some s2 := by rw [List.getElem?_drop]; exact hs2
                have hS3 := Lib.hid hs2'
                clear hs2 hs2' hat2
                cases hnl2 : s2.notLoop
                · have h72 : (s2.k == 7) = true := by unfold St.notLoop at hnl2; cases h : (s2.k == 7) <;> simp_all
                  have hR := Lib.hid (unrolled_no3 (hS1.out (by rw [all_no (ps := (ps.drop (k + 1)).take mb) (k := q) (by rw [List.getElem?_take, if_pos hqm]; exact hS3.out) hnl2, Bool.and_false])))
                  clear hnl2
                  go_wp2
                  go_ret2
                  exact L1d.no hR.out hb
                · have h72 : (s2.k == 7) = false := by unfold St.notLoop at hnl2; cases h : (s2.k == 7) <;> simp_all
                  have hR2 := Lib.hid ((all_take_succ hS3.out St.notLoop).trans (by rw [hAll2.out, hnl2, Bool.and_self]))
                  clear hnl2
                  go_wp2
                  go_round
                  case rel => exact ⟨q + 1, by omega, by go_num, hR2.out⟩
                  case measure => (simp [intOf]; try omega)
              · obtain rfl : mb = q := by omega
                have hSF := Lib.hid (hS2.out (by rw [hAll2.out, decide_eq_true (by rw [List.length_drop, hL.out]; omega)]; rfl))
                generalize hbody : (ps.drop (k + 1)).take mb = body at hSF hBL
                have hBody := Lib.hid hbody
                clear hbody
                go_wp2
                go_loopw [4, 9] (fun l i wq => ∃ q : Nat, q ≤ mc ∧ i = .int .i64 q ∧ Own wq w.heap.size l (os ++ rep body q) ∧ Below w.heap.size w wq ∧ wq.cell? ⟨g, off + k * 7 + 3, none⟩ = some (.int .i64 mc) ∧ wq.cell? ⟨g, off + k * 7 + 2, none⟩ = some (.int .i64 mb)) (fun _ i _ => mc - (intOf i).toNat)
                case atStart => exact ⟨0, Nat.zero_le _, rfl, by simpa [rep] using hOw.out, hb, c3, c2⟩
                case round =>
                  obtain ⟨q, hq, rfl, hownq, hbq, c3q, c2q⟩ := hrel
                  have hOq := Lib.hid hownq
                  obtain ⟨A2, c2', hv, hlc2, hcm2⟩ := hownq.form
                  subst hv
                  clear hownq
                  have hzq := hbq.size
                  have hlq : (os ++ rep body q).length = os.length + q * body.length := by rw [List.length_append, rep_length]
                  have hLq := Lib.hid hlq
                  clear hlq
                  by_cases hqt : q < mc
                  · have hlt2 : (os ++ rep body q).length ≤ 4000000 := by
                      rw [hLq.out, hBL.out]
                      have : q * mb ≤ 3 * mb := Nat.mul_le_mul_right _ (by omega)
                      omega
                    have hLst := Lib.hid ((hH.out.below hbq).part (k := k + 1) (m := mb) (by omega) (by omega))
                    go_wp2_with (at_builtin; refine wpList_append_own _ rfl (.tmp 85) (.tmp 86) 27 rfl w.heap.size 78 i0 _ 7 56 Try.underlying27 hi0 hz0 hz1' hz2' rfl (by decide) (.slice A2 (os ++ rep body q).length c2') _ _ rfl hOq.out ⟨g, off + (k + 1) * 7, none⟩ mb (c - (k + 1)) (flat body) ?hx ?c1 ?c2 ?c3 ?c4 ?c5 ?c6 ?_)
                    case hx => first | rfl | simp [Act.eval]
                    case c1 => rw [flat_length, hBL.out]
                    case c2 => rw [← hBody.out]; exact hLst.out
                    case c3 => exact flat_one body
                    case c4 => unfold maxLen; omega
                    case c5 => omega
                    case c6 => exact hzq
                    intro v' w' hown' hgrow _
                    have hnew := hOq.out.append_ (news := body) (by rw [hBL.out, List.length_append]; exact hown') (by rw [List.length_append]; exact hgrow) hbq hzq
                    have hN1 := Lib.hid hnew.1
                    have hN2 := hnew.2
                    have hgc : ∀ p : Addr, p.block < w.heap.size → w'.cell? p = wr.cell? p := fun p hp => (hN2.cell hp).trans (hbq.cell hp).symm
                    have c3n := (hgc ⟨g, off + k * 7 + 3, none⟩ hg).trans c3q
                    have c2n := (hgc ⟨g, off + k * 7 + 2, none⟩ hg).trans c2q
                    clear hnew hown' hgrow hgc
                    go_wp2
                    go_roundw
                    case rel => exact ⟨q + 1, by omega, by go_num, by simpa [rep] using hN1.out, hN2, c3n, c2n⟩
                    case measure => (simp [intOf]; try omega)
                  · obtain rfl : mc = q := by omega
                    have hrl := rep_le body mc (by omega)
                    rw [hBL.out] at hrl
                    go_wp2
                    refine ⟨⟨k + 1 + mb, _, by omega, by go_num, hSF.out, by rw [List.length_append]; omega, hOq.out, hbq⟩, ?_⟩
                    simp [intOf]
                    omega
          · have h7 : (s.k == 7) = false := by unfold St.notLoop at hnl; cases h : (s.k == 7) <;> simp_all
            have h7' : (s.k != 7) = true := by simp [bne, h7]
            have hS2 := Lib.hid (Sofar.plain hSo.out hS.out hnl)
            clear hnl
            go_wp2_with (at_builtin; refine wpList_append_own _ rfl (.tmp 35) (.tmp 40) 27 rfl w.heap.size 78 i0 _ 7 56 Try.underlying27 hi0 hz0 hz1' hz2' rfl (by decide) (.slice A' os.length c') _ _ rfl (hOw.out.alloc _) ⟨wr.heap.size, 0, none⟩ 1 1 (flat [s]) ?hx ?c1 ?c2 ?c3 ?c4 ?c5 ?c6 ?_)
            case hx => first | rfl | simp [Act.eval]
            case c1 => rfl
            case c2 => exact new_stmt wr s
            case c3 => exact flat_one [s]
            case c4 => unfold maxLen; omega
            case c5 => omega
            case c6 => (simp; omega)
            intro v' w' hown' hgrow _
            have hnew := (hOw.out.alloc _).append_ (news := [s]) hown' hgrow (hb.alloc hz _) (by simp; omega)
            have hN1 := Lib.hid hnew.1
            have hN2 := hnew.2
            clear hnew hown' hgrow
            go_wp2
            go_roundw
            case rel => exact ⟨k + 1, _, by omega, by go_num, hS2.out, by rw [List.length_append]; show os.length + 1 ≤ _; omega, hN1.out, hN2⟩
            case measure => (simp [intOf]; try omega)
        · obtain rfl : n = k := by omega
          have hD := Lib.hid (unrolled_end hL.out hOK.out (hSo.out |> fun h => by rw [← hL.out] at h; exact h.done))
          have hfin : ∀ (bb : Bool) (w' : World), w' = wr → bb = (decide (n ≤ 10) && decide (os.length ≤ 12)) → L1d w (unrolled ps) (.returned (.tuple #[.slice A' os.length c', .bool bb])) w' := by
            rintro bb w' rfl rfl
            rw [← hD.out.1]
            exact ⟨_, rfl, fun t ht => by rw [← hD.out.2 t ht]; exact hOw.out, hb⟩
          have hFin := Lib.hid hfin
          clear hfin
          by_cases h10 : n ≤ 10
          · by_cases h12 : os.length ≤ 12
            · go_wp2
              go_ret2
              exact hFin.out _ _ rfl (by simp [h10]; omega)
            · go_wp2
              go_ret2
              exact hFin.out _ _ rfl (by simp [h10]; omega)
          · go_wp2
            go_ret2
            exact hFin.out _ _ rfl (by simp [h10])
end Go.Proofs.Ytbndonfpdioibaa

namespace Go.Proofs.Ytbndonfpdioibaa
set_option maxRecDepth 100000
open Go.RowKit

def countDraws (ps : List St) : Int := match unrolled ps with
  | none => -1
  | some os => (os.filter St.draws).length
def St.low (s : St) : Bool := decide (s.k < 6)
def plainOk (ps : List St) : Bool := (unrolled ps).isSome && ps.all St.low

theorem unrolled_ok {ps os : List St} (h : unrolled ps = some os) : ps.all St.ok = true ∧ os.length ≤ 12 ∧ ps.length ≤ 10 ∧ unr ps 0 = some os := by
  unfold unrolled at h
  split at h
  · rename_i h1
    rw [Bool.and_eq_true] at h1
    rw [Option.filter_eq_some_iff] at h
    exact ⟨h1.2, by simpa using h.2, by simpa using h1.1, h.1⟩
  · cases h

theorem specProgramOk_any (A : Option Addr) (n c : Nat) (ps : List St) (w : World) (h : Lst w w.heap.size A n ps) (hn : n ≤ c) (hc : c ≤ maxLen) (hbig : n ≤ 1048576) :
    Calls Try.prog 75 #[.slice A n c] w fun e w' => e = .returned (.bool (unrolled ps).isSome) ∧ Below w.heap.size w w' := by
  have hC := Lib.hid (fun wx (hx : Lst wx wx.heap.size A n ps) => l1Unrolled_any A n c ps wx hx hn hc hbig)
  have hH := Lib.hid h
  clear h hc
  go_enter Try.func75, Try.ntmps75
  go_wp2_with fail
  refine (hC.out _ hH.out).mono ?_
  rintro e w1 ⟨v, rfl, _, hb⟩
  go_wp2
  go_ret
  exact ⟨rfl, hb⟩

theorem ProgramOk_any (A : Option Addr) (n c : Nat) (ps : List St) (w : World) (h : Lst w w.heap.size A n ps) (hn : n ≤ c) (hc : c ≤ maxLen) :
    Calls Try.prog 76 #[.slice A n c] w fun e w' => e = .returned (.bool (unrolled ps).isSome) ∧ Below w.heap.size w w' := by
  have hC := Lib.hid (fun wx (hx : Lst wx wx.heap.size A n ps) => Unrolled_any A n c ps wx hx hn hc)
  have hH := Lib.hid h
  clear h hc
  go_enter Try.func76, Try.ntmps76
  go_wp2_with fail
  refine (hC.out _ hH.out).mono ?_
  rintro e w1 ⟨v, rfl, hown, hb⟩
  clear hown
  go_wp2
  go_ret
  exact ⟨rfl, hb⟩

end Go.Proofs.Ytbndonfpdioibaa

namespace Go.Proofs.Ytbndonfpdioibaa
set_option maxRecDepth 100000
open Go.RowKit

theorem low_of_ok {s : St} (h : s.ok = true) (h6 : s.k ≠ 6) (h7 : s.k ≠ 7) : s.low = true := by
  have h8 := ok_rng (k := s.k) (a := s.a) (b := s.b) (c := s.c) (u := s.u) (v := s.v) (x := s.x) h
  exact decide_eq_true (by omega)

theorem PlainOk_any (A : Option Addr) (n c : Nat) (ps : List St) (w : World) (h : Lst w w.heap.size A n ps) (hn : n ≤ c) (hc : c ≤ maxLen) :
    Calls Try.prog 37 #[.slice A n c] w fun e w' => e = .returned (.bool (plainOk ps)) ∧ Below w.heap.size w w' := by
  have hC := Lib.hid (fun wx (hx : Lst wx wx.heap.size A n ps) => ProgramOk_any A n c ps wx hx hn hc)
  have hL := Lib.hid h.1
  have hH := Lib.hid h
  have hcc : n ≤ 9223372036854775807 := by unfold maxLen at hc; omega
  clear h hc
  cases hu : (unrolled ps).isSome
  · have hR := Lib.hid (show plainOk ps = false by unfold plainOk; rw [hu]; rfl)
    have hU := Lib.hid hu
    clear hu
    go_enter Try.func37, Try.ntmps37
    go_wp2_with (go_at_call 76; refine (hC.out _ hH.out).mono ?_; rw [hU.out]; rintro e w' ⟨rfl, hb⟩)
    go_ret
    exact ⟨ret_bool hR.out, hb⟩
  · have hR := Lib.hid (show plainOk ps = ps.all St.low by unfold plainOk; rw [hu]; rfl)
    have hOK := Lib.hid (show ps.all St.ok = true by
      obtain ⟨os, ho⟩ := Option.isSome_iff_exists.1 hu
      exact (unrolled_ok ho).1)
    have hU := Lib.hid hu
    clear hu
    go_enter Try.func37, Try.ntmps37
    go_wp2_with (go_at_call 76; refine (hC.out _ hH.out).mono ?_; rw [hU.out]; rintro e w' ⟨rfl, hb⟩)
    go_loopw [10] (fun i wr => ∃ k : Nat, k ≤ n ∧ i = .int .i64 k ∧ (ps.take k).all St.low = true ∧ Below w.heap.size w wr) (fun i _ => n - (intOf i).toNat)
    case atStart => exact ⟨0, Nat.zero_le _, rfl, by simp, hb⟩
    case round =>
      obtain ⟨k, hk, rfl, hall, hb2⟩ := hrel
      have hAll := Lib.hid hall
      clear hall hb
      by_cases hlt : k < n
      · obtain ⟨g, off, s, rfl, hg, hs, hat⟩ := (hH.out.below hb2).at_ hlt
        obtain ⟨c0, c1, c2, c3, c4, c5, c6⟩ := hat.open_
        have hS := Lib.hid hs
        have hz := hb2.size
        have hok := (List.all_eq_true.1 hOK.out) s (List.mem_of_getElem? hs)
        clear hs hat
        by_cases h6 : s.k = 6
        · have h6' : (s.k == 6) = true := by simp [h6]
          have hR2 := Lib.hid (show ps.all St.low = false from all_no hS.out (decide_eq_false (by omega)))
          clear h6 hok
          go_wp2
          go_ret
          exact ⟨ret_bool (hR.out.trans hR2.out), hb2.alloc hz _⟩
        · have h6' : (s.k == 6) = false := by simp [h6]
          by_cases h7 : s.k = 7
          · have h7' : (s.k == 7) = true := by simp [h7]
            have hR2 := Lib.hid (show ps.all St.low = false from all_no hS.out (decide_eq_false (by omega)))
            clear h6 h7 hok
            go_wp2
            go_ret
            exact ⟨ret_bool (hR.out.trans hR2.out), hb2.alloc hz _⟩
          · have h7' : (s.k == 7) = false := by simp [h7]
            have hR2 := Lib.hid ((all_take_succ hS.out St.low).trans (by rw [hAll.out, low_of_ok hok h6 h7, Bool.and_self]))
            clear h6 h7 hok
            go_wp2
            go_roundw
            case rel => exact ⟨k + 1, by omega, by go_num, hR2.out, hb2.alloc hz _⟩
            case measure => (simp [intOf]; try omega)
      · obtain rfl : n = k := by omega
        have hR2 := Lib.hid (show ps.all St.low = true by have := hAll.out; rwa [List.take_of_length_le (by rw [hL.out]; omega)] at this)
        go_wp2
        go_ret
        exact ⟨ret_bool (hR.out.trans hR2.out), hb2⟩

theorem draws_yes {s : St} (h : s.draws = true) : (s.k == 2) = true ∨ ((s.k == 2) = false ∧ (s.k == 3) = true) := by
  unfold St.draws at h
  cases h2 : (s.k == 2) <;> simp_all
theorem draws_no {s : St} (h : s.draws = false) : (s.k == 2) = false ∧ (s.k == 3) = false := by
  unfold St.draws at h
  cases h2 : (s.k == 2) <;> simp_all
theorem isDraw_any (s : St) (w : World) :
    Calls Try.prog 182 #[.agg #[.int .i64 s.k, .int .i64 s.a, .int .i64 s.b, .int .i64 s.c, .int .i64 s.u, .int .i64 s.v, .int .i64 s.x]] w fun e w' => e = .returned (.bool s.draws) ∧ Below w.heap.size w w' := by
  cases hd : s.draws
  · obtain ⟨h2, h3⟩ := draws_no hd
    clear hd
    go_enter Try.func182, Try.ntmps182
    go_wp2
    go_ret
    exact ⟨rfl, (Below.refl _ _).alloc (Nat.le_refl _) _⟩
  · rcases draws_yes hd with h2 | ⟨h2, h3⟩
    all_goals
      clear hd
      go_enter Try.func182, Try.ntmps182
      go_wp2
      go_ret
      exact ⟨rfl, (Below.refl _ _).alloc (Nat.le_refl _) _⟩
theorem count_succ {os : List St} {k : Nat} {s : St} (h : os[k]? = some s) : ((os.take (k + 1)).filter St.draws).length = ((os.take k).filter St.draws).length + if s.draws then 1 else 0 := by
  have hl : k < os.length := (List.getElem?_eq_some_iff.1 h).1
  have e : os[k] = s := (List.getElem?_eq_some_iff.1 h).2
  rw [List.take_succ_eq_append_getElem hl, List.filter_append, List.length_append, e]
  cases hd : s.draws <;> simp [hd]
theorem count_le (os : List St) (k : Nat) : ((os.take k).filter St.draws).length ≤ os.length :=
  Nat.le_trans (List.length_filter_le _ _) (by rw [List.length_take]; omega)

end Go.Proofs.Ytbndonfpdioibaa
