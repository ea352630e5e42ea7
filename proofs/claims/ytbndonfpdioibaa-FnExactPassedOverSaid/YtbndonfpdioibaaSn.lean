/- Which weights are used, the model: UsesOf. -/
import Derived.Test.YtbndonfpdioibaaSl
import Derived.Test.YtbndonfpdioibaaMdf
namespace Go.Proofs.Ytbndonfpdioibaa
set_option maxRecDepth 100000
set_option linter.unusedVariables false
open Go.RowKit

set_option maxHeartbeats 2000000 in
theorem specUsesOf_any (A : Option Addr) (n c : Nat) (ps : List St) (a : Int) (w : World) (h : Lst w w.heap.size A n ps) (hn : n ≤ c) (hc : c ≤ maxLen) (hbig : n ≤ 1048576) :
    Calls Try.prog 26 #[.slice A n c, .int .i64 a] w (Lbd w (usOf ps a) (usOk ps a)) := by
  have hC := Lib.hid (l1Unrolled_any A n c ps w h hn hc hbig)
  clear h hc
  cases hu : unrolled ps with
  | none =>
    have hE := Lib.hid (us_no (ps := ps) (a := a) (by unfold wOf; rw [hu]))
    have hU := Lib.hid hu
    clear hu
    go_enter Try.func26, Try.ntmps26
    go_wp2_with fail
    refine (hC.out).mono ?_
    rw [hU.out]
    rintro e w1 ⟨u, rfl, _, hb⟩
    have hF := Lib.hid hb
    clear hb
    go_wp2_with fail
    go_ret2
    exact ⟨.slice none 0 0, by rw [hE.out.1]; rfl, by rw [hE.out.2.1]; exact IOwn.nil _ _, hF.out⟩
  | some os =>
    obtain ⟨_, hlen, _, hNL, hOK⟩ := unrolled_parts hu
    cases hg : wAt os a
    · have hE := Lib.hid (us_no (ps := ps) (a := a) (by unfold wOf; rw [hu]; exact hg))
      have hU := Lib.hid hu
      have hWo := Lib.hid hg
      clear hu hNL hOK hg
      go_enter Try.func26, Try.ntmps26
      go_wp2_with fail
      refine (hC.out).mono ?_
      rw [hU.out]
      rintro e w1 ⟨u, rfl, hown, hb⟩
      have hown' : Own w1 w.heap.size u os := hown os rfl
      obtain ⟨A3, c3, hv, _, _⟩ := hown'.form
      subst hv
      have cW := Lib.hid (l12Weighs_any A3 os.length c3 os a w1 hown'.lst (by omega))
      rw [hWo.out] at cW
      have hF := Lib.hid hb
      clear hown hown' hb
      go_wp2_with (first | (go_at_call 66; refine (cW.out).mono ?_; rintro e w' ⟨rfl, rfl⟩))
      go_ret2
      exact ⟨.slice none 0 0, by rw [hE.out.1]; rfl, by rw [hE.out.2.1]; exact IOwn.nil _ _, hF.out⟩
    · obtain ⟨k, t, rfl, ht, hw⟩ := wAt_iff.1 hg
      obtain ⟨e1, e2⟩ := us_yes hu ht hg
      have hE1 := Lib.hid e1
      have hE2 := Lib.hid e2
      have hOk := Lib.hid (show ∀ s ∈ os, s.ok = true ∧ s.notLoop = true from fun s hs => ⟨List.all_eq_true.1 hOK s hs, hNL s hs⟩)
      have hU := Lib.hid hu
      have hT := Lib.hid (And.intro ht hw)
      have hW1 := Lib.hid hg
      clear hg hu hw ht e1 e2 hOK hNL
      obtain ⟨m, hm⟩ : ∃ m, os.length = m := ⟨_, rfl⟩
      have hM := Lib.hid hm
      rw [hm] at hlen
      clear hm
      go_enter Try.func26, Try.ntmps26
      go_wp2_with fail
      refine (hC.out).mono ?_
      rw [hU.out]
      rintro e w1 ⟨u, rfl, hown, hb⟩
      have hown' : w1.ownsRow w.heap.size 78 7 u m (flat os) := by
        have h10 : w1.ownsRow w.heap.size 78 7 u os.length (flat os) := hown os rfl
        rwa [hM.out] at h10
      obtain ⟨A3, c3, hv, _, _⟩ := owns_form hown'
      subst hv
      have hL1 := Lib.hid (ownS_lst hown')
      have cW := Lib.hid (l12Weighs_any A3 m c3 os k w1 hL1.out (by omega))
      rw [hW1.out] at cW
      have hF := Lib.hid hb
      clear hown hown' hb
      go_wp2_with (first | (go_at_call 66; refine (cW.out).mono ?_; rintro e w' ⟨rfl, rfl⟩))
      refine (l12Uses_any A3 m c3 os k t _ hL1.out hM.out hlen hOk.out hT.out.1 hT.out.2).mono ?_
      rintro e w5 ⟨u1, rfl, ho2, hb5⟩
      have hO5 := Lib.hid (show IOwn w5 w.heap.size u1 (usOf ps (k : Int)) from by rw [hE2.out]; exact owns_le ho2 hF.out.size)
      have hB5 := Lib.hid (hF.out.trans (hb5.mono hF.out.size))
      clear ho2 hb5 cW hL1
      go_wp2_with fail
      go_ret2
      exact ⟨_, by rw [hE1.out]; rfl, hO5.out, hB5.out⟩
set_option maxHeartbeats 2000000 in
theorem specPassedOver_any (A : Option Addr) (n c : Nat) (ps : List St) (a : Int) (w : World) (h : Lst w w.heap.size A n ps) (hn : n ≤ c) (hc : c ≤ maxLen) (hbig : n ≤ 1048576) :
    Calls Try.prog 28 #[.slice A n c, .int .i64 a] w fun e w' => e = .returned (.int .i64 (ovOf ps a)) ∧ Below w.heap.size w w' := by
  have hC := Lib.hid (l1Unrolled_any A n c ps w h hn hc hbig)
  have hTo := Lib.hid (fun (wx : World) (hb : Below w.heap.size w wx) => specTotalOf_any A n c ps wx ((h.below hb).more hb.size) hn hc hbig)
  clear h hc
  cases hu : unrolled ps with
  | none =>
    have hE := Lib.hid (us_no (ps := ps) (a := a) (by unfold wOf; rw [hu])).2.2
    have hU := Lib.hid hu
    clear hu hTo
    go_enter Try.func28, Try.ntmps28
    go_wp2_with fail
    refine (hC.out).mono ?_
    rw [hU.out]
    rintro e w1 ⟨u, rfl, _, hb⟩
    have hF := Lib.hid hb
    clear hb
    go_wp2_with fail
    go_ret
    exact ⟨ret_int hE, hF.out⟩
  | some os =>
    obtain ⟨_, hlen, _, hNL, hOK⟩ := unrolled_parts hu
    cases hg : wAt os a
    · have hE := Lib.hid (us_no (ps := ps) (a := a) (by unfold wOf; rw [hu]; exact hg)).2.2
      have hU := Lib.hid hu
      have hWo := Lib.hid hg
      clear hu hNL hOK hg hTo
      go_enter Try.func28, Try.ntmps28
      go_wp2_with fail
      refine (hC.out).mono ?_
      rw [hU.out]
      rintro e w1 ⟨u, rfl, hown, hb⟩
      have hown' : Own w1 w.heap.size u os := hown os rfl
      obtain ⟨A3, c3, hv, _, _⟩ := hown'.form
      subst hv
      have cW := Lib.hid (l12Weighs_any A3 os.length c3 os a w1 hown'.lst (by omega))
      rw [hWo.out] at cW
      have hF := Lib.hid hb
      clear hown hown' hb
      go_wp2_with (first | (go_at_call 66; refine (cW.out).mono ?_; rintro e w' ⟨rfl, rfl⟩))
      go_ret
      exact ⟨ret_int hE, hF.out⟩
    · obtain ⟨k, t, rfl, ht, hw⟩ := wAt_iff.1 hg
      have hok : ∀ s ∈ os, s.ok = true := fun s hs => List.all_eq_true.1 hOK s hs
      have hov := ov_yes (t := t) hu hg
      have hdv := uses_dov hok ht hw
      have htop := dov_top hlen rfl hok k
      have hT0 : totalOf ps = valAt (fun _ => 1) os 0 0 := by unfold totalOf; rw [hu]
      have hul : usesL os k t = [usN os k t 0, usN os k t 1, usN os k t 2] := usN_list ht hw hok
      have hnn := Lib.hid (show ∀ x ∈ usesL os k t, 0 ≤ x from fun x hx => by
        rw [hul] at hx
        simp only [List.mem_cons, List.not_mem_nil, or_false] at hx
        rcases hx with rfl | rfl | rfl
        · exact (usN_bd hlen rfl hok ht hw (by decide)).1
        · exact (usN_bd hlen rfl hok ht hw (by decide)).1
        · exact (usN_bd hlen rfl hok ht hw (by decide)).1)
      have hl3 := Lib.hid (show (usesL os k t).length = 3 from rfl)
      unfold overN at hov
      rw [← hT0, ← hdv] at hov
      rw [← hT0, ← hdv] at htop
      have hs1 : isum (usesL os k t) ≤ 1000000000000000000 := by omega
      have hOk := Lib.hid (show ∀ s ∈ os, s.ok = true ∧ s.notLoop = true from fun s hs => ⟨List.all_eq_true.1 hOK s hs, hNL s hs⟩)
      obtain ⟨m, hm⟩ : ∃ m, os.length = m := ⟨_, rfl⟩
      have hM := Lib.hid hm
      rw [hm] at hlen
      have cU := Lib.hid (fun (A3 : Option Addr) (c3 : Nat) (wx : World) (hx : Lst wx wx.heap.size A3 m os) => l12Uses_any A3 m c3 os k t wx hx hm hlen hOk.out ht hw)
      have hU := Lib.hid hu
      have hW1 := Lib.hid hg
      generalize usesL os k t = us at *
      generalize totalOf ps = tt at *
      have hE := Lib.hid hov
      clear hg hu hw ht hOK hNL hok hdv hT0 hul hov hm
      have hw9 : IntKind.i64.wrap (tt - isum us) = tt - isum us := by rw [IntKind.wrap_i64]; omega
      go_enter Try.func28, Try.ntmps28
      go_wp2_with fail
      refine (hC.out).mono ?_
      rw [hU.out]
      rintro e w1 ⟨u, rfl, hown, hb⟩
      have hown' : w1.ownsRow w.heap.size 78 7 u m (flat os) := by
        have h10 : w1.ownsRow w.heap.size 78 7 u os.length (flat os) := hown os rfl
        rwa [hM.out] at h10
      obtain ⟨A3, c3, hv, _, _⟩ := owns_form hown'
      subst hv
      have hL1 := Lib.hid (ownS_lst hown')
      have cW := Lib.hid (l12Weighs_any A3 m c3 os k w1 hL1.out (by omega))
      rw [hW1.out] at cW
      have hB1 := Lib.hid hb
      have hcTo := Lib.hid (hTo.out w1 hb)
      clear hown hown' hb
      go_wp2_with (first | (go_at_call 66; refine (cW.out).mono ?_; rintro e w' ⟨rfl, rfl⟩))
      refine (hcTo.out).mono ?_
      rintro e w2 ⟨rfl, hb2⟩
      have cU2 := Lib.hid (cU.out A3 c3 w2 ((hL1.out.below hb2).more hb2.size))
      have hB2 := Lib.hid (hB1.out.trans (hb2.mono hB1.out.size))
      clear hb2
      go_wp2_with fail
      refine (cU2.out).mono ?_
      rintro e w3 ⟨u3, rfl, ho3, hb3⟩
      obtain ⟨A4, c4, hv4, _, _⟩ := ho3.form
      subst hv4
      rw [hl3.out] at ho3 ⊢
      have cTa := Lib.hid (l3Sum_any A4 3 c4 us w3 ho3.lst hl3.out (by decide) hnn.out hs1)
      have hB3 := Lib.hid (hB2.out.trans (hb3.mono hB2.out.size))
      clear hb3 ho3
      go_wp2_with fail
      refine (cTa.out).mono ?_
      rintro e w4 ⟨rfl, hb4⟩
      have hB4 := Lib.hid (hB3.out.trans (hb4.mono hB3.out.size))
      clear hb4
      generalize isum us = sq at *
      go_wp2_with fail
      go_ret
      exact ⟨ret_int hE.out, hB4.out⟩
end Go.Proofs.Ytbndonfpdioibaa
