/- Joined, of the program and of the model. -/
import Derived.Test.YtjokiminlplbcaaJoi
import Derived.Test.YtjokiminlplbcaaUnC
namespace Go.Proofs.Ytjokiminlplbcaa
set_option maxRecDepth 100000
set_option linter.unusedVariables false
open Go.RowKit

theorem Own.len {w : World} {base : Nat} {v : Value} {os : List St} (h : Own w base v os) : w.ownsRow base 83 7 v os.length (flat os) := h

set_option maxHeartbeats 1000000 in
theorem Joined_any (A A2 : Option Addr) (n c n2 c2 : Nat) (ps qs : List St) (w : World) (h : Lst w w.heap.size A n ps) (h2 : Lst w w.heap.size A2 n2 qs) (hn : n ≤ c) (hc : c ≤ maxLen) (hn2 : n2 ≤ c2) (hc2 : c2 ≤ maxLen) :
    Calls Try.prog 36 #[.slice A n c, .slice A2 n2 c2] w (Unrd w (joined ps qs)) := by
  have hC := Lib.hid (Unrolled_any A n c ps w h hn hc)
  have hC2 := Lib.hid (fun wx hx => Unrolled_any A2 n2 c2 qs wx hx hn2 hc2)
  have hH2 := Lib.hid h2
  clear h h2 hc hc2
  cases hu : unrolled ps with
  | none =>
    have hU := Lib.hid hu
    have hR := Lib.hid (joined_no1 (qs := qs) hu)
    clear hu
    go_enter Try.func36, Try.ntmps36
    go_wp2_with fail
    refine (hC.out).mono ?_
    rw [hU.out]
    rintro e w1 ⟨v, rfl, hown, hb⟩
    clear hown
    go_wp2_with fail
    refine (hC2.out _ ((hH2.out.below hb).more hb.size)).mono ?_
    rintro e w2 ⟨v2, rfl, hown2, hb2⟩
    have hB := Lib.hid (hb.trans (hb2.mono hb.size))
    clear hown2 hb hb2
    go_wp2_with fail
    go_ret2
    exact Unrd.no hR.out hB.out
  | some a =>
    obtain ⟨_, hlen, _, _, hOK⟩ := unrolled_parts hu
    have hU := Lib.hid hu
    have hOk := Lib.hid hOK
    clear hOK
    cases hu2 : unrolled qs with
    | none =>
      have hU2 := Lib.hid hu2
      have hR := Lib.hid (joined_no2 (ps := ps) hu2)
      clear hu hu2
      go_enter Try.func36, Try.ntmps36
      go_wp2_with fail
      refine (hC.out).mono ?_
      rw [hU.out]
      rintro e w1 ⟨v, rfl, hown, hb⟩
      clear hown
      go_wp2_with fail
      refine (hC2.out _ ((hH2.out.below hb).more hb.size)).mono ?_
      rw [hU2.out]
      rintro e w2 ⟨v2, rfl, hown2, hb2⟩
      have hB := Lib.hid (hb.trans (hb2.mono hb.size))
      clear hown2 hb hb2
      go_wp2_with fail
      go_ret2
      exact Unrd.no hR.out hB.out
    | some b =>
      obtain ⟨_, hlen2, _, _, _⟩ := unrolled_parts hu2
      have hU2 := Lib.hid hu2
      have hRp := Lib.hid (fun hp => joined_past hu hu2 hp)
      have hRb := Lib.hid (fun hp => joined_both hu hu2 hp)
      clear hu hu2
      obtain ⟨i0, hi0, hz0, hz1', hz2'⟩ := info_parts info_stmt
      cases hpa : past a
      · have hPa := Lib.hid hpa
        have hRR := Lib.hid (hRb.out hpa)
        clear hpa
        go_enter Try.func36, Try.ntmps36
        go_wp2_with fail
        refine (hC.out).mono ?_
        rw [hU.out]
        rintro e w1 ⟨v, rfl, hown', hb⟩
        have hown : Own w1 w.heap.size v a := hown'
        obtain ⟨A3, c3, hv, hlc, hcm⟩ := hown.form
        subst hv
        have hO := Lib.hid hown
        clear hown hown'
        go_wp2_with fail
        refine (hC2.out _ ((hH2.out.below hb).more hb.size)).mono ?_
        rw [hU2.out]
        rintro e w2 ⟨v2, rfl, hown2', hb2⟩
        have hown2 : Own w2 w1.heap.size v2 b := hown2'
        obtain ⟨A4, c4, hv, hlc4, hcm4⟩ := hown2.form
        subst hv
        have hB := Lib.hid (hb.trans (hb2.mono hb.size))
        have hO2 := Lib.hid hown2
        have hO1 := Lib.hid (Own.below hO.out hb2)
        clear hown2 hown2' hb hb2 hO
        go_wp2_with fail
        refine (passesBeyond_any A3 a.length c3 a _ hO1.out.lst hlen hOk.out).mono ?_
        rw [hPa.out]
        rintro e w3 ⟨rfl, hb3⟩
        have hB3 := Lib.hid (hB.out.trans (hb3.mono hB.out.size))
        have hO3 := Lib.hid (Own.below hO1.out hb3)
        have hO23 := Lib.hid (Own.below hO2.out hb3)
        have hz3 := hB3.out.size
        clear hb3 hO1 hO2 hB
        go_wp2_with (at_builtin; refine wpList_append_rows rfl (.tmp 31) (.tmp 32) 23 rfl w.heap.size 83 i0 _ 7 56 Try.underlying23 hi0 hz0 hz1' hz2' rfl (by decide) (.slice A3 a.length c3) a.length (flat a) rfl (by exact hO3.out) _ (.slice A4 b.length c4) b.length (flat b) rfl (by exact hO23.out) (flat_one b) (by unfold maxLen; omega) (by omega) (by omega) ?_; intro v' w4 hown4 hgrow4 _)
        obtain ⟨A5, c5, hv5, hl5, hm5⟩ := owns_form hown4
        subst hv5
        have hfin := hO3.out.append_ (news := b) hown4 hgrow4 hB3.out hz3
        have hO5 := Lib.hid hfin.1
        have hB5 := Lib.hid hfin.2
        have hlst5 := Lib.hid (show Lst w4 w4.heap.size A5 (a.length + b.length) (a ++ b) from by
          have h5 : Own w4 w.heap.size (.slice A5 (a.length + b.length) c5) (a ++ b) := hfin.1
          rw [← List.length_append] at h5
          have := h5.lst
          rwa [List.length_append] at this)
        clear hfin hown4 hgrow4 hO3 hO23
        go_wp2_with fail
        refine (ProgramOk_any A5 (a.length + b.length) c5 (a ++ b) _ hlst5.out hl5 hm5).mono ?_
        rintro e w6 ⟨he, hb6⟩
        have hB6 := Lib.hid (hB5.out.trans (hb6.mono hB5.out.size))
        have hO6 := Lib.hid (Own.below hO5.out hb6)
        clear hb6
        cases hs : (unrolled (a ++ b)).isSome
        · have hRx := Lib.hid (show joined ps qs = none by rw [hRR.out, hs]; rfl)
          rw [hs] at he
          subst he
          clear hs
          go_wp2_with fail
          go_ret2
          exact Unrd.no hRx.out hB6.out
        · have hRx := Lib.hid (show joined ps qs = some (a ++ b) by rw [hRR.out, hs]; rfl)
          rw [hs] at he
          subst he
          clear hs
          go_wp2_with fail
          go_ret2
          rw [hRx.out]
          exact ⟨_, rfl, hO6.out, hB6.out⟩
      · have hPa := Lib.hid hpa
        have hRR := Lib.hid (hRp.out hpa)
        clear hpa
        go_enter Try.func36, Try.ntmps36
        go_wp2_with fail
        refine (hC.out).mono ?_
        rw [hU.out]
        rintro e w1 ⟨v, rfl, hown', hb⟩
        have hown : Own w1 w.heap.size v a := hown'
        obtain ⟨A3, c3, hv, hlc, hcm⟩ := hown.form
        subst hv
        have hO := Lib.hid hown
        clear hown hown'
        go_wp2_with fail
        refine (hC2.out _ ((hH2.out.below hb).more hb.size)).mono ?_
        rw [hU2.out]
        rintro e w2 ⟨v2, rfl, hown2, hb2⟩
        have hB := Lib.hid (hb.trans (hb2.mono hb.size))
        have hO1 := Lib.hid (Own.below hO.out hb2)
        clear hown2 hb hb2 hO
        go_wp2_with fail
        refine (passesBeyond_any A3 a.length c3 a _ hO1.out.lst hlen hOk.out).mono ?_
        rw [hPa.out]
        rintro e w3 ⟨rfl, hb3⟩
        have hB3 := Lib.hid (hB.out.trans (hb3.mono hB.out.size))
        clear hb3
        go_wp2_with fail
        go_ret2
        exact Unrd.no hRR.out hB3.out
end Go.Proofs.Ytjokiminlplbcaa
