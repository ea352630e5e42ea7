/- For every list of statements and every list of numbers, both of at most 2^20, the program's RunTrace returns what the model's returns and leaves its arguments as they are; longer lists are passed over by the law itself. No condition. -/
import Derived.Test.YtpogohgepcakcaaRows
import Derived.Test.YtpogohgepcakcaaRts
import Derived.Test.YtpogohgepcakcaaIMk
import Derived.ProofKit
import Derived.OpenShut
import Derived.ShutString
import Derived.ChangeOld
import Derived.Below
namespace Go.Proofs.Ytpogohgepcakcaa.fnExactRunTrace
open Go.ChangeShapes Go.WideShapes Go.ChangeAt Go.RowKit 
set_option linter.unusedVariables false
set_option maxRecDepth 100000

theorem own : ownKnob Try.prog.godebug = none := by kernel_rfl
theorem laidOut : laidOutB Try.prog = true := by kernel_rfl

set_option maxHeartbeats 1000000 in
theorem walk {H : Type} (enc : TypeId × Value → H) (W : World) (base : Nat) (v0 : Value) (d0 : DataW H) (p0 : List MemPlace) (hv0 : Value.okWide Try.prog W .any base 53 v0)
    (h0 : DataW.Trod enc Try.prog W 0 (fun _ => true) true 53 v0 d0 p0) (_ : ∀ x ∈ p0, x.block < W.heap.size)
    (v1 : Value) (d1 : DataW H) (p1 : List MemPlace) (hv1 : Value.okWide Try.prog W .any base 38 v1)
    (h1 : DataW.Trod enc Try.prog W 0 (fun _ => true) true 38 v1 d1 p1) (_ : ∀ x ∈ p1, x.block < W.heap.size) :
    Calls Try.prog 8 #[v0, v1] W fun e w' => e = .returned (.bool true) ∧ Below W.heap.size W w' := by
  obtain ⟨A, n, c, ps, rfl, hn, hc, hlst⟩ := open_stmts hv0 h0
  obtain ⟨A2, n2, c2, ds, rfl, hn2, hc2, hils⟩ := open_intl hv1 h1
  clear hv0 h0 hv1 h1
  have hH := Lib.hid hlst
  have hL := Lib.hid hlst.1
  have hI := Lib.hid hils
  have hnm := Lib.hid (Nat.le_trans hn hc)
  have hnn2 : n2 ≤ 9223372036854775807 := by unfold maxLen at hc2; omega
  clear hlst hils hn hc hn2 hc2
  by_cases hb2 : 1048576 < n2
  · go_enter Try.func8, Try.ntmps8
    go_wp2_with fail
    go_ret
    exact ⟨rfl, Below.refl _ _⟩
  by_cases hbig : n ≤ 1048576
  · have hS := Lib.hid (show leftOf n = 1048576 - (n : Int) from if_pos hbig)
    have cS := Lib.hid (fun A A2 wx (hx : Lst wx wx.heap.size A n ps) (hy : Ils wx wx.heap.size A2 n2 ds) => specRunTrace_any A A2 n n n2 n2 ps ds wx hx (Nat.le_refl _) hnm.out hbig hy (by unfold maxLen; omega))
    have cI := Lib.hid (fun A A2 wx (hx : Lst wx wx.heap.size A n ps) (hy : Ils wx wx.heap.size A2 n2 ds) => RunTrace_any A A2 n n n2 n2 ps ds wx hx (Nat.le_refl _) hnm.out hy (by unfold maxLen; omega))
    have hdl := Lib.hid hI.out.1
    unfold RTd at cS cI
    generalize runTrace ps ds = o at cS cI
    generalize (o.getD (0, 0)).1 = oa at cS cI
    generalize (o.getD (0, 0)).2 = ob at cS cI
    generalize o.isSome = oc at cS cI
    go_enter Try.func8, Try.ntmps8
    go_wp2_with fail
    refine (szStmtS_any A n c _ hnm.out).mono ?_
    rw [hS.out]
    rintro e w' ⟨rfl, rfl⟩
    go_wp2_with fail
    refine (toStmtS_any A n c ps _ hH.out hbig).mono ?_
    rintro e w1 ⟨g1, cs1, rfl, _, hh1, hf1, hB1⟩
    have l1 := Lib.hid (hh1.lst hf1 hL.out)
    clear hh1 hf1
    go_wp2_with fail
    refine (toIntS_any A2 n2 c2 ds _ ((hI.out.below hB1).more hB1.size) (by omega)).mono ?_
    rintro e w2 ⟨g2, rfl, _, ho2, hb2'⟩
    have hB2 := hB1.trans (hb2'.mono hB1.size)
    have l12 := Lib.hid ((l1.out.below hb2').more hb2'.size)
    have i2 := Lib.hid ho2.lst
    clear hb2' ho2 l1
    go_wp2_with fail
    refine (cS.out _ _ _ l12.out i2.out).mono ?_
    rintro e w3 ⟨rfl, hb3⟩
    have hB3 := hB2.trans (hb3.mono hB2.size)
    clear hb3 l12 i2
    go_wp2_with fail
    refine (toStmtS_any A n c ps _ ((hH.out.below hB3).more hB3.size) hbig).mono ?_
    rintro e w4 ⟨g4, cs4, rfl, _, hh4, hf4, hb4⟩
    have hB4 := hB3.trans (hb4.mono hB3.size)
    have l4 := Lib.hid (hh4.lst hf4 hL.out)
    clear hb4 hh4 hf4
    go_wp2_with fail
    refine (toIntS_any A2 n2 c2 ds _ ((hI.out.below hB4).more hB4.size) (by omega)).mono ?_
    rintro e w5 ⟨g5, rfl, _, ho5, hb5⟩
    have hB5 := hB4.trans (hb5.mono hB4.size)
    have l5 := Lib.hid ((l4.out.below hb5).more hb5.size)
    have i5 := Lib.hid ho5.lst
    clear hb5 ho5 l4
    go_wp2_with fail
    refine (cI.out _ _ _ l5.out i5.out).mono ?_
    rintro e w6 ⟨rfl, hb6⟩
    have hB6 := hB5.trans (hb6.mono hB5.size)
    have l6 := Lib.hid ((l5.out.below hb6).more hb6.size)
    have i6 := Lib.hid ((i5.out.below hb6).more hb6.size)
    clear hb6 l5 i5
    go_wp2_with fail
    refine (toStmtS_any A n c ps _ ((hH.out.below hB6).more hB6.size) hbig).mono ?_
    rintro e w7 ⟨g7, cs7, rfl, _, hh7, hf7, hb7⟩
    have hB7 := hB6.trans (hb7.mono hB6.size)
    have l7 := Lib.hid (hh7.lst hf7 hL.out)
    have l67 := Lib.hid ((l6.out.below hb7).more hb7.size)
    have i7 := Lib.hid ((i6.out.below hb7).more hb7.size)
    clear hb7 hh7 hf7 l6 i6
    go_wp2_with fail
    refine (eqStmtS_same _ _ n n n ps _ l67.out l7.out hnm.out).mono ?_
    rintro e w8 ⟨rfl, hb8⟩
    have hB8 := hB7.trans (hb8.mono hB7.size)
    have i8 := Lib.hid ((i7.out.below hb8).more hb8.size)
    clear hb8 l67 l7 i7
    go_wp2_with fail
    refine (toIntS_any A2 n2 c2 ds _ ((hI.out.below hB8).more hB8.size) (by omega)).mono ?_
    rintro e w9 ⟨g9, rfl, _, ho9, hb9⟩
    have hB9 := hB8.trans (hb9.mono hB8.size)
    have i9 := Lib.hid ho9.lst
    have i89 := Lib.hid ((i8.out.below hb9).more hb9.size)
    clear hb9 ho9 i8
    go_wp2_with fail
    refine (eqIntS_any _ _ n2 n2 n2 n2 ds ds _ i89.out i9.out (by unfold maxLen; omega) (by unfold maxLen; omega)).mono ?_
    rw [decide_eq_true (rfl : ds = ds)]
    rintro e w10 ⟨rfl, q, rfl⟩
    go_wp2_with fail
    go_ret
    exact ⟨rfl, below_drewN hB9 _⟩
  · have hS := Lib.hid (show leftOf n = -1 from if_neg hbig)
    go_enter Try.func8, Try.ntmps8
    go_wp2_with fail
    refine (szStmtS_any A n c _ hnm.out).mono ?_
    rw [hS.out]
    rintro e w' ⟨rfl, rfl⟩
    go_wp2_with fail
    go_ret
    exact ⟨rfl, Below.refl _ _⟩

set_option maxRecDepth 100000 in
theorem lifted (os : Os) (started : os.Started) (H : Type) (enc : TypeId × Value → H) :
    ReturnsInHanded {} Try.checked os 8 .any (Rows.fnExactRunTraceSpec.pre6 enc Try.prog Try.f8 Rows.fnExactRunTraceRow.domain false) (Rows.fnExactRunTraceSpec.post enc Try.prog Try.f8 false true false false) := by
  refine returnsInHanded_of_change (C := Try.checked) own started (by kernel_rfl) Try.func8
    (ChangeSpec.witness6 (enc := enc) (C := Try.checked) false ⟨#[], #[.slice none 0 0, .slice none 0 0], []⟩ 8 (by kernel_rfl) (by kernel_rfl) (by kernel_rfl) (by kernel_rfl)) ?_
  intro W base args ds gs before hval0 hW hcnd _
  have hval : ∀ (j : Nat) t v, Try.f8.params[j]? = some t → args[j]? = some v → Value.okWide Try.prog W .any base t v := hval0
  have hW' := hW
  obtain ⟨p, q, hA0, hV, rfl, hfz, hnd⟩ := hW
  have hA : DataW.TrodAll enc Try.prog W 0 (fun _ => true) true Try.f8.params.toList args.toList ds p := hA0
  rw [Try.params8] at hA hval
  obtain ⟨v0, vs0, d0, ds0, p0, q0, hargs, rfl, rfl, h0, r0⟩ := trodAll_cons hA
  obtain ⟨v1, vs1, d1, ds1, p1, q1, rfl, rfl, rfl, h1, r1⟩ := trodAll_cons r0
  obtain ⟨rfl, rfl, rfl⟩ := trodAll_nil r1
  obtain rfl : args = #[v0, v1] := by cases args; simp_all
  obtain ⟨rfl, rfl⟩ := trodVars_none hV
  have lt0 : ∀ x ∈ p0, x.block < W.heap.size := by
    obtain ⟨m, hm⟩ := h0
    exact DataW.trod_lt m _ _ _ hm
  have lt1 : ∀ x ∈ p1, x.block < W.heap.size := by
    obtain ⟨m, hm⟩ := h1
    exact DataW.trod_lt m _ _ _ hm
  clear hA0 hval0
  refine (walk enc W base v0 d0 p0 (hval 0 53 v0 rfl rfl) h0 lt0 v1 d1 p1 (hval 1 38 v1 rfl rfl) h1 lt1).mono fun e W' ⟨he, bel⟩ => ?_
  subst he
  exact ⟨_, rfl, _, _, _, [], _, [], hW', trodAll_mk1 (shut_bool Try.underlying4 _), (trodAll_cons_mk (Below.trod laidOut (by kernel_rfl) (of_decide_eq_true (by kernel_rfl)) h0 bel lt0) (trodAll_cons_mk (Below.trod laidOut (by kernel_rfl) (of_decide_eq_true (by kernel_rfl)) h1 bel lt1) trodAll_mk0)), rfl, bel.frame _, fun h => by cases h⟩

theorem proved : Rows.FnExactRunTraceSaid :=
  OpenClaim.holds_of_wide 8 Try.f8 rfl rfl rfl rfl rfl rfl rfl ⟨rfl, rfl, rfl, rfl, rfl⟩ rfl rfl rfl rfl rfl (by kernel_rfl) Try.func8 (by kernel_rfl)
    (of_decide_eq_true (by kernel_rfl)) (by unfold Func.isWrapper; first | (rw [if_pos (by decide +kernel)]; kernel_rfl) | (rw [if_neg (by decide +kernel)]; exact ⟨rfl, rfl⟩))
    (fun os started H enc _ => lifted os started H enc)
end Go.Proofs.Ytpogohgepcakcaa.fnExactRunTrace
