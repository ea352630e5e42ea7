/- For every list of statements of at most 2^20 the program's CountDraws returns what the model's returns, and leaves its argument as it is; longer lists are passed over by the law itself. No condition. -/
import Derived.Test.YtpogohgepcakcaaRows
import Derived.Test.YtpogohgepcakcaaKit
import Derived.ProofKit
import Derived.OpenShut
import Derived.ShutString
import Derived.ChangeOld
import Derived.Below
namespace Go.Proofs.Ytpogohgepcakcaa.fnExactCountDraws
set_option maxRecDepth 100000
open Go.ChangeShapes Go.WideShapes Go.ChangeAt Go.RowKit 
set_option linter.unusedVariables false

theorem own : ownKnob Try.prog.godebug = none := by kernel_rfl
theorem laidOut : laidOutB Try.prog = true := by kernel_rfl

theorem walk {H : Type} (enc : TypeId × Value → H) (W : World) (base : Nat) (v : Value) (d : DataW H) (p : List MemPlace) (hv : Value.okWide Try.prog W .any base 53 v)
    (h : DataW.Trod enc Try.prog W 0 (fun _ => true) true 53 v d p) (_ : ∀ x ∈ p, x.block < W.heap.size) :
    Calls Try.prog 7 #[v] W fun e w' => e = .returned (.bool true) ∧ Below W.heap.size W w' := by
  obtain ⟨A, n, c, ps, rfl, hn, hc, hlst⟩ := open_stmts hv h
  clear hv h
  have hH := Lib.hid hlst
  have hL := Lib.hid hlst.1
  have hnm := Lib.hid (Nat.le_trans hn hc)
  clear hlst hn hc
  by_cases hbig : n ≤ 1048576
  · have hS := Lib.hid (show leftOf n = 1048576 - (n : Int) from if_pos hbig)
    go_enter Try.func7, Try.ntmps7
    go_wp2_with fail
    refine (szStmtS_any A n c _ hnm.out).mono ?_
    rw [hS.out]
    rintro e w' ⟨rfl, rfl⟩
    go_wp2_with fail
    refine (toStmtS_any A n c ps _ hH.out hbig).mono ?_
    rintro e w1 ⟨g1, cs1, rfl, _, hh1, hf1, hB1⟩
    have l1 := Lib.hid (hh1.lst hf1 hL.out)
    clear hh1 hf1
    go_wp2_with fail
    refine (specCountDraws_any _ n n ps _ l1.out (Nat.le_refl _) hnm.out hbig).mono ?_
    rintro e w2 ⟨rfl, hb2⟩
    have hB2 := hB1.trans (hb2.mono hB1.size)
    clear hb2
    go_wp2_with fail
    refine (toStmtS_any A n c ps _ ((hH.out.below hB2).more hB2.size) hbig).mono ?_
    rintro e w3 ⟨g3, cs3, rfl, _, hh3, hf3, hb3⟩
    have hB3 := hB2.trans (hb3.mono hB2.size)
    have l3 := Lib.hid (hh3.lst hf3 hL.out)
    clear hh3 hf3 hb3
    go_wp2_with fail
    refine (CountDraws_any _ n n ps _ l3.out (Nat.le_refl _) hnm.out).mono ?_
    rintro e w4 ⟨rfl, hb4⟩
    have hB4 := hB3.trans (hb4.mono hB3.size)
    have l4 := Lib.hid ((l3.out.below hb4).more hb4.size)
    clear hb4
    go_wp2_with fail
    refine (toStmtS_any A n c ps _ ((hH.out.below hB4).more hB4.size) hbig).mono ?_
    rintro e w5 ⟨g5, cs5, rfl, _, hh5, hf5, hb5⟩
    have hB5 := hB4.trans (hb5.mono hB4.size)
    have l5 := Lib.hid (hh5.lst hf5 hL.out)
    have l45 := Lib.hid ((l4.out.below hb5).more hb5.size)
    clear hh5 hf5 hb5
    go_wp2_with fail
    refine (eqStmtS_same _ _ n n n ps _ l45.out l5.out hnm.out).mono ?_
    rintro e w6 ⟨rfl, hb6⟩
    have hB6 := hB5.trans (hb6.mono hB5.size)
    clear hb6
    go_wp2_with fail
    go_ret
    exact ⟨rfl, hB6⟩
  · have hS := Lib.hid (show leftOf n = -1 from if_neg hbig)
    go_enter Try.func7, Try.ntmps7
    go_wp2_with fail
    refine (szStmtS_any A n c _ hnm.out).mono ?_
    rw [hS.out]
    rintro e w' ⟨rfl, rfl⟩
    go_wp2_with fail
    go_ret
    exact ⟨rfl, Below.refl _ _⟩

set_option maxRecDepth 100000 in
theorem lifted (os : Os) (started : os.Started) (H : Type) (enc : TypeId × Value → H) :
    ReturnsInHanded {} Try.checked os 7 .any (Rows.fnExactCountDrawsSpec.pre6 enc Try.prog Try.f7 Rows.fnExactCountDrawsRow.domain false) (Rows.fnExactCountDrawsSpec.post enc Try.prog Try.f7 false true false false) := by
  refine returnsInHanded_of_change (C := Try.checked) own started (by kernel_rfl) Try.func7
    (ChangeSpec.witness6 (enc := enc) (C := Try.checked) false ⟨#[], #[.slice none 0 0], []⟩ 8 (by kernel_rfl) (by kernel_rfl) (by kernel_rfl) (by kernel_rfl)) ?_
  intro W base args ds gs before hval0 hW hcnd _
  have hval : ∀ (j : Nat) t v, Try.f7.params[j]? = some t → args[j]? = some v → Value.okWide Try.prog W .any base t v := hval0
  have hW' := hW
  obtain ⟨p, q, hA0, hV, rfl, hfz, hnd⟩ := hW
  have hA : DataW.TrodAll enc Try.prog W 0 (fun _ => true) true Try.f7.params.toList args.toList ds p := hA0
  rw [Try.params7] at hA hval
  obtain ⟨v0, vs0, d0, ds0, p0, q0, hargs, rfl, rfl, h0, r0⟩ := trodAll_cons hA
  obtain ⟨rfl, rfl, rfl⟩ := trodAll_nil r0
  obtain rfl : args = #[v0] := by cases args; simp_all
  obtain ⟨rfl, rfl⟩ := trodVars_none hV
  have lt0 : ∀ x ∈ p0, x.block < W.heap.size := by
    obtain ⟨m, hm⟩ := h0
    exact DataW.trod_lt m _ _ _ hm
  clear hA0 hval0
  refine (walk enc W base v0 d0 p0 (hval 0 53 v0 rfl rfl) h0 lt0).mono fun e W' ⟨he, bel⟩ => ?_
  subst he
  exact ⟨_, rfl, _, _, _, [], _, [], hW', trodAll_mk1 (shut_bool Try.underlying4 _), (trodAll_cons_mk (Below.trod laidOut (by kernel_rfl) (of_decide_eq_true (by kernel_rfl)) h0 bel lt0) trodAll_mk0), rfl, bel.frame _, fun h => by cases h⟩

theorem proved : Rows.FnExactCountDrawsSaid :=
  OpenClaim.holds_of_wide 7 Try.f7 rfl rfl rfl rfl rfl rfl rfl ⟨rfl, rfl, rfl, rfl, rfl⟩ rfl rfl rfl rfl rfl (by kernel_rfl) Try.func7 (by kernel_rfl)
    (of_decide_eq_true (by kernel_rfl)) (by unfold Func.isWrapper; first | (rw [if_pos (by decide +kernel)]; kernel_rfl) | (rw [if_neg (by decide +kernel)]; exact ⟨rfl, rfl⟩))
    (fun os started H enc _ => lifted os started H enc)
end Go.Proofs.Ytpogohgepcakcaa.fnExactCountDraws
