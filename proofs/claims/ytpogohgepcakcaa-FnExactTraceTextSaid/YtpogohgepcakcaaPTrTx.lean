/- For every list of numbers of at most 2^20 the program's TraceText returns what the model's returns and leaves its argument as it is; longer lists are passed over by the law itself. No condition. -/
import Derived.Test.YtpogohgepcakcaaRows
import Derived.Test.YtpogohgepcakcaaRdt
import Derived.ProofKit
import Derived.OpenShut
import Derived.ShutString
import Derived.ChangeOld
import Derived.Below
namespace Go.Proofs.Ytpogohgepcakcaa.fnExactTraceText
open Go.ChangeShapes Go.WideShapes Go.ChangeAt Go.RowKit 
set_option linter.unusedVariables false
set_option maxRecDepth 100000

theorem own : ownKnob Try.prog.godebug = none := by kernel_rfl
theorem laidOut : laidOutB Try.prog = true := by kernel_rfl

set_option maxHeartbeats 1000000 in
theorem walk {H : Type} (enc : TypeId × Value → H) (W : World) (base : Nat) (v1 : Value) (d1 : DataW H) (p1 : List MemPlace) (hv1 : Value.okWide Try.prog W .any base 38 v1)
    (h1 : DataW.Trod enc Try.prog W 0 (fun _ => true) true 38 v1 d1 p1) (_ : ∀ x ∈ p1, x.block < W.heap.size) :
    Calls Try.prog 10 #[v1] W fun e w' => e = .returned (.bool true) ∧ Below W.heap.size W w' := by
  obtain ⟨A2, n2, c2, ds, rfl, hn2, hc2, hils⟩ := open_intl hv1 h1
  clear hv1 h1
  have hI := Lib.hid hils
  have hnn2 : n2 ≤ 9223372036854775807 := by unfold maxLen at hc2; omega
  clear hils hn2 hc2
  by_cases hb2 : 1048576 < n2
  · go_enter Try.func10, Try.ntmps10
    go_wp2_with fail
    go_ret
    exact ⟨rfl, Below.refl _ _⟩
  · have cS := Lib.hid (fun A2 wx (hy : Ils wx wx.heap.size A2 n2 ds) => specTraceText_any A2 n2 n2 ds wx hy (by unfold maxLen; omega))
    have cI := Lib.hid (fun A2 wx (hy : Ils wx wx.heap.size A2 n2 ds) => TraceText_any A2 n2 n2 ds wx hy (by unfold maxLen; omega))
    generalize txt ds = o at cS cI
    go_enter Try.func10, Try.ntmps10
    go_wp2_with fail
    refine (toIntS_any A2 n2 c2 ds _ hI.out (by omega)).mono ?_
    rintro e w2 ⟨g2, rfl, _, ho2, hB2⟩
    have i2 := Lib.hid ho2.lst
    clear ho2
    go_wp2_with fail
    refine (cS.out _ _ i2.out).mono ?_
    rintro e w3 ⟨rfl, hb3⟩
    have hB3 := hB2.trans (hb3.mono hB2.size)
    clear hb3 i2
    go_wp2_with fail
    refine (toIntS_any A2 n2 c2 ds _ ((hI.out.below hB3).more hB3.size) (by omega)).mono ?_
    rintro e w5 ⟨g5, rfl, _, ho5, hb5⟩
    have hB5 := hB3.trans (hb5.mono hB3.size)
    have i5 := Lib.hid ho5.lst
    clear hb5 ho5
    go_wp2_with fail
    refine (cI.out _ _ i5.out).mono ?_
    rintro e w6 ⟨rfl, hb6⟩
    have hB6 := hB5.trans (hb6.mono hB5.size)
    have i6 := Lib.hid ((i5.out.below hb6).more hb6.size)
    clear hb6 i5
    go_wp2_with fail
    refine (toIntS_any A2 n2 c2 ds _ ((hI.out.below hB6).more hB6.size) (by omega)).mono ?_
    rintro e w9 ⟨g9, rfl, _, ho9, hb9⟩
    have hB9 := hB6.trans (hb9.mono hB6.size)
    have i9 := Lib.hid ho9.lst
    have i89 := Lib.hid ((i6.out.below hb9).more hb9.size)
    clear hb9 ho9 i6
    go_wp2_with fail
    refine (eqIntS_any _ _ n2 n2 n2 n2 ds ds _ i89.out i9.out (by unfold maxLen; omega) (by unfold maxLen; omega)).mono ?_
    rw [decide_eq_true (rfl : ds = ds)]
    rintro e w10 ⟨rfl, q, rfl⟩
    go_wp2_with fail
    go_ret
    exact ⟨rfl, below_drewN hB9 _⟩

set_option maxRecDepth 100000 in
theorem lifted (os : Os) (started : os.Started) (H : Type) (enc : TypeId × Value → H) :
    ReturnsInHanded {} Try.checked os 10 .any (Rows.fnExactTraceTextSpec.pre6 enc Try.prog Try.f10 Rows.fnExactTraceTextRow.domain false) (Rows.fnExactTraceTextSpec.post enc Try.prog Try.f10 false true false false) := by
  refine returnsInHanded_of_change (C := Try.checked) own started (by kernel_rfl) Try.func10
    (ChangeSpec.witness6 (enc := enc) (C := Try.checked) false ⟨#[], #[.slice none 0 0], []⟩ 8 (by kernel_rfl) (by kernel_rfl) (by kernel_rfl) (by kernel_rfl)) ?_
  intro W base args ds gs before hval0 hW hcnd _
  have hval : ∀ (j : Nat) t v, Try.f10.params[j]? = some t → args[j]? = some v → Value.okWide Try.prog W .any base t v := hval0
  have hW' := hW
  obtain ⟨p, q, hA0, hV, rfl, hfz, hnd⟩ := hW
  have hA : DataW.TrodAll enc Try.prog W 0 (fun _ => true) true Try.f10.params.toList args.toList ds p := hA0
  rw [Try.params10] at hA hval
  obtain ⟨v0, vs0, d0, ds0, p0, q0, hargs, rfl, rfl, h0, r0⟩ := trodAll_cons hA
  obtain ⟨rfl, rfl, rfl⟩ := trodAll_nil r0
  obtain rfl : args = #[v0] := by cases args; simp_all
  obtain ⟨rfl, rfl⟩ := trodVars_none hV
  have lt0 : ∀ x ∈ p0, x.block < W.heap.size := by
    obtain ⟨m, hm⟩ := h0
    exact DataW.trod_lt m _ _ _ hm
  clear hA0 hval0
  refine (walk enc W base v0 d0 p0 (hval 0 38 v0 rfl rfl) h0 lt0).mono fun e W' ⟨he, bel⟩ => ?_
  subst he
  exact ⟨_, rfl, _, _, _, [], _, [], hW', trodAll_mk1 (shut_bool Try.underlying4 _), (trodAll_cons_mk (Below.trod laidOut (by kernel_rfl) (of_decide_eq_true (by kernel_rfl)) h0 bel lt0) trodAll_mk0), rfl, bel.frame _, fun h => by cases h⟩

theorem proved : Rows.FnExactTraceTextSaid :=
  OpenClaim.holds_of_wide 10 Try.f10 rfl rfl rfl rfl rfl rfl rfl ⟨rfl, rfl, rfl, rfl, rfl⟩ rfl rfl rfl rfl rfl (by kernel_rfl) Try.func10 (by kernel_rfl)
    (of_decide_eq_true (by kernel_rfl)) (by unfold Func.isWrapper; first | (rw [if_pos (by decide +kernel)]; kernel_rfl) | (rw [if_neg (by decide +kernel)]; exact ⟨rfl, rfl⟩))
    (fun os started H enc _ => lifted os started H enc)
end Go.Proofs.Ytpogohgepcakcaa.fnExactTraceText
