/- For every two numbers the program's EventOf returns what the model's returns, and hands back memory of its own. No condition. -/
import Derived.Test.YtcphclkaddhfmaaRows
import Derived.Test.YtcphclkaddhfmaaBm
import Derived.Test.YtcphclkaddhfmaaNm
import Derived.Test.YtcphclkaddhfmaaKt
import Derived.ProofKit
import Derived.OpenShut
import Derived.ShutString
import Derived.ChangeOld
import Derived.Below
namespace Go.Proofs.Ytcphclkaddhfmaa.fnExactEventOf
open Go.ChangeShapes Go.WideShapes Go.ChangeAt Go.RowKit 
set_option linter.unusedVariables false
set_option maxRecDepth 100000

theorem own : ownKnob Try.prog.godebug = none := by kernel_rfl
theorem laidOut : laidOutB Try.prog = true := by kernel_rfl

set_option maxHeartbeats 2000000 in
theorem walk {H : Type} (enc : TypeId × Value → H) (W : World) (base : Nat) (v0 : Value) (d0 : DataW H) (p0 : List MemPlace) (hv0 : Value.okWide Try.prog W .any base 3 v0)
    (h0 : DataW.Trod enc Try.prog W 0 (fun _ => true) true 3 v0 d0 p0) (_ : ∀ x ∈ p0, x.block < W.heap.size) (v1 : Value) (d1 : DataW H) (p1 : List MemPlace) (hv1 : Value.okWide Try.prog W .any base 3 v1)
    (h1 : DataW.Trod enc Try.prog W 0 (fun _ => true) true 3 v1 d1 p1) (_ : ∀ x ∈ p1, x.block < W.heap.size) :
    Calls Try.prog 6 #[v0, v1] W fun e w' => e = .returned (.bool true) ∧ Below W.heap.size W w' := by
  obtain ⟨x0, rfl⟩ : ∃ x : Int, v0 = .int .i64 x := okWide_int Try.underlying3 hv0
  obtain ⟨x1, rfl⟩ : ∃ x : Int, v1 = .int .i64 x := okWide_int Try.underlying3 hv1
  clear hv0 h0 hv1 h1
  have cS := Lib.hid (fun wx => specEventOf_any x0 x1 wx)
  have cI := Lib.hid (fun wx => EventOf_any x0 x1 wx)
  have hrl := evOf_len x0 x1
  unfold Wtsd at cS cI
  generalize evOf x0 x1 = os at hrl cS cI
  go_enter Try.func6, Try.ntmps6
  go_wp2_with fail
  refine (cS.out  _ ).mono ?_
  rintro e w1 ⟨vS0, rfl, hoS0, hb⟩
  have hB1 : Below W.heap.size W w1 := (Below.refl W.heap.size W).trans (hb.mono (Below.refl W.heap.size W).size)
  have hz1 := hb.size
  have hy1 := hB1.size
  obtain ⟨AS0, kS0, hvS01, _, _⟩ := IOwn.form hoS0
  subst hvS01
  have oS0_1 := Lib.hid (OwnB.pl (by exact hoS0))
  clear hoS0
  clear hb
  go_wp2_with fail
  refine (cI.out  _ ).mono ?_
  rintro e w2 ⟨vI0, rfl, hoI0, hb⟩
  have hB2 : Below W.heap.size W w2 := hB1.trans (hb.mono hB1.size)
  have hz2 := hb.size
  have hy2 := hB2.size
  have oS0_2 := Lib.hid (oS0_1.out.below hb)
  clear oS0_1
  obtain ⟨AI0, kI0, hvI02, _, _⟩ := IOwn.form hoI0
  subst hvI02
  have oI0_2 := Lib.hid (OwnB.pl (by exact hoI0))
  clear hoI0
  clear hb
  go_wp2_with fail
  refine (eqIntS_same AI0 AS0 os.length kI0 kS0 os _ (ownI_lst oI0_2.out.1.1) (ownI_lst oS0_2.out.1.1) (by unfold maxLen; omega)).mono ?_
  rintro e w3 ⟨rfl, q3, hq3⟩
  have hb3 : Below w2.heap.size w2 w3 := by rw [hq3]; exact below_drewN (Below.refl _ _) _
  clear hq3
  have hB3 : Below W.heap.size W w3 := hB2.trans (hb3.mono hB2.size)
  have hz3 := hb3.size
  have hy3 := hB3.size
  have oS0_3 := Lib.hid (oS0_2.out.below hb3)
  clear oS0_2
  have oI0_3 := Lib.hid (oI0_2.out.below hb3)
  clear oI0_2
  clear hb3
  go_wp2_with fail
  refine (markI_pl AI0 os.length kI0 _ _ 1 _ _ oI0_3.out (by omega) (by omega) (by omega)).mono ?_
  rintro e w4 ⟨rfl, hk4, pl4⟩
  have hB4 : Below W.heap.size W w4 := below_but hB3 hk4 (fun k hk => by omega)
  have hz4 := hk4.size
  have hy4 := hB4.size
  have oS0_4 := Lib.hid (oS0_3.out.but hk4 (fun k hk hk2 => by omega))
  clear oS0_3
  clear oI0_3
  have oI0_4 := Lib.hid pl4
  clear hk4 pl4
  go_wp2_with fail
  refine (heldIntS_any AI0 os.length kI0 1 _ oI0_4.out.1.1 (by omega) (by omega) (by omega)).mono ?_
  rintro e w' ⟨rfl, rfl⟩
  go_wp2_with fail
  refine (cI.out  _ ).mono ?_
  rintro e w5 ⟨vJ0, rfl, hoJ0, hb⟩
  have hB5 : Below W.heap.size W w5 := hB4.trans (hb.mono hB4.size)
  have hz5 := hb.size
  have hy5 := hB5.size
  have oS0_5 := Lib.hid (oS0_4.out.below hb)
  clear oS0_4
  have oI0_5 := Lib.hid (oI0_4.out.below hb)
  clear oI0_4
  obtain ⟨AJ0, kJ0, hvJ05, _, _⟩ := IOwn.form hoJ0
  subst hvJ05
  have oJ0_5 := Lib.hid (OwnB.pl (by exact hoJ0))
  clear hoJ0
  clear hb
  go_wp2_with fail
  refine (eqIntS_same AJ0 AS0 os.length kJ0 kS0 os _ (ownI_lst oJ0_5.out.1.1) (ownI_lst oS0_5.out.1.1) (by unfold maxLen; omega)).mono ?_
  rintro e w6 ⟨rfl, q6, hq6⟩
  have hb6 : Below w5.heap.size w5 w6 := by rw [hq6]; exact below_drewN (Below.refl _ _) _
  clear hq6
  have hB6 : Below W.heap.size W w6 := hB5.trans (hb6.mono hB5.size)
  have hz6 := hb6.size
  have hy6 := hB6.size
  have oS0_6 := Lib.hid (oS0_5.out.below hb6)
  clear oS0_5
  have oI0_6 := Lib.hid (oI0_5.out.below hb6)
  clear oI0_5
  have oJ0_6 := Lib.hid (oJ0_5.out.below hb6)
  clear oJ0_5
  clear hb6
  go_wp2_with fail
  refine (heldIntS_any AI0 os.length kI0 1 _ oI0_6.out.1.1 (by omega) (by omega) (by omega)).mono ?_
  rintro e w' ⟨rfl, rfl⟩
  go_wp2_with fail
  go_ret
  exact ⟨rfl, hB6⟩

set_option maxRecDepth 100000 in
theorem lifted (os : Os) (started : os.Started) (H : Type) (enc : TypeId × Value → H) :
    ReturnsInHanded {} Try.checked os 6 .any (Rows.fnExactEventOfSpec.pre6 enc Try.prog Try.f6 Rows.fnExactEventOfRow.domain false) (Rows.fnExactEventOfSpec.post enc Try.prog Try.f6 false true false false) := by
  refine returnsInHanded_of_change (C := Try.checked) own started (by kernel_rfl) Try.func6
    (ChangeSpec.witness6 (enc := enc) (C := Try.checked) false ⟨#[], #[.int .i64 0, .int .i64 0], []⟩ 8 (by kernel_rfl) (by kernel_rfl) (by kernel_rfl) (by kernel_rfl)) ?_
  intro W base args ds gs before hval0 hW hcnd _
  have hval : ∀ (j : Nat) t v, Try.f6.params[j]? = some t → args[j]? = some v → Value.okWide Try.prog W .any base t v := hval0
  have hW' := hW
  obtain ⟨p, q, hA0, hV, rfl, hfz, hnd⟩ := hW
  have hA : DataW.TrodAll enc Try.prog W 0 (fun _ => true) true Try.f6.params.toList args.toList ds p := hA0
  rw [Try.params6] at hA hval
  obtain ⟨v0, vs0, d0, ds0, p0, q0, hargs, rfl, rfl, h0, r0⟩ := trodAll_cons hA
  obtain ⟨v1, vs1, d1, ds1, p1, q1, rfl, rfl, rfl, h1, r1⟩ := trodAll_cons r0
  obtain ⟨rfl, rfl, rfl⟩ := trodAll_nil r1
  obtain rfl : args = #[v0, v1] := by cases args; simp_all
  obtain ⟨rfl, rfl⟩ := trodVars_none hV
  have lt0 : ∀ x ∈ p0, x.block < W.heap.size := by
    obtain ⟨m, hm⟩ := h0
    exact DataW.trod_lt m _ _ _ hm
  have lt1 : ∀ x ∈ p1, x.block < W.heap.size := by
    obtain ⟨m, hm⟩ := h1
    exact DataW.trod_lt m _ _ _ hm
  clear hA0 hval0
  refine (walk enc W base v0 d0 p0 (hval 0 3 v0 rfl rfl) h0 lt0 v1 d1 p1 (hval 1 3 v1 rfl rfl) h1 lt1).mono fun e W' ⟨he, bel⟩ => ?_
  subst he
  exact ⟨_, rfl, _, _, _, [], _, [], hW', trodAll_mk1 (shut_bool Try.underlying4 _), (trodAll_cons_mk (Below.trod laidOut (by kernel_rfl) (of_decide_eq_true (by kernel_rfl)) h0 bel lt0) (trodAll_cons_mk (Below.trod laidOut (by kernel_rfl) (of_decide_eq_true (by kernel_rfl)) h1 bel lt1) trodAll_mk0)), rfl, bel.frame _, fun h => by cases h⟩

theorem proved : Rows.FnExactEventOfSaid :=
  OpenClaim.holds_of_wide 6 Try.f6 rfl rfl rfl rfl rfl rfl rfl ⟨rfl, rfl, rfl, rfl, rfl⟩ rfl rfl rfl rfl rfl (by kernel_rfl) Try.func6 (by kernel_rfl)
    (of_decide_eq_true (by kernel_rfl)) (by unfold Func.isWrapper; first | (rw [if_pos (by decide +kernel)]; kernel_rfl) | (rw [if_neg (by decide +kernel)]; exact ⟨rfl, rfl⟩))
    (fun os started H enc _ => lifted os started H enc)
end Go.Proofs.Ytcphclkaddhfmaa.fnExactEventOf
