/- For every list of statements of at most 2^20 the program's Steepest returns what the model's returns, and leaves its argument as it is; longer lists are passed over by the law itself. No condition. -/
import Derived.Test.YtbndonfpdioibaaRows
import Derived.Test.YtbndonfpdioibaaSo
import Derived.Test.YtbndonfpdioibaaNm
import Derived.Test.YtbndonfpdioibaaKt
import Derived.ProofKit
import Derived.OpenShut
import Derived.ShutString
import Derived.ChangeOld
import Derived.Below
namespace Go.Proofs.Ytbndonfpdioibaa.fnExactSteepest
open Go.ChangeShapes Go.WideShapes Go.ChangeAt Go.RowKit 
set_option linter.unusedVariables false
set_option maxRecDepth 100000

theorem own : ownKnob Try.prog.godebug = none := by kernel_rfl
theorem laidOut : laidOutB Try.prog = true := by kernel_rfl

set_option maxHeartbeats 2000000 in
theorem walk {H : Type} (enc : TypeId × Value → H) (W : World) (base : Nat) (v0 : Value) (d0 : DataW H) (p0 : List MemPlace) (hv0 : Value.okWide Try.prog W .any base 22 v0)
    (h0 : DataW.Trod enc Try.prog W 0 (fun _ => true) true 22 v0 d0 p0) (_ : ∀ x ∈ p0, x.block < W.heap.size) :
    Calls Try.prog 7 #[v0] W fun e w' => e = .returned (.bool true) ∧ Below W.heap.size W w' := by
  obtain ⟨A0, n0, c0, ps0, rfl, hn0, hc0, hlst0⟩ := open_stmts hv0 h0
  clear hv0 h0
  have hH0 := Lib.hid hlst0
  have hL0 := Lib.hid hlst0.1
  have hnm0 := Lib.hid (Nat.le_trans hn0 hc0)
  have hnn0 : n0 ≤ 9223372036854775807 := by unfold maxLen at hc0; omega
  clear hlst0 hn0 hc0
  by_cases hsz0 : n0 ≤ 1048576
  rotate_left
  · go_enter Try.func7, Try.ntmps7
    go_wp2_with fail
    refine (szS_no A0 n0 c0 (1048576 : Int) _ hnm0.out (by omega) (by omega) (by omega)).mono ?_
    rintro e w' ⟨rfl, rfl⟩
    go_wp2_with fail
    go_ret
    exact ⟨rfl, Below.refl _ _⟩
  have hbig0 : n0 ≤ 1048576 := by omega
  have cS := Lib.hid (fun A wx (hx : Lst wx wx.heap.size A n0 ps0) => specSteepest_any A n0 n0 ps0 wx hx (Nat.le_refl _) hnm0.out hbig0)
  have cI := Lib.hid (fun A wx (hx : Lst wx wx.heap.size A n0 ps0) => Steepest_any A n0 n0 ps0 wx hx (Nat.le_refl _) hnm0.out)
  unfold Std at cS cI
  generalize stA (steepOf ps0) = oi at cS cI
  generalize stV (steepOf ps0) = oj at cS cI
  generalize (steepOf ps0).isSome = bb at cS cI
  go_enter Try.func7, Try.ntmps7
  go_wp2_with fail
  refine (szS_yes A0 n0 c0 (1048576 : Int) _ hnm0.out (by omega) (by omega)).mono ?_
  rintro e w' ⟨rfl, rfl⟩
  go_wp2_with fail
  refine (toStmtS_own A0 n0 c0 ps0 _ ((hH0.out.below (Below.refl W.heap.size W)).more (Below.refl W.heap.size W).size) hbig0).mono ?_
  rintro e w1 ⟨g1, rfl, pl1, hb1⟩
  have hB1 : Below W.heap.size W w1 := (Below.refl W.heap.size W).trans (hb1.mono (Below.refl W.heap.size W).size)
  have hz1 := hb1.size
  have hy1 := hB1.size
  have cp0_1 := Lib.hid pl1
  clear pl1 hb1
  go_wp2_with fail
  refine (cS.out _ _ (ownS_lst cp0_1.out.1.1)).mono ?_
  rintro e w2 ⟨rfl, hb⟩
  have hB2 : Below W.heap.size W w2 := hB1.trans (hb.mono hB1.size)
  have hz2 := hb.size
  have hy2 := hB2.size
  have cp0_2 := Lib.hid (cp0_1.out.below hb)
  clear cp0_1
  clear hb
  clear cp0_2
  go_wp2_with fail
  refine (toStmtS_own A0 n0 c0 ps0 _ ((hH0.out.below hB2).more hB2.size) hbig0).mono ?_
  rintro e w3 ⟨g3, rfl, pl3, hb3⟩
  have hB3 : Below W.heap.size W w3 := hB2.trans (hb3.mono hB2.size)
  have hz3 := hb3.size
  have hy3 := hB3.size
  have x0_3 := Lib.hid pl3
  clear pl3 hb3
  go_wp2_with fail
  refine (cI.out _ _ (ownS_lst x0_3.out.1.1)).mono ?_
  rintro e w4 ⟨rfl, hb⟩
  have hB4 : Below W.heap.size W w4 := hB3.trans (hb.mono hB3.size)
  have hz4 := hb.size
  have hy4 := hB4.size
  have x0_4 := Lib.hid (x0_3.out.below hb)
  clear x0_3
  clear hb
  go_wp2_with fail
  refine (toStmtS_own A0 n0 c0 ps0 _ ((hH0.out.below hB4).more hB4.size) hbig0).mono ?_
  rintro e w5 ⟨g5, rfl, pl5, hb5⟩
  have hB5 : Below W.heap.size W w5 := hB4.trans (hb5.mono hB4.size)
  have hz5 := hb5.size
  have hy5 := hB5.size
  have x0_5 := Lib.hid (x0_4.out.below hb5)
  clear x0_4
  have tmp_5 := Lib.hid pl5
  clear pl5 hb5
  go_wp2_with fail
  refine (eqStmtS_same (some ⟨g3, 0, none⟩) (some ⟨g5, 0, none⟩) n0 n0 n0 ps0 _ (ownS_lst x0_5.out.1.1) (ownS_lst tmp_5.out.1.1) (by unfold maxLen; omega)).mono ?_
  rintro e w6 ⟨rfl, hb6⟩
  have hB6 : Below W.heap.size W w6 := hB5.trans (hb6.mono hB5.size)
  have hz6 := hb6.size
  have hy6 := hB6.size
  have x0_6 := Lib.hid (x0_5.out.below hb6)
  clear x0_5
  have tmp_6 := Lib.hid (tmp_5.out.below hb6)
  clear tmp_5
  clear hb6
  clear tmp_6
  go_wp2_with fail
  go_ret
  exact ⟨rfl, hB6⟩

set_option maxRecDepth 100000 in
theorem lifted (os : Os) (started : os.Started) (H : Type) (enc : TypeId × Value → H) :
    ReturnsInHanded {} Try.checked os 7 .any (Rows.fnExactSteepestSpec.pre6 enc Try.prog Try.f7 Rows.fnExactSteepestRow.domain false) (Rows.fnExactSteepestSpec.post enc Try.prog Try.f7 false true false false) := by
  refine returnsInHanded_of_change (C := Try.checked) own started (by kernel_rfl) Try.func7
    (ChangeSpec.witness6 (enc := enc) (C := Try.checked) false ⟨#[], #[.slice none 0 0], []⟩ 8 (by kernel_rfl) (by kernel_rfl) (by kernel_rfl) (by kernel_rfl)) ?_
  intro W base args ds gs before hval0 hW hcnd _
  have hval : ∀ (j : Nat) t v, Try.f7.params[j]? = some t → args[j]? = some v → Value.okWide Try.prog W .any base t v := hval0
  have hW' := hW
  obtain ⟨p, q, hA0, hV, rfl, hfz, hnd⟩ := hW
  have hA : DataW.TrodAll enc Try.prog W 0 (fun _ => true) true Try.f7.params.toList args.toList ds p := hA0
  rw [Try.params7] at hA hval
  obtain ⟨v0, vs0, d0, ds0, p0, q0, hargs, rfl, rfl, h0, r0⟩ := trodAll_cons hA
  obtain ⟨rfl, rfl, rfl⟩ := trodAll_nil r0
  obtain rfl : args = #[v0] := by cases args; simp_all
  obtain ⟨rfl, rfl⟩ := trodVars_none hV
  have lt0 : ∀ x ∈ p0, x.block < W.heap.size := by
    obtain ⟨m, hm⟩ := h0
    exact DataW.trod_lt m _ _ _ hm
  clear hA0 hval0
  refine (walk enc W base v0 d0 p0 (hval 0 22 v0 rfl rfl) h0 lt0).mono fun e W' ⟨he, bel⟩ => ?_
  subst he
  exact ⟨_, rfl, _, _, _, [], _, [], hW', trodAll_mk1 (shut_bool Try.underlying4 _), (trodAll_cons_mk (Below.trod laidOut (by kernel_rfl) (of_decide_eq_true (by kernel_rfl)) h0 bel lt0) trodAll_mk0), rfl, bel.frame _, fun h => by cases h⟩

/-- What the statement asks of the whole program, one thing at a time: all at once wants too much memory. -/
theorem mayEnter : Try.prog.mayEnter = true := by kernel_rfl
theorem lifts : (Rows.fnExactSteepestRow.lifted == Try.prog.liftsFinal) = true := by kernel_rfl
theorem makes : (Try.prog.make == some Rows.fnExactSteepestRow.make) = true := by kernel_rfl
theorem closed : joinedFacts Try.prog 7 Try.f7 Rows.fnExactSteepestSpec Rows.fnExactSteepestRow = true := by
  unfold joinedFacts
  rw [mayEnter, lifts, makes]
  kernel_rfl

theorem proved : Rows.FnExactSteepestSaid :=
  OpenClaim.holds_of_wide 7 Try.f7 rfl rfl rfl rfl rfl rfl rfl ⟨rfl, rfl, rfl, rfl, rfl⟩ rfl rfl rfl rfl rfl (by kernel_rfl) Try.func7 closed
    (of_decide_eq_true (by kernel_rfl)) (by unfold Func.isWrapper; first | (rw [if_pos (by decide +kernel)]; kernel_rfl) | (rw [if_neg (by decide +kernel)]; exact ⟨rfl, rfl⟩))
    (fun os started H enc _ => lifted os started H enc)
end Go.Proofs.Ytbndonfpdioibaa.fnExactSteepest
