/- For every two lists of statements of together at most 2^20 the program's SameAnswer returns what the model's returns, and leaves its arguments as they are; longer lists are passed over by the law itself. No condition. -/
import Derived.Test.YtbjpodgmmpchjaaRows
import Derived.Test.YtbjpodgmmpchjaaAd
import Derived.Test.YtbjpodgmmpchjaaNm
import Derived.Test.YtbjpodgmmpchjaaKt
import Derived.ProofKit
import Derived.OpenShut
import Derived.ShutString
import Derived.ChangeOld
import Derived.Below
namespace Go.Proofs.Ytbjpodgmmpchjaa.fnExactSameAnswer
open Go.ChangeShapes Go.WideShapes Go.ChangeAt Go.RowKit 
set_option linter.unusedVariables false
set_option maxRecDepth 100000

theorem own : ownKnob Try.prog.godebug = none := by kernel_rfl
theorem laidOut : laidOutB Try.prog = true := by kernel_rfl

set_option maxHeartbeats 2000000 in
theorem walk {H : Type} (enc : TypeId × Value → H) (W : World) (base : Nat) (v0 : Value) (d0 : DataW H) (p0 : List MemPlace) (hv0 : Value.okWide Try.prog W .any base 22 v0)
    (h0 : DataW.Trod enc Try.prog W 0 (fun _ => true) true 22 v0 d0 p0) (_ : ∀ x ∈ p0, x.block < W.heap.size) (v1 : Value) (d1 : DataW H) (p1 : List MemPlace) (hv1 : Value.okWide Try.prog W .any base 22 v1)
    (h1 : DataW.Trod enc Try.prog W 0 (fun _ => true) true 22 v1 d1 p1) (_ : ∀ x ∈ p1, x.block < W.heap.size) :
    Calls Try.prog 12 #[v0, v1] W fun e w' => e = .returned (.bool true) ∧ Below W.heap.size W w' := by
  obtain ⟨A0, n0, c0, ps0, rfl, hn0, hc0, hlst0⟩ := open_stmts hv0 h0
  obtain ⟨A1, n1, c1, ps1, rfl, hn1, hc1, hlst1⟩ := open_stmts hv1 h1
  clear hv0 h0 hv1 h1
  have hH0 := Lib.hid hlst0
  have hL0 := Lib.hid hlst0.1
  have hnm0 := Lib.hid (Nat.le_trans hn0 hc0)
  have hnn0 : n0 ≤ 9223372036854775807 := by unfold maxLen at hc0; omega
  clear hlst0 hn0 hc0
  have hH1 := Lib.hid hlst1
  have hL1 := Lib.hid hlst1.1
  have hnm1 := Lib.hid (Nat.le_trans hn1 hc1)
  have hnn1 : n1 ≤ 9223372036854775807 := by unfold maxLen at hc1; omega
  clear hlst1 hn1 hc1
  by_cases hsz0 : n0 ≤ 1048576
  rotate_left
  · go_enter Try.func12, Try.ntmps12
    go_wp2_with fail
    refine (szS_no A0 n0 c0 (1048576 : Int) _ hnm0.out (by omega) (by omega) (by omega)).mono ?_
    rintro e w' ⟨rfl, rfl⟩
    go_wp2_with fail
    go_ret
    exact ⟨rfl, Below.refl _ _⟩
  by_cases hsz1 : n0 + n1 ≤ 1048576
  rotate_left
  · go_enter Try.func12, Try.ntmps12
    go_wp2_with fail
    refine (szS_yes A0 n0 c0 (1048576 : Int) _ hnm0.out (by omega) (by omega)).mono ?_
    rintro e w' ⟨rfl, rfl⟩
    go_wp2_with fail
    refine (szS_no A1 n1 c1 (1048576 - (n0 : Int) : Int) _ hnm1.out (by omega) (by omega) (by omega)).mono ?_
    rintro e w' ⟨rfl, rfl⟩
    go_wp2_with fail
    go_ret
    exact ⟨rfl, Below.refl _ _⟩
  have hbig0 : n0 ≤ 1048576 := by omega
  have hbig1 : n1 ≤ 1048576 := by omega
  have cS := Lib.hid (fun A A2 wx (hx : Lst wx wx.heap.size A n0 ps0) (hy : Lst wx wx.heap.size A2 n1 ps1) => specSameAnswer_any A A2 n0 n0 n1 n1 ps0 ps1 wx hx (Nat.le_refl _) hnm0.out hbig0 hy (Nat.le_refl _) hnm1.out hbig1)
  have cI := Lib.hid (fun A A2 wx (hx : Lst wx wx.heap.size A n0 ps0) (hy : Lst wx wx.heap.size A2 n1 ps1) => SameAnswer_any A A2 n0 n0 n1 n1 ps0 ps1 wx hx (Nat.le_refl _) hnm0.out hy (Nat.le_refl _) hnm1.out)
  generalize sameA ps0 ps1 = bb at cS cI
  go_enter Try.func12, Try.ntmps12
  go_wp2_with fail
  refine (szS_yes A0 n0 c0 (1048576 : Int) _ hnm0.out (by omega) (by omega)).mono ?_
  rintro e w' ⟨rfl, rfl⟩
  go_wp2_with fail
  refine (szS_yes A1 n1 c1 (1048576 - (n0 : Int) : Int) _ hnm1.out (by omega) (by omega)).mono ?_
  rintro e w' ⟨rfl, rfl⟩
  go_wp2_with fail
  refine (toStmtS_own A0 n0 c0 ps0 _ ((hH0.out.below (Below.refl W.heap.size W)).more (Below.refl W.heap.size W).size) hbig0).mono ?_
  rintro e w1 ⟨g1, rfl, pl1, hb1⟩
  have hB1 : Below W.heap.size W w1 := (Below.refl W.heap.size W).trans (hb1.mono (Below.refl W.heap.size W).size)
  have hz1 := hb1.size
  have hy1 := hB1.size
  have cp0_1 := Lib.hid pl1
  clear pl1 hb1
  go_wp2_with fail
  refine (toStmtS_own A1 n1 c1 ps1 _ ((hH1.out.below hB1).more hB1.size) hbig1).mono ?_
  rintro e w2 ⟨g2, rfl, pl2, hb2⟩
  have hB2 : Below W.heap.size W w2 := hB1.trans (hb2.mono hB1.size)
  have hz2 := hb2.size
  have hy2 := hB2.size
  have cp0_2 := Lib.hid (cp0_1.out.below hb2)
  clear cp0_1
  have cp1_2 := Lib.hid pl2
  clear pl2 hb2
  go_wp2_with fail
  refine (cS.out _ _ _ (ownS_lst cp0_2.out.1.1) (ownS_lst cp1_2.out.1.1)).mono ?_
  rintro e w3 ⟨rfl, hb⟩
  have hB3 : Below W.heap.size W w3 := hB2.trans (hb.mono hB2.size)
  have hz3 := hb.size
  have hy3 := hB3.size
  have cp0_3 := Lib.hid (cp0_2.out.below hb)
  clear cp0_2
  have cp1_3 := Lib.hid (cp1_2.out.below hb)
  clear cp1_2
  clear hb
  clear cp0_3
  clear cp1_3
  go_wp2_with fail
  refine (toStmtS_own A0 n0 c0 ps0 _ ((hH0.out.below hB3).more hB3.size) hbig0).mono ?_
  rintro e w4 ⟨g4, rfl, pl4, hb4⟩
  have hB4 : Below W.heap.size W w4 := hB3.trans (hb4.mono hB3.size)
  have hz4 := hb4.size
  have hy4 := hB4.size
  have x0_4 := Lib.hid pl4
  clear pl4 hb4
  go_wp2_with fail
  refine (toStmtS_own A1 n1 c1 ps1 _ ((hH1.out.below hB4).more hB4.size) hbig1).mono ?_
  rintro e w5 ⟨g5, rfl, pl5, hb5⟩
  have hB5 : Below W.heap.size W w5 := hB4.trans (hb5.mono hB4.size)
  have hz5 := hb5.size
  have hy5 := hB5.size
  have x0_5 := Lib.hid (x0_4.out.below hb5)
  clear x0_4
  have x1_5 := Lib.hid pl5
  clear pl5 hb5
  go_wp2_with fail
  refine (cI.out _ _ _ (ownS_lst x0_5.out.1.1) (ownS_lst x1_5.out.1.1)).mono ?_
  rintro e w6 ⟨rfl, hb⟩
  have hB6 : Below W.heap.size W w6 := hB5.trans (hb.mono hB5.size)
  have hz6 := hb.size
  have hy6 := hB6.size
  have x0_6 := Lib.hid (x0_5.out.below hb)
  clear x0_5
  have x1_6 := Lib.hid (x1_5.out.below hb)
  clear x1_5
  clear hb
  go_wp2_with fail
  refine (toStmtS_own A0 n0 c0 ps0 _ ((hH0.out.below hB6).more hB6.size) hbig0).mono ?_
  rintro e w7 ⟨g7, rfl, pl7, hb7⟩
  have hB7 : Below W.heap.size W w7 := hB6.trans (hb7.mono hB6.size)
  have hz7 := hb7.size
  have hy7 := hB7.size
  have x0_7 := Lib.hid (x0_6.out.below hb7)
  clear x0_6
  have x1_7 := Lib.hid (x1_6.out.below hb7)
  clear x1_6
  have tmp_7 := Lib.hid pl7
  clear pl7 hb7
  go_wp2_with fail
  refine (eqStmtS_same (some ⟨g4, 0, none⟩) (some ⟨g7, 0, none⟩) n0 n0 n0 ps0 _ (ownS_lst x0_7.out.1.1) (ownS_lst tmp_7.out.1.1) (by unfold maxLen; omega)).mono ?_
  rintro e w8 ⟨rfl, hb8⟩
  have hB8 : Below W.heap.size W w8 := hB7.trans (hb8.mono hB7.size)
  have hz8 := hb8.size
  have hy8 := hB8.size
  have x0_8 := Lib.hid (x0_7.out.below hb8)
  clear x0_7
  have x1_8 := Lib.hid (x1_7.out.below hb8)
  clear x1_7
  have tmp_8 := Lib.hid (tmp_7.out.below hb8)
  clear tmp_7
  clear hb8
  clear tmp_8
  go_wp2_with fail
  refine (toStmtS_own A1 n1 c1 ps1 _ ((hH1.out.below hB8).more hB8.size) hbig1).mono ?_
  rintro e w9 ⟨g9, rfl, pl9, hb9⟩
  have hB9 : Below W.heap.size W w9 := hB8.trans (hb9.mono hB8.size)
  have hz9 := hb9.size
  have hy9 := hB9.size
  have x0_9 := Lib.hid (x0_8.out.below hb9)
  clear x0_8
  have x1_9 := Lib.hid (x1_8.out.below hb9)
  clear x1_8
  have tmp_9 := Lib.hid pl9
  clear pl9 hb9
  go_wp2_with fail
  refine (eqStmtS_same (some ⟨g5, 0, none⟩) (some ⟨g9, 0, none⟩) n1 n1 n1 ps1 _ (ownS_lst x1_9.out.1.1) (ownS_lst tmp_9.out.1.1) (by unfold maxLen; omega)).mono ?_
  rintro e w10 ⟨rfl, hb10⟩
  have hB10 : Below W.heap.size W w10 := hB9.trans (hb10.mono hB9.size)
  have hz10 := hb10.size
  have hy10 := hB10.size
  have x0_10 := Lib.hid (x0_9.out.below hb10)
  clear x0_9
  have x1_10 := Lib.hid (x1_9.out.below hb10)
  clear x1_9
  have tmp_10 := Lib.hid (tmp_9.out.below hb10)
  clear tmp_9
  clear hb10
  clear tmp_10
  go_wp2_with fail
  go_ret
  exact ⟨rfl, hB10⟩

set_option maxRecDepth 100000 in
theorem lifted (os : Os) (started : os.Started) (H : Type) (enc : TypeId × Value → H) :
    ReturnsInHanded {} Try.checked os 12 .any (Rows.fnExactSameAnswerSpec.pre6 enc Try.prog Try.f12 Rows.fnExactSameAnswerRow.domain false) (Rows.fnExactSameAnswerSpec.post enc Try.prog Try.f12 false true false false) := by
  refine returnsInHanded_of_change (C := Try.checked) own started (by kernel_rfl) Try.func12
    (ChangeSpec.witness6 (enc := enc) (C := Try.checked) false ⟨#[], #[.slice none 0 0, .slice none 0 0], []⟩ 8 (by kernel_rfl) (by kernel_rfl) (by kernel_rfl) (by kernel_rfl)) ?_
  intro W base args ds gs before hval0 hW hcnd _
  have hval : ∀ (j : Nat) t v, Try.f12.params[j]? = some t → args[j]? = some v → Value.okWide Try.prog W .any base t v := hval0
  have hW' := hW
  obtain ⟨p, q, hA0, hV, rfl, hfz, hnd⟩ := hW
  have hA : DataW.TrodAll enc Try.prog W 0 (fun _ => true) true Try.f12.params.toList args.toList ds p := hA0
  rw [Try.params12] at hA hval
  obtain ⟨v0, vs0, d0, ds0, p0, q0, hargs, rfl, rfl, h0, r0⟩ := trodAll_cons hA
  obtain ⟨v1, vs1, d1, ds1, p1, q1, rfl, rfl, rfl, h1, r1⟩ := trodAll_cons r0
  obtain ⟨rfl, rfl, rfl⟩ := trodAll_nil r1
  obtain rfl : args = #[v0, v1] := by cases args; simp_all
  obtain ⟨rfl, rfl⟩ := trodVars_none hV
  have lt0 : ∀ x ∈ p0, x.block < W.heap.size := by
    obtain ⟨m, hm⟩ := h0
    exact DataW.trod_lt m _ _ _ hm
  have lt1 : ∀ x ∈ p1, x.block < W.heap.size := by
    obtain ⟨m, hm⟩ := h1
    exact DataW.trod_lt m _ _ _ hm
  clear hA0 hval0
  refine (walk enc W base v0 d0 p0 (hval 0 22 v0 rfl rfl) h0 lt0 v1 d1 p1 (hval 1 22 v1 rfl rfl) h1 lt1).mono fun e W' ⟨he, bel⟩ => ?_
  subst he
  exact ⟨_, rfl, _, _, _, [], _, [], hW', trodAll_mk1 (shut_bool Try.underlying4 _), (trodAll_cons_mk (Below.trod laidOut (by kernel_rfl) (of_decide_eq_true (by kernel_rfl)) h0 bel lt0) (trodAll_cons_mk (Below.trod laidOut (by kernel_rfl) (of_decide_eq_true (by kernel_rfl)) h1 bel lt1) trodAll_mk0)), rfl, bel.frame _, fun h => by cases h⟩

theorem proved : Rows.FnExactSameAnswerSaid :=
  OpenClaim.holds_of_wide 12 Try.f12 rfl rfl rfl rfl rfl rfl rfl ⟨rfl, rfl, rfl, rfl, rfl⟩ rfl rfl rfl rfl rfl (by kernel_rfl) Try.func12 (by kernel_rfl)
    (of_decide_eq_true (by kernel_rfl)) (by unfold Func.isWrapper; first | (rw [if_pos (by decide +kernel)]; kernel_rfl) | (rw [if_neg (by decide +kernel)]; exact ⟨rfl, rfl⟩))
    (fun os started H enc _ => lifted os started H enc)
end Go.Proofs.Ytbjpodgmmpchjaa.fnExactSameAnswer
