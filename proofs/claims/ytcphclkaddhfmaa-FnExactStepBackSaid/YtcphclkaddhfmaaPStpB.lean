/- For every statement and every list of numbers of at most 2^20 the program's StepBack returns what the model's returns, leaves its arguments as they are, and hands back memory of its own; longer lists are passed over by the law itself. No condition. -/
import Derived.Test.YtcphclkaddhfmaaRows
import Derived.Test.YtcphclkaddhfmaaBm
import Derived.Test.YtcphclkaddhfmaaNm
import Derived.Test.YtcphclkaddhfmaaKt
import Derived.ProofKit
import Derived.OpenShut
import Derived.ShutString
import Derived.ChangeOld
import Derived.Below
namespace Go.Proofs.Ytcphclkaddhfmaa.fnExactStepBack
open Go.ChangeShapes Go.WideShapes Go.ChangeAt Go.RowKit 
set_option linter.unusedVariables false
set_option maxRecDepth 100000

theorem own : ownKnob Try.prog.godebug = none := by kernel_rfl
theorem laidOut : laidOutB Try.prog = true := by kernel_rfl

theorem sbOf_len (s : St) (ds : List Int) : (sbOf s ds).length ≤ 81 := by
  unfold sbOf
  split
  · rw [rowL_length]; exact Nat.le_refl _
  · simp
set_option maxHeartbeats 2000000 in
theorem walk {H : Type} (enc : TypeId × Value → H) (W : World) (base : Nat) (v0 : Value) (d0 : DataW H) (p0 : List MemPlace) (hv0 : Value.okWide Try.prog W .any base 47 v0)
    (h0 : DataW.Trod enc Try.prog W 0 (fun _ => true) true 47 v0 d0 p0) (_ : ∀ x ∈ p0, x.block < W.heap.size) (v1 : Value) (d1 : DataW H) (p1 : List MemPlace) (hv1 : Value.okWide Try.prog W .any base 29 v1)
    (h1 : DataW.Trod enc Try.prog W 0 (fun _ => true) true 29 v1 d1 p1) (_ : ∀ x ∈ p1, x.block < W.heap.size) :
    Calls Try.prog 5 #[v0, v1] W fun e w' => e = .returned (.bool true) ∧ Below W.heap.size W w' := by
  obtain ⟨sk, sa, sb, sc, su, sv, sx, rfl⟩ := open_stmt hv0 h0
  obtain ⟨A1, n1, c1, ds1, rfl, hn1, hc1, hlst1⟩ := open_intl hv1 h1
  clear hv0 h0 hv1 h1
  have hH1 := Lib.hid hlst1
  have hL1 := Lib.hid hlst1.1
  have hnm1 := Lib.hid (Nat.le_trans hn1 hc1)
  have hnn1 : n1 ≤ 9223372036854775807 := by unfold maxLen at hc1; omega
  clear hlst1 hn1 hc1
  have bx_0 := Lib.hid (Has.new W 47 #[.int .i64 sk, .int .i64 sa, .int .i64 sb, .int .i64 sc, .int .i64 su, .int .i64 sv, .int .i64 sx])
  have hBx : Below W.heap.size W (W.alloc (.cells #[.int .i64 sk, .int .i64 sa, .int .i64 sb, .int .i64 sc, .int .i64 su, .int .i64 sv, .int .i64 sx] 47)) := (Below.refl _ _).alloc (Nat.le_refl _) _
  have hzx : (W.alloc (.cells #[.int .i64 sk, .int .i64 sa, .int .i64 sb, .int .i64 sc, .int .i64 su, .int .i64 sv, .int .i64 sx] 47)).heap.size = W.heap.size + 1 := by simp
  by_cases hbig1 : n1 ≤ 1048576
  rotate_left
  · have hbig1' : 1048576 < n1 := by omega
    go_enter Try.func5, Try.ntmps5
    go_wp2_with fail
    go_ret
    exact ⟨rfl, hBx⟩
  have cS := Lib.hid (fun A wx (hx : Ils wx wx.heap.size A n1 ds1) => specStepBack_any ⟨sk, sa, sb, sc, su, sv, sx⟩ A n1 n1 ds1 wx hx hnm1.out)
  have cI := Lib.hid (fun A wx (hx : Ils wx wx.heap.size A n1 ds1) => StepBack_any ⟨sk, sa, sb, sc, su, sv, sx⟩ A n1 n1 ds1 wx hx hnm1.out)
  have hrl := sbOf_len ⟨sk, sa, sb, sc, su, sv, sx⟩ ds1
  unfold Lbd at cS cI
  generalize sbOf ⟨sk, sa, sb, sc, su, sv, sx⟩ ds1 = os at hrl cS cI
  generalize sbOk ⟨sk, sa, sb, sc, su, sv, sx⟩ ds1 = bb at cS cI
  go_enter Try.func5, Try.ntmps5
  have hcb1 := bx_0.out.cell
  go_wp2_with fail
  refine (toStmt_any sk sa sb sc su sv sx _).mono ?_
  rintro e w1 ⟨rfl, hb1⟩
  have hB1 : Below W.heap.size W w1 := hBx.trans (hb1.mono hBx.size)
  have hz1 := hb1.size
  have hy1 := hB1.size
  have bx_1 := Lib.hid (Has.kept (by exact bx_0.out) hb1)
  clear bx_0
  clear hb1 hcb1
  go_wp2_with fail
  refine (toIntS_own A1 n1 c1 ds1 _ ((hH1.out.below hB1).more hB1.size) hbig1).mono ?_
  rintro e w2 ⟨g2, rfl, pl2, hb2⟩
  have hB2 : Below W.heap.size W w2 := hB1.trans (hb2.mono hB1.size)
  have hz2 := hb2.size
  have hy2 := hB2.size
  have bx_2 := Lib.hid (Has.kept (by exact bx_1.out) hb2)
  clear bx_1
  have cp1_2 := Lib.hid pl2
  clear pl2 hb2
  go_wp2_with fail
  refine (cS.out _ _ (ownI_lst cp1_2.out.1.1)).mono ?_
  rintro e w3 ⟨vS0, rfl, hoS0, hb⟩
  have hB3 : Below W.heap.size W w3 := hB2.trans (hb.mono hB2.size)
  have hz3 := hb.size
  have hy3 := hB3.size
  have cp1_3 := Lib.hid (cp1_2.out.below hb)
  clear cp1_2
  have bx_3 := Lib.hid (Has.kept (by exact bx_2.out) hb)
  clear bx_2
  obtain ⟨AS0, kS0, hvS03, _, _⟩ := IOwn.form hoS0
  subst hvS03
  have oS0_3 := Lib.hid (OwnB.pl (by exact hoS0))
  clear hoS0
  clear hb
  clear cp1_3
  go_wp2_with fail
  refine (toIntS_own A1 n1 c1 ds1 _ ((hH1.out.below hB3).more hB3.size) hbig1).mono ?_
  rintro e w4 ⟨g4, rfl, pl4, hb4⟩
  have hB4 : Below W.heap.size W w4 := hB3.trans (hb4.mono hB3.size)
  have hz4 := hb4.size
  have hy4 := hB4.size
  have oS0_4 := Lib.hid (oS0_3.out.below hb4)
  clear oS0_3
  have bx_4 := Lib.hid (Has.kept (by exact bx_3.out) hb4)
  clear bx_3
  have x1_4 := Lib.hid pl4
  clear pl4 hb4
  have hcb5 := bx_4.out.cell
  go_wp2_with fail
  refine (toStmt_any sk sa sb sc su sv sx _).mono ?_
  rintro e w5 ⟨rfl, hb5⟩
  have hB5 : Below W.heap.size W w5 := hB4.trans (hb5.mono hB4.size)
  have hz5 := hb5.size
  have hy5 := hB5.size
  have oS0_5 := Lib.hid (oS0_4.out.below hb5)
  clear oS0_4
  have x1_5 := Lib.hid (x1_4.out.below hb5)
  clear x1_4
  have bx_5 := Lib.hid (Has.kept (by exact bx_4.out) hb5)
  clear bx_4
  clear hb5 hcb5
  go_wp2_with fail
  refine (cI.out _ _ (ownI_lst x1_5.out.1.1)).mono ?_
  rintro e w6 ⟨vI0, rfl, hoI0, hb⟩
  have hB6 : Below W.heap.size W w6 := hB5.trans (hb.mono hB5.size)
  have hz6 := hb.size
  have hy6 := hB6.size
  have oS0_6 := Lib.hid (oS0_5.out.below hb)
  clear oS0_5
  have x1_6 := Lib.hid (x1_5.out.below hb)
  clear x1_5
  have bx_6 := Lib.hid (Has.kept (by exact bx_5.out) hb)
  clear bx_5
  obtain ⟨AI0, kI0, hvI06, _, _⟩ := IOwn.form hoI0
  subst hvI06
  have oI0_6 := Lib.hid (OwnB.pl (by exact hoI0))
  clear hoI0
  clear hb
  go_wp2_with fail
  refine (eqIntS_same AI0 AS0 os.length kI0 kS0 os _ (ownI_lst oI0_6.out.1.1) (ownI_lst oS0_6.out.1.1) (by unfold maxLen; omega)).mono ?_
  rintro e w7 ⟨rfl, q7, hq7⟩
  have hb7 : Below w6.heap.size w6 w7 := by rw [hq7]; exact below_drewN (Below.refl _ _) _
  clear hq7
  have hB7 : Below W.heap.size W w7 := hB6.trans (hb7.mono hB6.size)
  have hz7 := hb7.size
  have hy7 := hB7.size
  have oS0_7 := Lib.hid (oS0_6.out.below hb7)
  clear oS0_6
  have x1_7 := Lib.hid (x1_6.out.below hb7)
  clear x1_6
  have oI0_7 := Lib.hid (oI0_6.out.below hb7)
  clear oI0_6
  have bx_7 := Lib.hid (Has.kept (by exact bx_6.out) hb7)
  clear bx_6
  clear hb7
  go_wp2_with fail
  refine (toIntS_own A1 n1 c1 ds1 _ ((hH1.out.below hB7).more hB7.size) hbig1).mono ?_
  rintro e w8 ⟨g8, rfl, pl8, hb8⟩
  have hB8 : Below W.heap.size W w8 := hB7.trans (hb8.mono hB7.size)
  have hz8 := hb8.size
  have hy8 := hB8.size
  have oS0_8 := Lib.hid (oS0_7.out.below hb8)
  clear oS0_7
  have x1_8 := Lib.hid (x1_7.out.below hb8)
  clear x1_7
  have oI0_8 := Lib.hid (oI0_7.out.below hb8)
  clear oI0_7
  have bx_8 := Lib.hid (Has.kept (by exact bx_7.out) hb8)
  clear bx_7
  have tmp_8 := Lib.hid pl8
  clear pl8 hb8
  go_wp2_with fail
  refine (eqIntS_same (some ⟨g4, 0, none⟩) (some ⟨g8, 0, none⟩) n1 n1 n1 ds1 _ (ownI_lst x1_8.out.1.1) (ownI_lst tmp_8.out.1.1) (by unfold maxLen; omega)).mono ?_
  rintro e w9 ⟨rfl, q9, hq9⟩
  have hb9 : Below w8.heap.size w8 w9 := by rw [hq9]; exact below_drewN (Below.refl _ _) _
  clear hq9
  have hB9 : Below W.heap.size W w9 := hB8.trans (hb9.mono hB8.size)
  have hz9 := hb9.size
  have hy9 := hB9.size
  have oS0_9 := Lib.hid (oS0_8.out.below hb9)
  clear oS0_8
  have x1_9 := Lib.hid (x1_8.out.below hb9)
  clear x1_8
  have oI0_9 := Lib.hid (oI0_8.out.below hb9)
  clear oI0_8
  have tmp_9 := Lib.hid (tmp_8.out.below hb9)
  clear tmp_8
  have bx_9 := Lib.hid (Has.kept (by exact bx_8.out) hb9)
  clear bx_8
  clear hb9
  clear tmp_9
  go_wp2_with fail
  refine (markI_pl (some ⟨g4, 0, none⟩) n1 n1 _ _ 1 _ _ x1_9.out (by omega) (by omega) (by omega)).mono ?_
  rintro e w10 ⟨rfl, hk10, pl10⟩
  have hB10 : Below W.heap.size W w10 := below_but hB9 hk10 (fun k hk => by omega)
  have hz10 := hk10.size
  have hy10 := hB10.size
  have oS0_10 := Lib.hid (oS0_9.out.but hk10 (fun k hk hk2 => by omega))
  clear oS0_9
  have oI0_10 := Lib.hid (oI0_9.out.but hk10 (fun k hk hk2 => by omega))
  clear oI0_9
  have bx_10 := Lib.hid (bx_9.out.but hk10 (fun hk2 => by omega))
  clear bx_9
  clear x1_9
  have x1_10 := Lib.hid pl10
  clear hk10 pl10
  clear x1_10
  go_wp2_with fail
  refine (eqIntS_same AI0 AS0 os.length kI0 kS0 os _ (ownI_lst oI0_10.out.1.1) (ownI_lst oS0_10.out.1.1) (by unfold maxLen; omega)).mono ?_
  rintro e w11 ⟨rfl, q11, hq11⟩
  have hb11 : Below w10.heap.size w10 w11 := by rw [hq11]; exact below_drewN (Below.refl _ _) _
  clear hq11
  have hB11 : Below W.heap.size W w11 := hB10.trans (hb11.mono hB10.size)
  have hz11 := hb11.size
  have hy11 := hB11.size
  have oS0_11 := Lib.hid (oS0_10.out.below hb11)
  clear oS0_10
  have oI0_11 := Lib.hid (oI0_10.out.below hb11)
  clear oI0_10
  have bx_11 := Lib.hid (Has.kept (by exact bx_10.out) hb11)
  clear bx_10
  clear hb11
  go_wp2_with fail
  refine (markI_pl AI0 os.length kI0 _ _ 1 _ _ oI0_11.out (by omega) (by omega) (by omega)).mono ?_
  rintro e w12 ⟨rfl, hk12, pl12⟩
  have hB12 : Below W.heap.size W w12 := below_but hB11 hk12 (fun k hk => by omega)
  have hz12 := hk12.size
  have hy12 := hB12.size
  have oS0_12 := Lib.hid (oS0_11.out.but hk12 (fun k hk hk2 => by omega))
  clear oS0_11
  have bx_12 := Lib.hid (bx_11.out.but hk12 (fun hk2 => by omega))
  clear bx_11
  clear oI0_11
  have oI0_12 := Lib.hid pl12
  clear hk12 pl12
  go_wp2_with fail
  refine (heldIntS_any AI0 os.length kI0 1 _ oI0_12.out.1.1 (by omega) (by omega) (by omega)).mono ?_
  rintro e w' ⟨rfl, rfl⟩
  have hcb13 := bx_12.out.cell
  go_wp2_with fail
  refine (toStmt_any sk sa sb sc su sv sx _).mono ?_
  rintro e w13 ⟨rfl, hb13⟩
  have hB13 : Below W.heap.size W w13 := hB12.trans (hb13.mono hB12.size)
  have hz13 := hb13.size
  have hy13 := hB13.size
  have oS0_13 := Lib.hid (oS0_12.out.below hb13)
  clear oS0_12
  have oI0_13 := Lib.hid (oI0_12.out.below hb13)
  clear oI0_12
  have bx_13 := Lib.hid (Has.kept (by exact bx_12.out) hb13)
  clear bx_12
  clear hb13 hcb13
  go_wp2_with fail
  refine (toIntS_own A1 n1 c1 ds1 _ ((hH1.out.below hB13).more hB13.size) hbig1).mono ?_
  rintro e w14 ⟨g14, rfl, pl14, hb14⟩
  have hB14 : Below W.heap.size W w14 := hB13.trans (hb14.mono hB13.size)
  have hz14 := hb14.size
  have hy14 := hB14.size
  have oS0_14 := Lib.hid (oS0_13.out.below hb14)
  clear oS0_13
  have oI0_14 := Lib.hid (oI0_13.out.below hb14)
  clear oI0_13
  have bx_14 := Lib.hid (Has.kept (by exact bx_13.out) hb14)
  clear bx_13
  have y1_14 := Lib.hid pl14
  clear pl14 hb14
  go_wp2_with fail
  refine (cI.out _ _ (ownI_lst y1_14.out.1.1)).mono ?_
  rintro e w15 ⟨vJ0, rfl, hoJ0, hb⟩
  have hB15 : Below W.heap.size W w15 := hB14.trans (hb.mono hB14.size)
  have hz15 := hb.size
  have hy15 := hB15.size
  have oS0_15 := Lib.hid (oS0_14.out.below hb)
  clear oS0_14
  have oI0_15 := Lib.hid (oI0_14.out.below hb)
  clear oI0_14
  have y1_15 := Lib.hid (y1_14.out.below hb)
  clear y1_14
  have bx_15 := Lib.hid (Has.kept (by exact bx_14.out) hb)
  clear bx_14
  obtain ⟨AJ0, kJ0, hvJ015, _, _⟩ := IOwn.form hoJ0
  subst hvJ015
  have oJ0_15 := Lib.hid (OwnB.pl (by exact hoJ0))
  clear hoJ0
  clear hb
  clear y1_15
  go_wp2_with fail
  refine (eqIntS_same AJ0 AS0 os.length kJ0 kS0 os _ (ownI_lst oJ0_15.out.1.1) (ownI_lst oS0_15.out.1.1) (by unfold maxLen; omega)).mono ?_
  rintro e w16 ⟨rfl, q16, hq16⟩
  have hb16 : Below w15.heap.size w15 w16 := by rw [hq16]; exact below_drewN (Below.refl _ _) _
  clear hq16
  have hB16 : Below W.heap.size W w16 := hB15.trans (hb16.mono hB15.size)
  have hz16 := hb16.size
  have hy16 := hB16.size
  have oS0_16 := Lib.hid (oS0_15.out.below hb16)
  clear oS0_15
  have oI0_16 := Lib.hid (oI0_15.out.below hb16)
  clear oI0_15
  have oJ0_16 := Lib.hid (oJ0_15.out.below hb16)
  clear oJ0_15
  have bx_16 := Lib.hid (Has.kept (by exact bx_15.out) hb16)
  clear bx_15
  clear hb16
  go_wp2_with fail
  refine (heldIntS_any AI0 os.length kI0 1 _ oI0_16.out.1.1 (by omega) (by omega) (by omega)).mono ?_
  rintro e w' ⟨rfl, rfl⟩
  go_wp2_with fail
  go_ret
  exact ⟨rfl, hB16⟩

set_option maxRecDepth 100000 in
theorem lifted (os : Os) (started : os.Started) (H : Type) (enc : TypeId × Value → H) :
    ReturnsInHanded {} Try.checked os 5 .any (Rows.fnExactStepBackSpec.pre6 enc Try.prog Try.f5 Rows.fnExactStepBackRow.domain false) (Rows.fnExactStepBackSpec.post enc Try.prog Try.f5 false true false false) := by
  refine returnsInHanded_of_change (C := Try.checked) own started (by kernel_rfl) Try.func5
    (ChangeSpec.witness6 (enc := enc) (C := Try.checked) false ⟨#[], #[.agg #[.int .i64 0, .int .i64 0, .int .i64 0, .int .i64 0, .int .i64 0, .int .i64 0, .int .i64 0], .slice none 0 0], []⟩ 8 (by kernel_rfl) (by kernel_rfl) (by kernel_rfl) (by kernel_rfl)) ?_
  intro W base args ds gs before hval0 hW hcnd _
  have hval : ∀ (j : Nat) t v, Try.f5.params[j]? = some t → args[j]? = some v → Value.okWide Try.prog W .any base t v := hval0
  have hW' := hW
  obtain ⟨p, q, hA0, hV, rfl, hfz, hnd⟩ := hW
  have hA : DataW.TrodAll enc Try.prog W 0 (fun _ => true) true Try.f5.params.toList args.toList ds p := hA0
  rw [Try.params5] at hA hval
  obtain ⟨v0, vs0, d0, ds0, p0, q0, hargs, rfl, rfl, h0, r0⟩ := trodAll_cons hA
  obtain ⟨v1, vs1, d1, ds1, p1, q1, rfl, rfl, rfl, h1, r1⟩ := trodAll_cons r0
  obtain ⟨rfl, rfl, rfl⟩ := trodAll_nil r1
  obtain rfl : args = #[v0, v1] := by cases args; simp_all
  obtain ⟨rfl, rfl⟩ := trodVars_none hV
  have lt0 : ∀ x ∈ p0, x.block < W.heap.size := by
    obtain ⟨m, hm⟩ := h0
    exact DataW.trod_lt m _ _ _ hm
  have lt1 : ∀ x ∈ p1, x.block < W.heap.size := by
    obtain ⟨m, hm⟩ := h1
    exact DataW.trod_lt m _ _ _ hm
  clear hA0 hval0
  refine (walk enc W base v0 d0 p0 (hval 0 47 v0 rfl rfl) h0 lt0 v1 d1 p1 (hval 1 29 v1 rfl rfl) h1 lt1).mono fun e W' ⟨he, bel⟩ => ?_
  subst he
  exact ⟨_, rfl, _, _, _, [], _, [], hW', trodAll_mk1 (shut_bool Try.underlying4 _), (trodAll_cons_mk (Below.trod laidOut (by kernel_rfl) (of_decide_eq_true (by kernel_rfl)) h0 bel lt0) (trodAll_cons_mk (Below.trod laidOut (by kernel_rfl) (of_decide_eq_true (by kernel_rfl)) h1 bel lt1) trodAll_mk0)), rfl, bel.frame _, fun h => by cases h⟩

theorem proved : Rows.FnExactStepBackSaid :=
  OpenClaim.holds_of_wide 5 Try.f5 rfl rfl rfl rfl rfl rfl rfl ⟨rfl, rfl, rfl, rfl, rfl⟩ rfl rfl rfl rfl rfl (by kernel_rfl) Try.func5 (by kernel_rfl)
    (of_decide_eq_true (by kernel_rfl)) (by unfold Func.isWrapper; first | (rw [if_pos (by decide +kernel)]; kernel_rfl) | (rw [if_neg (by decide +kernel)]; exact ⟨rfl, rfl⟩))
    (fun os started H enc _ => lifted os started H enc)
end Go.Proofs.Ytcphclkaddhfmaa.fnExactStepBack
