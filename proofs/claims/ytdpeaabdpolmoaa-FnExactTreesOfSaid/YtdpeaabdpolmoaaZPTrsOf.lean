/- For every list of factors that together with their numbers are at most 2^20 the program's TreesOf returns what the model's returns, leaves its argument as it is, and hands back memory of its own; longer lists are passed over by the law itself. No condition. -/
import Derived.Test.YtdpeaabdpolmoaaRows
import Derived.ProofKit
import Derived.OpenShut
import Derived.ShutString
import Derived.ChangeOld
import Derived.Below
import Derived.Test.YtdpeaabdpolmoaaZAI
import Derived.Test.YtdpeaabdpolmoaaZAS
import Derived.Test.YtdpeaabdpolmoaaZAX
import Derived.Test.YtdpeaabdpolmoaaZAB
import Derived.Test.YtdpeaabdpolmoaaZAA
import Derived.Test.YtdpeaabdpolmoaaZBA
namespace Go.Proofs.Ytdpeaabdpolmoaa.fnExactTreesOf
open Go.ChangeShapes Go.WideShapes Go.ChangeAt Go.RowKit
set_option linter.unusedVariables false
set_option maxRecDepth 100000
theorem own : ownKnob Try.prog.godebug = none := by kernel_rfl
theorem laidOut : laidOutB Try.prog = true := by kernel_rfl
set_option maxHeartbeats 2000000 in
theorem walk {H : Type} (enc : TypeId × Value → H) (W : World) (base : Nat) (v0 : Value) (d0 : DataW H) (p0 : List MemPlace) (hv0 : Value.okWide Try.prog W .any base 22 v0)
    (h0 : DataW.Trod enc Try.prog W 0 (fun _ => true) true 22 v0 d0 p0) (_ : ∀ x ∈ p0, x.block < W.heap.size) :
    Calls Try.prog 8 #[v0] W fun e w' => e = .returned (.bool true) ∧ Below W.heap.size W w' := by
  obtain ⟨A0, n0, c0, Fs0, rfl, hn0, hc0, hlst0, hsm0⟩ := open_factors hv0 h0
  clear hv0 h0
  have hH0 := Lib.hid hlst0
  have hSm0 := Lib.hid hsm0
  clear hsm0
  have hL0 := Lib.hid hlst0.1
  have hnm0 := Lib.hid (Nat.le_trans hn0 hc0)
  have hnn0 : n0 ≤ 9223372036854775807 := by unfold maxLen at hc0; omega
  clear hlst0 hn0 hc0
  by_cases hsz0 : n0 + offF Fs0 n0 ≤ 1048576
  rotate_left
  · go_enter Try.func8, Try.ntmps8
    go_wp2_with fail
    refine (szFactorS_no A0 n0 c0 Fs0 _ hH0.out hSm0.out hnm0.out (by omega)).mono ?_
    rintro e wx0_0 ⟨rfl, hbx0_0⟩
    have hby0_0 : Below W.heap.size W wx0_0 := hbx0_0
    go_wp2_with fail
    go_ret
    exact ⟨rfl, hby0_0⟩
  have hbig0 : n0 ≤ 1048576 := by omega
  have hbd0 := offF_small (Fs := Fs0) (N := 1048576) (by rw [hL0.out]; omega)
  have hof0 : offs (rowsF Fs0) (n0 * 2) ≤ 1048576 := by rw [offs_offF (by rw [hL0.out]; exact Nat.le_refl _)]; omega
  have cS := Lib.hid (fun A wx (hx : FLst wx wx.heap.size A n0 Fs0) => specTreesOf_any A n0 n0 Fs0 wx hx hnm0.out hSm0.out)
  have cI := Lib.hid (fun A wx (hx : FLst wx wx.heap.size A n0 Fs0) => TreesOf_any A n0 n0 Fs0 wx hx hnm0.out hSm0.out)
  have hrl : (treesR Fs0).length ≤ 4 := treesR_len Fs0
  unfold Lbd at cS
  unfold Rtd at cI
  generalize treesR Fs0 = os at hrl cS cI
  generalize treeOk Fs0 = bb at cS cI
  go_enter Try.func8, Try.ntmps8
  go_wp2_with fail
  refine (szFactorS_yes A0 n0 c0 Fs0 _ hH0.out hSm0.out hnm0.out (by omega)).mono ?_
  rintro e w1 ⟨rfl, hb1⟩
  have hB1 : Below W.heap.size W w1 := (Below.refl W.heap.size W).trans (hb1.mono (Below.refl W.heap.size W).size)
  have hz1 := hb1.size
  have hy1 := hB1.size
  clear hb1
  go_wp2_with fail
  refine (toFactorS_own A0 n0 c0 Fs0 _ ((hH0.out.below hB1).more hB1.size) hbd0 hbig0).mono ?_
  rintro e w2 ⟨g2, vs2, rfl, pl2, ha2, hb2⟩
  have hB2 : Below W.heap.size W w2 := hB1.trans (hb2.mono hB1.size)
  have hz2 := hb2.size
  have hy2 := hB2.size
  have cp0_2 := Lib.hid pl2
  have ha_cp0 := Lib.hid ha2
  clear pl2 hb2 ha2
  go_wp2_with fail
  refine (cS.out _ _ (RowsF.flst cp0_2.out.1.1 hL0.out)).mono ?_
  rintro e w3 ⟨vS0, rfl, hoS0, hb⟩
  have hB3 : Below W.heap.size W w3 := hB2.trans (hb.mono hB2.size)
  have hz3 := hb.size
  have hy3 := hB3.size
  have cp0_3 := Lib.hid (cp0_2.out.below hb)
  clear cp0_2
  obtain ⟨AS0, kS0, hvS03, _, _⟩ := IOwn.form hoS0
  subst hvS03
  have oS0_3 := Lib.hid (OwnB.pl (by exact hoS0))
  clear hoS0
  clear hb
  clear cp0_3
  go_wp2_with fail
  refine (toFactorS_own A0 n0 c0 Fs0 _ ((hH0.out.below hB3).more hB3.size) hbd0 hbig0).mono ?_
  rintro e w4 ⟨g4, vs4, rfl, pl4, ha4, hb4⟩
  have hB4 : Below W.heap.size W w4 := hB3.trans (hb4.mono hB3.size)
  have hz4 := hb4.size
  have hy4 := hB4.size
  have oS0_4 := Lib.hid (oS0_3.out.below hb4)
  clear oS0_3
  have x0_4 := Lib.hid pl4
  have ha_x0 := Lib.hid ha4
  clear pl4 hb4 ha4
  go_wp2_with fail
  refine (cI.out _ _ (RowsF.flst x0_4.out.1.1 hL0.out)).mono ?_
  rintro e w5 ⟨vI0, rfl, hoI0, hb⟩
  have hB5 : Below W.heap.size W w5 := hB4.trans (hb.mono hB4.size)
  have hz5 := hb.size
  have hy5 := hB5.size
  have oS0_5 := Lib.hid (oS0_4.out.below hb)
  clear oS0_4
  have x0_5 := Lib.hid (x0_4.out.below hb)
  clear x0_4
  obtain ⟨AI0, kI0, hvI05, _, _⟩ := Rws.form hoI0
  subst hvI05
  have oI0_5 := Lib.hid (RwB.pl (by exact hoI0))
  clear hoI0
  clear hb
  go_wp2_with fail
  refine (eqIntS_same AI0 AS0 os.length kI0 kS0 os _ (RwB.lst oI0_5.out.1) (ownI_lst oS0_5.out.1.1) (by unfold maxLen; omega)).mono ?_
  rintro e w6 ⟨rfl, q6, hq6⟩
  have hb6 : Below w5.heap.size w5 w6 := by rw [hq6]; exact below_drewN (Below.refl _ _) _
  clear hq6
  have hB6 : Below W.heap.size W w6 := hB5.trans (hb6.mono hB5.size)
  have hz6 := hb6.size
  have hy6 := hB6.size
  have oS0_6 := Lib.hid (oS0_5.out.below hb6)
  clear oS0_5
  have x0_6 := Lib.hid (x0_5.out.below hb6)
  clear x0_5
  have oI0_6 := Lib.hid (oI0_5.out.below hb6)
  clear oI0_5
  clear hb6
  go_wp2_with fail
  refine (toFactorS_own A0 n0 c0 Fs0 _ ((hH0.out.below hB6).more hB6.size) hbd0 hbig0).mono ?_
  rintro e w7 ⟨g7, vs7, rfl, pl7, ha7, hb7⟩
  have hB7 : Below W.heap.size W w7 := hB6.trans (hb7.mono hB6.size)
  have hz7 := hb7.size
  have hy7 := hB7.size
  have oS0_7 := Lib.hid (oS0_6.out.below hb7)
  clear oS0_6
  have x0_7 := Lib.hid (x0_6.out.below hb7)
  clear x0_6
  have oI0_7 := Lib.hid (oI0_6.out.below hb7)
  clear oI0_6
  have tmp_7 := Lib.hid pl7
  have ha_tmp := Lib.hid ha7
  clear pl7 hb7 ha7
  go_wp2_with fail
  refine (eqFactorS_same (some ⟨g4, 0, none⟩) (some ⟨g7, 0, none⟩) n0 n0 n0 Fs0 _ (RowsF.flst x0_7.out.1.1 hL0.out) (RowsF.flst tmp_7.out.1.1 hL0.out) hSm0.out (by unfold maxLen; omega)).mono ?_
  rintro e w8 ⟨rfl, hb8⟩
  have hB8 : Below W.heap.size W w8 := hB7.trans (hb8.mono hB7.size)
  have hz8 := hb8.size
  have hy8 := hB8.size
  have oS0_8 := Lib.hid (oS0_7.out.below hb8)
  clear oS0_7
  have x0_8 := Lib.hid (x0_7.out.below hb8)
  clear x0_7
  have oI0_8 := Lib.hid (oI0_7.out.below hb8)
  clear oI0_7
  have tmp_8 := Lib.hid (tmp_7.out.below hb8)
  clear tmp_7
  clear hb8
  clear tmp_8
  go_wp2_with fail
  refine (markG_pl (some ⟨g4, 0, none⟩) n0 n0 _ _ 1 Fs0 _ _ x0_8.out ha_x0.out hL0.out (by omega) (by omega) (by omega) (by omega)).mono ?_
  rintro e w9 ⟨rfl, hk9, pl9⟩
  have hB9 : Below W.heap.size W w9 := below_but hB8 hk9 (fun k hk => by omega)
  have hz9 := hk9.size
  have hy9 := hB9.size
  have oS0_9 := Lib.hid (oS0_8.out.but hk9 (fun k hk hk2 => by omega))
  clear oS0_8
  have oI0_9 := Lib.hid (oI0_8.out.but hk9 (fun k hk hk2 => by omega))
  clear oI0_8
  clear x0_8
  have x0_9 := Lib.hid pl9
  clear hk9 pl9
  clear x0_9
  go_wp2_with fail
  refine (eqIntS_same AI0 AS0 os.length kI0 kS0 os _ (RwB.lst oI0_9.out.1) (ownI_lst oS0_9.out.1.1) (by unfold maxLen; omega)).mono ?_
  rintro e w10 ⟨rfl, q10, hq10⟩
  have hb10 : Below w9.heap.size w9 w10 := by rw [hq10]; exact below_drewN (Below.refl _ _) _
  clear hq10
  have hB10 : Below W.heap.size W w10 := hB9.trans (hb10.mono hB9.size)
  have hz10 := hb10.size
  have hy10 := hB10.size
  have oS0_10 := Lib.hid (oS0_9.out.below hb10)
  clear oS0_9
  have oI0_10 := Lib.hid (oI0_9.out.below hb10)
  clear oI0_9
  clear hb10
  go_wp2_with fail
  refine (markM_pl AI0 os.length kI0 _ _ 1 _ _ oI0_10.out (by omega) (by omega) (by omega)).mono ?_
  rintro e w11 ⟨rfl, hk11, pl11⟩
  have hB11 : Below W.heap.size W w11 := below_but hB10 hk11 (fun k hk => by omega)
  have hz11 := hk11.size
  have hy11 := hB11.size
  have oS0_11 := Lib.hid (oS0_10.out.but hk11 (fun k hk hk2 => by omega))
  clear oS0_10
  clear oI0_10
  have oI0_11 := Lib.hid pl11
  clear hk11 pl11
  go_wp2_with fail
  refine (heldIntS_any AI0 os.length kI0 1 _ oI0_11.out.1.1 (by omega) (by omega) (by omega)).mono ?_
  rintro e w' ⟨rfl, rfl⟩
  go_wp2_with fail
  refine (toFactorS_own A0 n0 c0 Fs0 _ ((hH0.out.below hB11).more hB11.size) hbd0 hbig0).mono ?_
  rintro e w12 ⟨g12, vs12, rfl, pl12, ha12, hb12⟩
  have hB12 : Below W.heap.size W w12 := hB11.trans (hb12.mono hB11.size)
  have hz12 := hb12.size
  have hy12 := hB12.size
  have oS0_12 := Lib.hid (oS0_11.out.below hb12)
  clear oS0_11
  have oI0_12 := Lib.hid (oI0_11.out.below hb12)
  clear oI0_11
  have y0_12 := Lib.hid pl12
  have ha_y0 := Lib.hid ha12
  clear pl12 hb12 ha12
  go_wp2_with fail
  refine (cI.out _ _ (RowsF.flst y0_12.out.1.1 hL0.out)).mono ?_
  rintro e w13 ⟨vJ0, rfl, hoJ0, hb⟩
  have hB13 : Below W.heap.size W w13 := hB12.trans (hb.mono hB12.size)
  have hz13 := hb.size
  have hy13 := hB13.size
  have oS0_13 := Lib.hid (oS0_12.out.below hb)
  clear oS0_12
  have oI0_13 := Lib.hid (oI0_12.out.below hb)
  clear oI0_12
  have y0_13 := Lib.hid (y0_12.out.below hb)
  clear y0_12
  obtain ⟨AJ0, kJ0, hvJ013, _, _⟩ := Rws.form hoJ0
  subst hvJ013
  have oJ0_13 := Lib.hid (RwB.pl (by exact hoJ0))
  clear hoJ0
  clear hb
  clear y0_13
  go_wp2_with fail
  refine (eqIntS_same AJ0 AS0 os.length kJ0 kS0 os _ (RwB.lst oJ0_13.out.1) (ownI_lst oS0_13.out.1.1) (by unfold maxLen; omega)).mono ?_
  rintro e w14 ⟨rfl, q14, hq14⟩
  have hb14 : Below w13.heap.size w13 w14 := by rw [hq14]; exact below_drewN (Below.refl _ _) _
  clear hq14
  have hB14 : Below W.heap.size W w14 := hB13.trans (hb14.mono hB13.size)
  have hz14 := hb14.size
  have hy14 := hB14.size
  have oS0_14 := Lib.hid (oS0_13.out.below hb14)
  clear oS0_13
  have oI0_14 := Lib.hid (oI0_13.out.below hb14)
  clear oI0_13
  have oJ0_14 := Lib.hid (oJ0_13.out.below hb14)
  clear oJ0_13
  clear hb14
  go_wp2_with fail
  refine (heldIntS_any AI0 os.length kI0 1 _ oI0_14.out.1.1 (by omega) (by omega) (by omega)).mono ?_
  rintro e w' ⟨rfl, rfl⟩
  go_wp2_with fail
  go_ret
  exact ⟨rfl, hB14⟩
set_option maxRecDepth 100000 in
theorem lifted (os : Os) (started : os.Started) (H : Type) (enc : TypeId × Value → H) :
    ReturnsInHanded {} Try.checked os 8 .any (Rows.fnExactTreesOfSpec.pre6 enc Try.prog Try.f8 Rows.fnExactTreesOfRow.domain false) (Rows.fnExactTreesOfSpec.post enc Try.prog Try.f8 false true false false) := by
  refine returnsInHanded_of_change (C := Try.checked) own started (by kernel_rfl) Try.func8
    (ChangeSpec.witness6 (enc := enc) (C := Try.checked) false ⟨#[], #[.slice none 0 0], []⟩ 8 (by kernel_rfl) (by kernel_rfl) (by kernel_rfl) (by kernel_rfl)) ?_
  intro W base args ds gs before hval0 hW hcnd _
  have hval : ∀ (j : Nat) t v, Try.f8.params[j]? = some t → args[j]? = some v → Value.okWide Try.prog W .any base t v := hval0
  have hW' := hW
  obtain ⟨p, q, hA0, hV, rfl, hfz, hnd⟩ := hW
  have hA : DataW.TrodAll enc Try.prog W 0 (fun _ => true) true Try.f8.params.toList args.toList ds p := hA0
  rw [Try.params8] at hA hval
  obtain ⟨v0, vs0, d0, ds0, p0, q0, hargs, rfl, rfl, h0, r0⟩ := trodAll_cons hA
  obtain ⟨rfl, rfl, rfl⟩ := trodAll_nil r0
  obtain rfl : args = #[v0] := by cases args; simp_all
  obtain ⟨rfl, rfl⟩ := trodVars_none hV
  have lt0 : ∀ x ∈ p0, x.block < W.heap.size := by
    obtain ⟨m, hm⟩ := h0
    exact DataW.trod_lt m _ _ _ hm
  clear hA0 hval0
  refine (walk enc W base v0 d0 p0 (hval 0 22 v0 rfl rfl) h0 lt0).mono fun e W' ⟨he, bel⟩ => ?_
  subst he
  exact ⟨_, rfl, _, _, _, [], _, [], hW', trodAll_mk1 (shut_bool Try.underlying4 _), (trodAll_cons_mk (Below.trod laidOut (by kernel_rfl) (of_decide_eq_true (by kernel_rfl)) h0 bel lt0) trodAll_mk0), rfl, bel.frame _, fun h => by cases h⟩
theorem proved : Rows.FnExactTreesOfSaid :=
  OpenClaim.holds_of_wide 8 Try.f8 rfl rfl rfl rfl rfl rfl rfl ⟨rfl, rfl, rfl, rfl, rfl⟩ rfl rfl rfl rfl rfl (by kernel_rfl) Try.func8 (by kernel_rfl)
    (of_decide_eq_true (by kernel_rfl)) (by unfold Func.isWrapper; first | (rw [if_pos (by decide +kernel)]; kernel_rfl) | (rw [if_neg (by decide +kernel)]; exact ⟨rfl, rfl⟩))
    (fun os started H enc _ => lifted os started H enc)
end Go.Proofs.Ytdpeaabdpolmoaa.fnExactTreesOf
