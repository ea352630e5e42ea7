/- For every two lists of cells of together at most 2^20 the program's DiagramTimes returns what the model's returns, leaves its arguments as they are, and hands back memory of its own; longer lists are passed over by the law itself. No condition. -/
import Derived.Test.YtghkpmafocacoaaRows
import Derived.Test.YtghkpmafocacoaaOv
import Derived.Test.YtghkpmafocacoaaOa
import Derived.ProofKit
import Derived.OpenShut
import Derived.ShutString
import Derived.ChangeOld
import Derived.Below
namespace Go.Proofs.Ytghkpmafocacoaa.fnExactDiagramTimes
open Go.ChangeShapes Go.WideShapes Go.ChangeAt Go.RowKit 
set_option linter.unusedVariables false
set_option maxRecDepth 100000

theorem own : ownKnob Try.prog.godebug = none := by kernel_rfl
theorem laidOut : laidOutB Try.prog = true := by kernel_rfl

theorem timesD_len (d e : List Ce) : (timesD d e).length ≤ 121 := by
  unfold timesD
  split
  · exact (mkd_wf _).2.2.1
  · exact Nat.zero_le _
set_option maxHeartbeats 2000000 in
theorem walk {H : Type} (enc : TypeId × Value → H) (W : World) (base : Nat) (v0 : Value) (d0 : DataW H) (p0 : List MemPlace) (hv0 : Value.okWide Try.prog W .any base 22 v0)
    (h0 : DataW.Trod enc Try.prog W 0 (fun _ => true) true 22 v0 d0 p0) (_ : ∀ x ∈ p0, x.block < W.heap.size) (v1 : Value) (d1 : DataW H) (p1 : List MemPlace) (hv1 : Value.okWide Try.prog W .any base 22 v1)
    (h1 : DataW.Trod enc Try.prog W 0 (fun _ => true) true 22 v1 d1 p1) (_ : ∀ x ∈ p1, x.block < W.heap.size) :
    Calls Try.prog 9 #[v0, v1] W fun e w' => e = .returned (.bool true) ∧ Below W.heap.size W w' := by
  obtain ⟨A0, n0, c0, ps0, rfl, hn0, hc0, hlst0⟩ := open_cells hv0 h0
  obtain ⟨A1, n1, c1, ps1, rfl, hn1, hc1, hlst1⟩ := open_cells hv1 h1
  clear hv0 h0 hv1 h1
  have hH0 := Lib.hid hlst0
  have hL0 := Lib.hid hlst0.1
  have hnm0 := Lib.hid (Nat.le_trans hn0 hc0)
  have hnn0 : n0 ≤ 9223372036854775807 := by unfold maxLen at hc0; omega
  clear hlst0 hn0 hc0
  have hH1 := Lib.hid hlst1
  have hL1 := Lib.hid hlst1.1
  have hnm1 := Lib.hid (Nat.le_trans hn1 hc1)
  have hnn1 : n1 ≤ 9223372036854775807 := by unfold maxLen at hc1; omega
  clear hlst1 hn1 hc1
  by_cases hsz0 : n0 ≤ 1048576
  rotate_left
  · go_enter Try.func9, Try.ntmps9
    go_wp2_with fail
    refine (szC_no A0 n0 c0 (1048576 : Int) _ hnm0.out (by omega) (by omega) (by omega)).mono ?_
    rintro e w' ⟨rfl, rfl⟩
    go_wp2_with fail
    go_ret
    exact ⟨rfl, Below.refl _ _⟩
  by_cases hsz1 : n0 + n1 ≤ 1048576
  rotate_left
  · go_enter Try.func9, Try.ntmps9
    go_wp2_with fail
    refine (szC_yes A0 n0 c0 (1048576 : Int) _ hnm0.out (by omega) (by omega)).mono ?_
    rintro e w' ⟨rfl, rfl⟩
    go_wp2_with fail
    refine (szC_no A1 n1 c1 (1048576 - (n0 : Int) : Int) _ hnm1.out (by omega) (by omega) (by omega)).mono ?_
    rintro e w' ⟨rfl, rfl⟩
    go_wp2_with fail
    go_ret
    exact ⟨rfl, Below.refl _ _⟩
  have hbig0 : n0 ≤ 1048576 := by omega
  have hbig1 : n1 ≤ 1048576 := by omega
  have cS := Lib.hid (fun A B wx (hx : CLst wx wx.heap.size A n0 ps0) (hy : CLst wx wx.heap.size B n1 ps1) => specDiagramTimes_any A B n0 n1 n0 n1 ps0 ps1 wx hx hy hnm0.out hnm0.out (Nat.le_refl _) hnm1.out hnm1.out (Nat.le_refl _))
  have cI := Lib.hid (fun A B wx (hx : CLst wx wx.heap.size A n0 ps0) (hy : CLst wx wx.heap.size B n1 ps1) => DiagramTimes_any A B n0 n1 n0 n1 ps0 ps1 wx hx hy hnm0.out hnm0.out (Nat.le_refl _) hnm1.out hnm1.out (Nat.le_refl _))
  have hrl := timesD_len ps0 ps1
  unfold Cbd at cS cI
  generalize timesD ps0 ps1 = os at hrl cS cI
  generalize timesOk ps0 ps1 = bb at cS cI
  go_enter Try.func9, Try.ntmps9
  go_wp2_with fail
  refine (szC_yes A0 n0 c0 (1048576 : Int) _ hnm0.out (by omega) (by omega)).mono ?_
  rintro e w' ⟨rfl, rfl⟩
  go_wp2_with fail
  refine (szC_yes A1 n1 c1 (1048576 - (n0 : Int) : Int) _ hnm1.out (by omega) (by omega)).mono ?_
  rintro e w' ⟨rfl, rfl⟩
  go_wp2_with fail
  refine (toCellS_own A0 n0 c0 ps0 _ ((hH0.out.below (Below.refl W.heap.size W)).more (Below.refl W.heap.size W).size) hbig0).mono ?_
  rintro e w1 ⟨g1, rfl, pl1, hb1⟩
  have hB1 : Below W.heap.size W w1 := (Below.refl W.heap.size W).trans (hb1.mono (Below.refl W.heap.size W).size)
  have hz1 := hb1.size
  have hy1 := hB1.size
  have cp0_1 := Lib.hid pl1
  clear pl1 hb1
  go_wp2_with fail
  refine (toCellS_own A1 n1 c1 ps1 _ ((hH1.out.below hB1).more hB1.size) hbig1).mono ?_
  rintro e w2 ⟨g2, rfl, pl2, hb2⟩
  have hB2 : Below W.heap.size W w2 := hB1.trans (hb2.mono hB1.size)
  have hz2 := hb2.size
  have hy2 := hB2.size
  have cp0_2 := Lib.hid (cp0_1.out.below hb2)
  clear cp0_1
  have cp1_2 := Lib.hid pl2
  clear pl2 hb2
  go_wp2_with fail
  refine (cS.out _ _ _ (ownC_lst cp0_2.out.1.1) (ownC_lst cp1_2.out.1.1)).mono ?_
  rintro e w3 ⟨vS0, rfl, hoS0, hb⟩
  have hB3 : Below W.heap.size W w3 := hB2.trans (hb.mono hB2.size)
  have hz3 := hb.size
  have hy3 := hB3.size
  have cp0_3 := Lib.hid (cp0_2.out.below hb)
  clear cp0_2
  have cp1_3 := Lib.hid (cp1_2.out.below hb)
  clear cp1_2
  obtain ⟨AS0, kS0, hvS03, _, _⟩ := COwn.form hoS0
  subst hvS03
  have oS0_3 := Lib.hid (OwnB.pl (by exact hoS0))
  clear hoS0
  clear hb
  clear cp0_3
  clear cp1_3
  go_wp2_with fail
  refine (toCellS_own A0 n0 c0 ps0 _ ((hH0.out.below hB3).more hB3.size) hbig0).mono ?_
  rintro e w4 ⟨g4, rfl, pl4, hb4⟩
  have hB4 : Below W.heap.size W w4 := hB3.trans (hb4.mono hB3.size)
  have hz4 := hb4.size
  have hy4 := hB4.size
  have oS0_4 := Lib.hid (oS0_3.out.below hb4)
  clear oS0_3
  have x0_4 := Lib.hid pl4
  clear pl4 hb4
  go_wp2_with fail
  refine (toCellS_own A1 n1 c1 ps1 _ ((hH1.out.below hB4).more hB4.size) hbig1).mono ?_
  rintro e w5 ⟨g5, rfl, pl5, hb5⟩
  have hB5 : Below W.heap.size W w5 := hB4.trans (hb5.mono hB4.size)
  have hz5 := hb5.size
  have hy5 := hB5.size
  have oS0_5 := Lib.hid (oS0_4.out.below hb5)
  clear oS0_4
  have x0_5 := Lib.hid (x0_4.out.below hb5)
  clear x0_4
  have x1_5 := Lib.hid pl5
  clear pl5 hb5
  go_wp2_with fail
  refine (cI.out _ _ _ (ownC_lst x0_5.out.1.1) (ownC_lst x1_5.out.1.1)).mono ?_
  rintro e w6 ⟨vI0, rfl, hoI0, hb⟩
  have hB6 : Below W.heap.size W w6 := hB5.trans (hb.mono hB5.size)
  have hz6 := hb.size
  have hy6 := hB6.size
  have oS0_6 := Lib.hid (oS0_5.out.below hb)
  clear oS0_5
  have x0_6 := Lib.hid (x0_5.out.below hb)
  clear x0_5
  have x1_6 := Lib.hid (x1_5.out.below hb)
  clear x1_5
  obtain ⟨AI0, kI0, hvI06, _, _⟩ := COwn.form hoI0
  subst hvI06
  have oI0_6 := Lib.hid (OwnB.pl (by exact hoI0))
  clear hoI0
  clear hb
  go_wp2_with fail
  refine (eqCellS_same AI0 AS0 os.length kI0 kS0 os _ (ownC_lst oI0_6.out.1.1) (ownC_lst oS0_6.out.1.1) (by unfold maxLen; omega)).mono ?_
  rintro e w7 ⟨rfl, hb7⟩
  have hB7 : Below W.heap.size W w7 := hB6.trans (hb7.mono hB6.size)
  have hz7 := hb7.size
  have hy7 := hB7.size
  have oS0_7 := Lib.hid (oS0_6.out.below hb7)
  clear oS0_6
  have x0_7 := Lib.hid (x0_6.out.below hb7)
  clear x0_6
  have x1_7 := Lib.hid (x1_6.out.below hb7)
  clear x1_6
  have oI0_7 := Lib.hid (oI0_6.out.below hb7)
  clear oI0_6
  clear hb7
  go_wp2_with fail
  refine (toCellS_own A0 n0 c0 ps0 _ ((hH0.out.below hB7).more hB7.size) hbig0).mono ?_
  rintro e w8 ⟨g8, rfl, pl8, hb8⟩
  have hB8 : Below W.heap.size W w8 := hB7.trans (hb8.mono hB7.size)
  have hz8 := hb8.size
  have hy8 := hB8.size
  have oS0_8 := Lib.hid (oS0_7.out.below hb8)
  clear oS0_7
  have x0_8 := Lib.hid (x0_7.out.below hb8)
  clear x0_7
  have x1_8 := Lib.hid (x1_7.out.below hb8)
  clear x1_7
  have oI0_8 := Lib.hid (oI0_7.out.below hb8)
  clear oI0_7
  have tmp_8 := Lib.hid pl8
  clear pl8 hb8
  go_wp2_with fail
  refine (eqCellS_same (some ⟨g4, 0, none⟩) (some ⟨g8, 0, none⟩) n0 n0 n0 ps0 _ (ownC_lst x0_8.out.1.1) (ownC_lst tmp_8.out.1.1) (by unfold maxLen; omega)).mono ?_
  rintro e w9 ⟨rfl, hb9⟩
  have hB9 : Below W.heap.size W w9 := hB8.trans (hb9.mono hB8.size)
  have hz9 := hb9.size
  have hy9 := hB9.size
  have oS0_9 := Lib.hid (oS0_8.out.below hb9)
  clear oS0_8
  have x0_9 := Lib.hid (x0_8.out.below hb9)
  clear x0_8
  have x1_9 := Lib.hid (x1_8.out.below hb9)
  clear x1_8
  have oI0_9 := Lib.hid (oI0_8.out.below hb9)
  clear oI0_8
  have tmp_9 := Lib.hid (tmp_8.out.below hb9)
  clear tmp_8
  clear hb9
  clear tmp_9
  go_wp2_with fail
  refine (toCellS_own A1 n1 c1 ps1 _ ((hH1.out.below hB9).more hB9.size) hbig1).mono ?_
  rintro e w10 ⟨g10, rfl, pl10, hb10⟩
  have hB10 : Below W.heap.size W w10 := hB9.trans (hb10.mono hB9.size)
  have hz10 := hb10.size
  have hy10 := hB10.size
  have oS0_10 := Lib.hid (oS0_9.out.below hb10)
  clear oS0_9
  have x0_10 := Lib.hid (x0_9.out.below hb10)
  clear x0_9
  have x1_10 := Lib.hid (x1_9.out.below hb10)
  clear x1_9
  have oI0_10 := Lib.hid (oI0_9.out.below hb10)
  clear oI0_9
  have tmp_10 := Lib.hid pl10
  clear pl10 hb10
  go_wp2_with fail
  refine (eqCellS_same (some ⟨g5, 0, none⟩) (some ⟨g10, 0, none⟩) n1 n1 n1 ps1 _ (ownC_lst x1_10.out.1.1) (ownC_lst tmp_10.out.1.1) (by unfold maxLen; omega)).mono ?_
  rintro e w11 ⟨rfl, hb11⟩
  have hB11 : Below W.heap.size W w11 := hB10.trans (hb11.mono hB10.size)
  have hz11 := hb11.size
  have hy11 := hB11.size
  have oS0_11 := Lib.hid (oS0_10.out.below hb11)
  clear oS0_10
  have x0_11 := Lib.hid (x0_10.out.below hb11)
  clear x0_10
  have x1_11 := Lib.hid (x1_10.out.below hb11)
  clear x1_10
  have oI0_11 := Lib.hid (oI0_10.out.below hb11)
  clear oI0_10
  have tmp_11 := Lib.hid (tmp_10.out.below hb11)
  clear tmp_10
  clear hb11
  clear tmp_11
  go_wp2_with fail
  refine (markC_pl (some ⟨g4, 0, none⟩) n0 n0 _ _ 1 _ _ x0_11.out (by omega) (by omega) (by omega)).mono ?_
  rintro e w12 ⟨rfl, hk12, pl12⟩
  have hB12 : Below W.heap.size W w12 := below_but hB11 hk12 (fun k hk => by omega)
  have hz12 := hk12.size
  have hy12 := hB12.size
  have oS0_12 := Lib.hid (oS0_11.out.but hk12 (fun k hk hk2 => by omega))
  clear oS0_11
  have x1_12 := Lib.hid (x1_11.out.but hk12 (fun k hk hk2 => by omega))
  clear x1_11
  have oI0_12 := Lib.hid (oI0_11.out.but hk12 (fun k hk hk2 => by omega))
  clear oI0_11
  clear x0_11
  have x0_12 := Lib.hid pl12
  clear hk12 pl12
  go_wp2_with fail
  refine (markC_pl (some ⟨g5, 0, none⟩) n1 n1 _ _ (1 + 5 * (n0 : Int)) _ _ x1_12.out (by omega) (by omega) (by omega)).mono ?_
  rintro e w13 ⟨rfl, hk13, pl13⟩
  have hB13 : Below W.heap.size W w13 := below_but hB12 hk13 (fun k hk => by omega)
  have hz13 := hk13.size
  have hy13 := hB13.size
  have oS0_13 := Lib.hid (oS0_12.out.but hk13 (fun k hk hk2 => by omega))
  clear oS0_12
  have x0_13 := Lib.hid (x0_12.out.but hk13 (fun k hk hk2 => by omega))
  clear x0_12
  have oI0_13 := Lib.hid (oI0_12.out.but hk13 (fun k hk hk2 => by omega))
  clear oI0_12
  clear x1_12
  have x1_13 := Lib.hid pl13
  clear hk13 pl13
  clear x0_13
  clear x1_13
  go_wp2_with fail
  refine (eqCellS_same AI0 AS0 os.length kI0 kS0 os _ (ownC_lst oI0_13.out.1.1) (ownC_lst oS0_13.out.1.1) (by unfold maxLen; omega)).mono ?_
  rintro e w14 ⟨rfl, hb14⟩
  have hB14 : Below W.heap.size W w14 := hB13.trans (hb14.mono hB13.size)
  have hz14 := hb14.size
  have hy14 := hB14.size
  have oS0_14 := Lib.hid (oS0_13.out.below hb14)
  clear oS0_13
  have oI0_14 := Lib.hid (oI0_13.out.below hb14)
  clear oI0_13
  clear hb14
  go_wp2_with fail
  refine (markC_pl AI0 os.length kI0 _ _ 1 _ _ oI0_14.out (by omega) (by omega) (by omega)).mono ?_
  rintro e w15 ⟨rfl, hk15, pl15⟩
  have hB15 : Below W.heap.size W w15 := below_but hB14 hk15 (fun k hk => by omega)
  have hz15 := hk15.size
  have hy15 := hB15.size
  have oS0_15 := Lib.hid (oS0_14.out.but hk15 (fun k hk hk2 => by omega))
  clear oS0_14
  clear oI0_14
  have oI0_15 := Lib.hid pl15
  clear hk15 pl15
  go_wp2_with fail
  refine (heldCellS_any AI0 os.length kI0 1 _ oI0_15.out.1.1 (by omega) (by omega) (by omega)).mono ?_
  rintro e w' ⟨rfl, rfl⟩
  go_wp2_with fail
  refine (toCellS_own A0 n0 c0 ps0 _ ((hH0.out.below hB15).more hB15.size) hbig0).mono ?_
  rintro e w16 ⟨g16, rfl, pl16, hb16⟩
  have hB16 : Below W.heap.size W w16 := hB15.trans (hb16.mono hB15.size)
  have hz16 := hb16.size
  have hy16 := hB16.size
  have oS0_16 := Lib.hid (oS0_15.out.below hb16)
  clear oS0_15
  have oI0_16 := Lib.hid (oI0_15.out.below hb16)
  clear oI0_15
  have y0_16 := Lib.hid pl16
  clear pl16 hb16
  go_wp2_with fail
  refine (toCellS_own A1 n1 c1 ps1 _ ((hH1.out.below hB16).more hB16.size) hbig1).mono ?_
  rintro e w17 ⟨g17, rfl, pl17, hb17⟩
  have hB17 : Below W.heap.size W w17 := hB16.trans (hb17.mono hB16.size)
  have hz17 := hb17.size
  have hy17 := hB17.size
  have oS0_17 := Lib.hid (oS0_16.out.below hb17)
  clear oS0_16
  have oI0_17 := Lib.hid (oI0_16.out.below hb17)
  clear oI0_16
  have y0_17 := Lib.hid (y0_16.out.below hb17)
  clear y0_16
  have y1_17 := Lib.hid pl17
  clear pl17 hb17
  go_wp2_with fail
  refine (cI.out _ _ _ (ownC_lst y0_17.out.1.1) (ownC_lst y1_17.out.1.1)).mono ?_
  rintro e w18 ⟨vJ0, rfl, hoJ0, hb⟩
  have hB18 : Below W.heap.size W w18 := hB17.trans (hb.mono hB17.size)
  have hz18 := hb.size
  have hy18 := hB18.size
  have oS0_18 := Lib.hid (oS0_17.out.below hb)
  clear oS0_17
  have oI0_18 := Lib.hid (oI0_17.out.below hb)
  clear oI0_17
  have y0_18 := Lib.hid (y0_17.out.below hb)
  clear y0_17
  have y1_18 := Lib.hid (y1_17.out.below hb)
  clear y1_17
  obtain ⟨AJ0, kJ0, hvJ018, _, _⟩ := COwn.form hoJ0
  subst hvJ018
  have oJ0_18 := Lib.hid (OwnB.pl (by exact hoJ0))
  clear hoJ0
  clear hb
  clear y0_18
  clear y1_18
  go_wp2_with fail
  refine (eqCellS_same AJ0 AS0 os.length kJ0 kS0 os _ (ownC_lst oJ0_18.out.1.1) (ownC_lst oS0_18.out.1.1) (by unfold maxLen; omega)).mono ?_
  rintro e w19 ⟨rfl, hb19⟩
  have hB19 : Below W.heap.size W w19 := hB18.trans (hb19.mono hB18.size)
  have hz19 := hb19.size
  have hy19 := hB19.size
  have oS0_19 := Lib.hid (oS0_18.out.below hb19)
  clear oS0_18
  have oI0_19 := Lib.hid (oI0_18.out.below hb19)
  clear oI0_18
  have oJ0_19 := Lib.hid (oJ0_18.out.below hb19)
  clear oJ0_18
  clear hb19
  go_wp2_with fail
  refine (heldCellS_any AI0 os.length kI0 1 _ oI0_19.out.1.1 (by omega) (by omega) (by omega)).mono ?_
  rintro e w' ⟨rfl, rfl⟩
  go_wp2_with fail
  go_ret
  exact ⟨rfl, hB19⟩

set_option maxRecDepth 100000 in
theorem lifted (os : Os) (started : os.Started) (H : Type) (enc : TypeId × Value → H) :
    ReturnsInHanded {} Try.checked os 9 .any (Rows.fnExactDiagramTimesSpec.pre6 enc Try.prog Try.f9 Rows.fnExactDiagramTimesRow.domain false) (Rows.fnExactDiagramTimesSpec.post enc Try.prog Try.f9 false true false false) := by
  refine returnsInHanded_of_change (C := Try.checked) own started (by kernel_rfl) Try.func9
    (ChangeSpec.witness6 (enc := enc) (C := Try.checked) false ⟨#[], #[.slice none 0 0, .slice none 0 0], []⟩ 8 (by kernel_rfl) (by kernel_rfl) (by kernel_rfl) (by kernel_rfl)) ?_
  intro W base args ds gs before hval0 hW hcnd _
  have hval : ∀ (j : Nat) t v, Try.f9.params[j]? = some t → args[j]? = some v → Value.okWide Try.prog W .any base t v := hval0
  have hW' := hW
  obtain ⟨p, q, hA0, hV, rfl, hfz, hnd⟩ := hW
  have hA : DataW.TrodAll enc Try.prog W 0 (fun _ => true) true Try.f9.params.toList args.toList ds p := hA0
  rw [Try.params9] at hA hval
  obtain ⟨v0, vs0, d0, ds0, p0, q0, hargs, rfl, rfl, h0, r0⟩ := trodAll_cons hA
  obtain ⟨v1, vs1, d1, ds1, p1, q1, rfl, rfl, rfl, h1, r1⟩ := trodAll_cons r0
  obtain ⟨rfl, rfl, rfl⟩ := trodAll_nil r1
  obtain rfl : args = #[v0, v1] := by cases args; simp_all
  obtain ⟨rfl, rfl⟩ := trodVars_none hV
  have lt0 : ∀ x ∈ p0, x.block < W.heap.size := by
    obtain ⟨m, hm⟩ := h0
    exact DataW.trod_lt m _ _ _ hm
  have lt1 : ∀ x ∈ p1, x.block < W.heap.size := by
    obtain ⟨m, hm⟩ := h1
    exact DataW.trod_lt m _ _ _ hm
  clear hA0 hval0
  refine (walk enc W base v0 d0 p0 (hval 0 22 v0 rfl rfl) h0 lt0 v1 d1 p1 (hval 1 22 v1 rfl rfl) h1 lt1).mono fun e W' ⟨he, bel⟩ => ?_
  subst he
  exact ⟨_, rfl, _, _, _, [], _, [], hW', trodAll_mk1 (shut_bool Try.underlying4 _), (trodAll_cons_mk (Below.trod laidOut (by kernel_rfl) (of_decide_eq_true (by kernel_rfl)) h0 bel lt0) (trodAll_cons_mk (Below.trod laidOut (by kernel_rfl) (of_decide_eq_true (by kernel_rfl)) h1 bel lt1) trodAll_mk0)), rfl, bel.frame _, fun h => by cases h⟩

/-- What the statement asks of the whole program, one thing at a time: all at once wants too much memory. -/
theorem mayEnter : Try.prog.mayEnter = true := by kernel_rfl
theorem lifts : (Rows.fnExactDiagramTimesRow.lifted == Try.prog.liftsFinal) = true := by kernel_rfl
theorem makes : (Try.prog.make == some Rows.fnExactDiagramTimesRow.make) = true := by kernel_rfl
theorem closed : joinedFacts Try.prog 9 Try.f9 Rows.fnExactDiagramTimesSpec Rows.fnExactDiagramTimesRow = true := by
  unfold joinedFacts
  rw [mayEnter, lifts, makes]
  kernel_rfl

theorem proved : Rows.FnExactDiagramTimesSaid :=
  OpenClaim.holds_of_wide 9 Try.f9 rfl rfl rfl rfl rfl rfl rfl ⟨rfl, rfl, rfl, rfl, rfl⟩ rfl rfl rfl rfl rfl (by kernel_rfl) Try.func9 closed
    (of_decide_eq_true (by kernel_rfl)) (by unfold Func.isWrapper; first | (rw [if_pos (by decide +kernel)]; kernel_rfl) | (rw [if_neg (by decide +kernel)]; exact ⟨rfl, rfl⟩))
    (fun os started H enc _ => lifted os started H enc)
end Go.Proofs.Ytghkpmafocacoaa.fnExactDiagramTimes
