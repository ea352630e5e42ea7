/- For every list of factors that together with their numbers are at most 2^20, and every list of numbers of at most 2^20, the program's Eliminate returns what the model's returns, leaves its arguments as they are, and hands back memory of its own; longer lists are passed over by the law itself. No condition. -/
import Derived.Test.YtaipdkfbkcknkaaRows
import Derived.ProofKit
import Derived.OpenShut
import Derived.ShutString
import Derived.ChangeOld
import Derived.Below
import Derived.Test.YtaipdkfbkcknkaaZAF
import Derived.Test.YtaipdkfbkcknkaaZAI
import Derived.Test.YtaipdkfbkcknkaaZAW
import Derived.Test.YtaipdkfbkcknkaaZAB
import Derived.Test.YtaipdkfbkcknkaaZAA
namespace Go.Proofs.Ytaipdkfbkcknkaa.fnExactEliminate
open Go.ChangeShapes Go.WideShapes Go.ChangeAt Go.RowKit
set_option linter.unusedVariables false
set_option maxRecDepth 100000
theorem own : ownKnob Try.prog.godebug = none := by kernel_rfl
theorem laidOut : laidOutB Try.prog = true := by kernel_rfl
set_option maxHeartbeats 2000000 in
theorem walk {H : Type} (enc : TypeId × Value → H) (W : World) (base : Nat) (v0 : Value) (d0 : DataW H) (p0 : List MemPlace) (hv0 : Value.okWide Try.prog W .any base 26 v0)
    (h0 : DataW.Trod enc Try.prog W 0 (fun _ => true) true 26 v0 d0 p0) (_ : ∀ x ∈ p0, x.block < W.heap.size) (v1 : Value) (d1 : DataW H) (p1 : List MemPlace) (hv1 : Value.okWide Try.prog W .any base 22 v1)
    (h1 : DataW.Trod enc Try.prog W 0 (fun _ => true) true 22 v1 d1 p1) (_ : ∀ x ∈ p1, x.block < W.heap.size) :
    Calls Try.prog 5 #[v0, v1] W fun e w' => e = .returned (.bool true) ∧ Below W.heap.size W w' := by
  obtain ⟨A0, n0, c0, Fs0, rfl, hn0, hc0, hlst0, hsm0⟩ := open_factors hv0 h0
  obtain ⟨A1, n1, c1, ds1, rfl, hn1, hc1, hlst1⟩ := open_intl hv1 h1
  clear hv0 h0 hv1 h1
  have hH0 := Lib.hid hlst0
  have hSm0 := Lib.hid hsm0
  clear hsm0
  have hL0 := Lib.hid hlst0.1
  have hnm0 := Lib.hid (Nat.le_trans hn0 hc0)
  have hnn0 : n0 ≤ 9223372036854775807 := by unfold maxLen at hc0; omega
  clear hlst0 hn0 hc0
  have hH1 := Lib.hid hlst1
  have hL1 := Lib.hid hlst1.1
  have hnm1 := Lib.hid (Nat.le_trans hn1 hc1)
  have hnn1 : n1 ≤ 9223372036854775807 := by unfold maxLen at hc1; omega
  clear hlst1 hn1 hc1
  by_cases hbig1 : n1 ≤ 1048576
  rotate_left
  · have hbig1' : 1048576 < n1 := by omega
    go_enter Try.func5, Try.ntmps5
    go_wp2_with fail
    go_ret
    exact ⟨rfl, Below.refl _ _⟩
  by_cases hsz0 : n0 + offF Fs0 n0 ≤ 1048576
  rotate_left
  · go_enter Try.func5, Try.ntmps5
    go_wp2_with fail
    refine (szFactorS_no A0 n0 c0 Fs0 _ hH0.out hSm0.out hnm0.out (by omega)).mono ?_
    rintro e wx0_0 ⟨rfl, hbx0_0⟩
    have hby0_0 : Below W.heap.size W wx0_0 := hbx0_0
    go_wp2_with fail
    go_ret
    exact ⟨rfl, hby0_0⟩
  have hbig0 : n0 ≤ 1048576 := by omega
  have hbd0 := offF_small (Fs := Fs0) (N := 1048576) (by rw [hL0.out]; omega)
  have hof0 : offs (rowsF Fs0) (n0 * 2) ≤ 1048576 := by rw [offs_offF (by rw [hL0.out]; exact Nat.le_refl _)]; omega
  have cS := Lib.hid (fun A B wx (hx : FLst0 wx wx.heap.size A n0 Fs0) (hy : Ils wx wx.heap.size B n1 ds1) => specEliminate_any A B n0 n0 n1 n1 Fs0 ds1 wx hx hnm0.out hSm0.out hy (Nat.le_refl _) hnm1.out)
  have cI := Lib.hid (fun A B wx (hx : FLst0 wx wx.heap.size A n0 Fs0) (hy : Ils wx wx.heap.size B n1 ds1) => Eliminate_any A B n0 n0 n1 n1 Fs0 ds1 wx hx.1 hnm0.out hSm0.out hy hnm1.out)
  obtain ⟨hrl, hrm⟩ := elimTo_len Fs0 ds1
  unfold Fbd at cS cI
  generalize elimTo Fs0 ds1 = os at hrl hrm cS cI
  generalize okElO Fs0 ds1 = bb at cS cI
  go_enter Try.func5, Try.ntmps5
  go_wp2_with fail
  refine (szFactorS_yes A0 n0 c0 Fs0 _ hH0.out hSm0.out hnm0.out (by omega)).mono ?_
  rintro e w1 ⟨rfl, hb1⟩
  have hB1 : Below W.heap.size W w1 := (Below.refl W.heap.size W).trans (hb1.mono (Below.refl W.heap.size W).size)
  have hz1 := hb1.size
  have hy1 := hB1.size
  clear hb1
  go_wp2_with fail
  refine (toFactorS_own A0 n0 c0 Fs0 _ ((hH0.out.below hB1).more hB1.size) hbd0 hbig0).mono ?_
  rintro e w2 ⟨g2, vs2, rfl, pl2, ha2, hb2⟩
  have hB2 : Below W.heap.size W w2 := hB1.trans (hb2.mono hB1.size)
  have hz2 := hb2.size
  have hy2 := hB2.size
  have cp0_2 := Lib.hid pl2
  have ha_cp0 := Lib.hid ha2
  clear pl2 hb2 ha2
  go_wp2_with fail
  refine (toIntS_own A1 n1 c1 ds1 _ ((hH1.out.below hB2).more hB2.size) hbig1).mono ?_
  rintro e w3 ⟨g3, rfl, pl3, hb3⟩
  have hB3 : Below W.heap.size W w3 := hB2.trans (hb3.mono hB2.size)
  have hz3 := hb3.size
  have hy3 := hB3.size
  have cp0_3 := Lib.hid (cp0_2.out.below hb3)
  clear cp0_2
  have cp1_3 := Lib.hid pl3
  clear pl3 hb3
  go_wp2_with fail
  refine (cS.out _ _ _ (RowsF.flst0 cp0_3.out.1.1 hL0.out) (ownI_lst cp1_3.out.1.1)).mono ?_
  rintro e w4 ⟨vS0, uS0, rfl, hoS0, hb⟩
  have hB4 : Below W.heap.size W w4 := hB3.trans (hb.mono hB3.size)
  have hz4 := hb.size
  have hy4 := hB4.size
  have cp0_4 := Lib.hid (cp0_3.out.below hb)
  clear cp0_3
  have cp1_4 := Lib.hid (cp1_3.out.below hb)
  clear cp1_3
  obtain ⟨AS0, kS0, hv4, _, _⟩ := IOwn.form hoS0.1
  subst hv4
  obtain ⟨BS0, jS0, hv4, _, _⟩ := IOwn.form hoS0.2.1
  subst hv4
  have oS0_4 := Lib.hid (FcB.pl hoS0)
  clear hoS0
  clear hb
  have hb5 : Below w4.heap.size w4 (w4.alloc (.cells #[.slice AS0 os.vs.length kS0, .slice BS0 os.ns.length jS0] 36)) := (Below.refl _ _).alloc (Nat.le_refl _) _
  have hsz5 : (w4.alloc (.cells #[.slice AS0 os.vs.length kS0, .slice BS0 os.ns.length jS0] 36)).heap.size = w4.heap.size + 1 := by simp
  have coS0_n := Lib.hid (Has.new w4 36 #[.slice AS0 os.vs.length kS0, .slice BS0 os.ns.length jS0])
  have hB5 : Below W.heap.size W (w4.alloc (.cells #[.slice AS0 os.vs.length kS0, .slice BS0 os.ns.length jS0] 36)) := hB4.trans (hb5.mono hB4.size)
  have hz5 := hb5.size
  have hy5 := hB5.size
  have cp0_5 := Lib.hid (cp0_4.out.below hb5)
  clear cp0_4
  have cp1_5 := Lib.hid (cp1_4.out.below hb5)
  clear cp1_4
  have oS0_5 := Lib.hid (oS0_4.out.below hb5)
  clear oS0_4
  have hc_coS0 := coS0_n.out.cell
  clear hb5
  clear cp0_5
  clear cp1_5
  go_wp2_with fail
  refine (toFactorS_own A0 n0 c0 Fs0 _ ((hH0.out.below hB5).more hB5.size) hbd0 hbig0).mono ?_
  rintro e w6 ⟨g6, vs6, rfl, pl6, ha6, hb6⟩
  have hB6 : Below W.heap.size W w6 := hB5.trans (hb6.mono hB5.size)
  have hz6 := hb6.size
  have hy6 := hB6.size
  have oS0_6 := Lib.hid (oS0_5.out.below hb6)
  clear oS0_5
  have coS0_6 := Lib.hid (Has.kept (by exact coS0_n.out) hb6)
  clear coS0_n
  clear hc_coS0
  have hc_coS0 := coS0_6.out.cell
  have x0_6 := Lib.hid pl6
  have ha_x0 := Lib.hid ha6
  clear pl6 hb6 ha6
  go_wp2_with fail
  refine (toIntS_own A1 n1 c1 ds1 _ ((hH1.out.below hB6).more hB6.size) hbig1).mono ?_
  rintro e w7 ⟨g7, rfl, pl7, hb7⟩
  have hB7 : Below W.heap.size W w7 := hB6.trans (hb7.mono hB6.size)
  have hz7 := hb7.size
  have hy7 := hB7.size
  have oS0_7 := Lib.hid (oS0_6.out.below hb7)
  clear oS0_6
  have x0_7 := Lib.hid (x0_6.out.below hb7)
  clear x0_6
  have coS0_7 := Lib.hid (Has.kept (by exact coS0_6.out) hb7)
  clear coS0_6
  clear hc_coS0
  have hc_coS0 := coS0_7.out.cell
  have x1_7 := Lib.hid pl7
  clear pl7 hb7
  go_wp2_with fail
  refine (cI.out _ _ _ (RowsF.flst0 x0_7.out.1.1 hL0.out) (ownI_lst x1_7.out.1.1)).mono ?_
  rintro e w8 ⟨vI0, uI0, rfl, hoI0, hb⟩
  have hB8 : Below W.heap.size W w8 := hB7.trans (hb.mono hB7.size)
  have hz8 := hb.size
  have hy8 := hB8.size
  have oS0_8 := Lib.hid (oS0_7.out.below hb)
  clear oS0_7
  have x0_8 := Lib.hid (x0_7.out.below hb)
  clear x0_7
  have x1_8 := Lib.hid (x1_7.out.below hb)
  clear x1_7
  have coS0_8 := Lib.hid (Has.kept (by exact coS0_7.out) hb)
  clear coS0_7
  clear hc_coS0
  have hc_coS0 := coS0_8.out.cell
  obtain ⟨AI0, kI0, hv8, _, _⟩ := IOwn.form hoI0.1
  subst hv8
  obtain ⟨BI0, jI0, hv8, _, _⟩ := IOwn.form hoI0.2.1
  subst hv8
  have oI0_8 := Lib.hid (FcB.pl hoI0)
  have hdI0 := Lib.hid hoI0.2.2
  clear hoI0
  clear hb
  have hb9 : Below w8.heap.size w8 (w8.alloc (.cells #[.slice AI0 os.vs.length kI0, .slice BI0 os.ns.length jI0] 36)) := (Below.refl _ _).alloc (Nat.le_refl _) _
  have hsz9 : (w8.alloc (.cells #[.slice AI0 os.vs.length kI0, .slice BI0 os.ns.length jI0] 36)).heap.size = w8.heap.size + 1 := by simp
  have coI0_n := Lib.hid (Has.new w8 36 #[.slice AI0 os.vs.length kI0, .slice BI0 os.ns.length jI0])
  have hB9 : Below W.heap.size W (w8.alloc (.cells #[.slice AI0 os.vs.length kI0, .slice BI0 os.ns.length jI0] 36)) := hB8.trans (hb9.mono hB8.size)
  have hz9 := hb9.size
  have hy9 := hB9.size
  have oS0_9 := Lib.hid (oS0_8.out.below hb9)
  clear oS0_8
  have x0_9 := Lib.hid (x0_8.out.below hb9)
  clear x0_8
  have x1_9 := Lib.hid (x1_8.out.below hb9)
  clear x1_8
  have oI0_9 := Lib.hid (oI0_8.out.below hb9)
  clear oI0_8
  have coS0_9 := Lib.hid (Has.kept (by exact coS0_8.out) hb9)
  clear coS0_8
  clear hc_coS0
  have hc_coS0 := coS0_9.out.cell
  clear hc_coS0
  have hc_coS0 := coS0_9.out.cell
  have hc_coI0 := coI0_n.out.cell
  clear hb9
  go_wp2_with fail
  refine (eqFactor_same AI0 BI0 AS0 BS0 os.vs.length kI0 os.ns.length jI0 _ kS0 _ jS0 os _ (FcB.fac oI0_9.out.1) (FcB.fac oS0_9.out.1) (by unfold maxLen; omega) (by unfold maxLen; omega)).mono ?_
  rintro e w10 ⟨rfl, hb10⟩
  have hB10 : Below W.heap.size W w10 := hB9.trans (hb10.mono hB9.size)
  have hz10 := hb10.size
  have hy10 := hB10.size
  have oS0_10 := Lib.hid (oS0_9.out.below hb10)
  clear oS0_9
  have x0_10 := Lib.hid (x0_9.out.below hb10)
  clear x0_9
  have x1_10 := Lib.hid (x1_9.out.below hb10)
  clear x1_9
  have oI0_10 := Lib.hid (oI0_9.out.below hb10)
  clear oI0_9
  have coS0_10 := Lib.hid (Has.kept (by exact coS0_9.out) hb10)
  clear coS0_9
  have coI0_10 := Lib.hid (Has.kept (by exact coI0_n.out) hb10)
  clear coI0_n
  clear hc_coS0
  clear hc_coI0
  have hc_coS0 := coS0_10.out.cell
  have hc_coI0 := coI0_10.out.cell
  clear hb10
  go_wp2_with fail
  refine (toFactorS_own A0 n0 c0 Fs0 _ ((hH0.out.below hB10).more hB10.size) hbd0 hbig0).mono ?_
  rintro e w11 ⟨g11, vs11, rfl, pl11, ha11, hb11⟩
  have hB11 : Below W.heap.size W w11 := hB10.trans (hb11.mono hB10.size)
  have hz11 := hb11.size
  have hy11 := hB11.size
  have oS0_11 := Lib.hid (oS0_10.out.below hb11)
  clear oS0_10
  have x0_11 := Lib.hid (x0_10.out.below hb11)
  clear x0_10
  have x1_11 := Lib.hid (x1_10.out.below hb11)
  clear x1_10
  have oI0_11 := Lib.hid (oI0_10.out.below hb11)
  clear oI0_10
  have coS0_11 := Lib.hid (Has.kept (by exact coS0_10.out) hb11)
  clear coS0_10
  have coI0_11 := Lib.hid (Has.kept (by exact coI0_10.out) hb11)
  clear coI0_10
  clear hc_coS0
  clear hc_coI0
  have hc_coS0 := coS0_11.out.cell
  have hc_coI0 := coI0_11.out.cell
  have tmp_11 := Lib.hid pl11
  have ha_tmp := Lib.hid ha11
  clear pl11 hb11 ha11
  go_wp2_with fail
  refine (eqFactorS_same (some ⟨g6, 0, none⟩) (some ⟨g11, 0, none⟩) n0 n0 n0 Fs0 _ (RowsF.flst x0_11.out.1.1 hL0.out) (RowsF.flst tmp_11.out.1.1 hL0.out) hSm0.out (by unfold maxLen; omega)).mono ?_
  rintro e w12 ⟨rfl, hb12⟩
  have hB12 : Below W.heap.size W w12 := hB11.trans (hb12.mono hB11.size)
  have hz12 := hb12.size
  have hy12 := hB12.size
  have oS0_12 := Lib.hid (oS0_11.out.below hb12)
  clear oS0_11
  have x0_12 := Lib.hid (x0_11.out.below hb12)
  clear x0_11
  have x1_12 := Lib.hid (x1_11.out.below hb12)
  clear x1_11
  have oI0_12 := Lib.hid (oI0_11.out.below hb12)
  clear oI0_11
  have tmp_12 := Lib.hid (tmp_11.out.below hb12)
  clear tmp_11
  have coS0_12 := Lib.hid (Has.kept (by exact coS0_11.out) hb12)
  clear coS0_11
  have coI0_12 := Lib.hid (Has.kept (by exact coI0_11.out) hb12)
  clear coI0_11
  clear hc_coS0
  clear hc_coI0
  have hc_coS0 := coS0_12.out.cell
  have hc_coI0 := coI0_12.out.cell
  clear hb12
  clear tmp_12
  go_wp2_with fail
  refine (toIntS_own A1 n1 c1 ds1 _ ((hH1.out.below hB12).more hB12.size) hbig1).mono ?_
  rintro e w13 ⟨g13, rfl, pl13, hb13⟩
  have hB13 : Below W.heap.size W w13 := hB12.trans (hb13.mono hB12.size)
  have hz13 := hb13.size
  have hy13 := hB13.size
  have oS0_13 := Lib.hid (oS0_12.out.below hb13)
  clear oS0_12
  have x0_13 := Lib.hid (x0_12.out.below hb13)
  clear x0_12
  have x1_13 := Lib.hid (x1_12.out.below hb13)
  clear x1_12
  have oI0_13 := Lib.hid (oI0_12.out.below hb13)
  clear oI0_12
  have coS0_13 := Lib.hid (Has.kept (by exact coS0_12.out) hb13)
  clear coS0_12
  have coI0_13 := Lib.hid (Has.kept (by exact coI0_12.out) hb13)
  clear coI0_12
  clear hc_coS0
  clear hc_coI0
  have hc_coS0 := coS0_13.out.cell
  have hc_coI0 := coI0_13.out.cell
  have tmp_13 := Lib.hid pl13
  clear pl13 hb13
  go_wp2_with fail
  refine (eqIntS_same (some ⟨g7, 0, none⟩) (some ⟨g13, 0, none⟩) n1 n1 n1 ds1 _ (ownI_lst x1_13.out.1.1) (ownI_lst tmp_13.out.1.1) (by unfold maxLen; omega)).mono ?_
  rintro e w14 ⟨rfl, q14, hq14⟩
  have hb14 : Below w13.heap.size w13 w14 := by rw [hq14]; exact below_drewN (Below.refl _ _) _
  clear hq14
  have hB14 : Below W.heap.size W w14 := hB13.trans (hb14.mono hB13.size)
  have hz14 := hb14.size
  have hy14 := hB14.size
  have oS0_14 := Lib.hid (oS0_13.out.below hb14)
  clear oS0_13
  have x0_14 := Lib.hid (x0_13.out.below hb14)
  clear x0_13
  have x1_14 := Lib.hid (x1_13.out.below hb14)
  clear x1_13
  have oI0_14 := Lib.hid (oI0_13.out.below hb14)
  clear oI0_13
  have tmp_14 := Lib.hid (tmp_13.out.below hb14)
  clear tmp_13
  have coS0_14 := Lib.hid (Has.kept (by exact coS0_13.out) hb14)
  clear coS0_13
  have coI0_14 := Lib.hid (Has.kept (by exact coI0_13.out) hb14)
  clear coI0_13
  clear hc_coS0
  clear hc_coI0
  have hc_coS0 := coS0_14.out.cell
  have hc_coI0 := coI0_14.out.cell
  clear hb14
  clear tmp_14
  go_wp2_with fail
  refine (markG_pl (some ⟨g6, 0, none⟩) n0 n0 _ _ 1 Fs0 _ _ x0_14.out ha_x0.out hL0.out (by omega) (by omega) (by omega) (by omega)).mono ?_
  rintro e w15 ⟨rfl, hk15, pl15⟩
  have hB15 : Below W.heap.size W w15 := below_but hB14 hk15 (fun k hk => by omega)
  have hz15 := hk15.size
  have hy15 := hB15.size
  have oS0_15 := Lib.hid (oS0_14.out.but hk15 (fun k hk hk2 => by omega))
  clear oS0_14
  have x1_15 := Lib.hid (x1_14.out.but hk15 (fun k hk hk2 => by omega))
  clear x1_14
  have oI0_15 := Lib.hid (oI0_14.out.but hk15 (fun k hk hk2 => by omega))
  clear oI0_14
  have coS0_15 := Lib.hid (coS0_14.out.but hk15 (fun hk2 => by omega))
  clear coS0_14
  have coI0_15 := Lib.hid (coI0_14.out.but hk15 (fun hk2 => by omega))
  clear coI0_14
  clear hc_coS0
  clear hc_coI0
  have hc_coS0 := coS0_15.out.cell
  have hc_coI0 := coI0_15.out.cell
  clear x0_14
  have x0_15 := Lib.hid pl15
  clear hk15 pl15
  go_wp2_with fail
  refine (markI_pl (some ⟨g7, 0, none⟩) n1 n1 _ _ (1 + (offs (rowsF Fs0) (n0 * 2) : Int)) _ _ x1_15.out (by omega) (by omega) (by omega)).mono ?_
  rintro e w16 ⟨rfl, hk16, pl16⟩
  have hB16 : Below W.heap.size W w16 := below_but hB15 hk16 (fun k hk => by omega)
  have hz16 := hk16.size
  have hy16 := hB16.size
  have oS0_16 := Lib.hid (oS0_15.out.but hk16 (fun k hk hk2 => by omega))
  clear oS0_15
  have x0_16 := Lib.hid (x0_15.out.but hk16 (fun k hk hk2 => by omega))
  clear x0_15
  have oI0_16 := Lib.hid (oI0_15.out.but hk16 (fun k hk hk2 => by omega))
  clear oI0_15
  have coS0_16 := Lib.hid (coS0_15.out.but hk16 (fun hk2 => by omega))
  clear coS0_15
  have coI0_16 := Lib.hid (coI0_15.out.but hk16 (fun hk2 => by omega))
  clear coI0_15
  clear hc_coS0
  clear hc_coI0
  have hc_coS0 := coS0_16.out.cell
  have hc_coI0 := coI0_16.out.cell
  clear x1_15
  have x1_16 := Lib.hid pl16
  clear hk16 pl16
  clear x0_16
  clear x1_16
  go_wp2_with fail
  refine (eqFactor_same AI0 BI0 AS0 BS0 os.vs.length kI0 os.ns.length jI0 _ kS0 _ jS0 os _ (FcB.fac oI0_16.out.1) (FcB.fac oS0_16.out.1) (by unfold maxLen; omega) (by unfold maxLen; omega)).mono ?_
  rintro e w17 ⟨rfl, hb17⟩
  have hB17 : Below W.heap.size W w17 := hB16.trans (hb17.mono hB16.size)
  have hz17 := hb17.size
  have hy17 := hB17.size
  have oS0_17 := Lib.hid (oS0_16.out.below hb17)
  clear oS0_16
  have oI0_17 := Lib.hid (oI0_16.out.below hb17)
  clear oI0_16
  have coS0_17 := Lib.hid (Has.kept (by exact coS0_16.out) hb17)
  clear coS0_16
  have coI0_17 := Lib.hid (Has.kept (by exact coI0_16.out) hb17)
  clear coI0_16
  clear hc_coS0
  clear hc_coI0
  have hc_coS0 := coS0_17.out.cell
  have hc_coI0 := coI0_17.out.cell
  clear hb17
  go_wp2_with fail
  refine (markF_pl AI0 BI0 os.vs.length kI0 os.ns.length jI0 _ _ 1 os _ oI0_17.out hdI0.out (by omega) (by omega) (by omega) (by omega)).mono ?_
  rintro e w18 ⟨rfl, hk18, pl18⟩
  have hB18 : Below W.heap.size W w18 := below_but hB17 hk18 (fun k hk => by omega)
  have hz18 := hk18.size
  have hy18 := hB18.size
  have oS0_18 := Lib.hid (oS0_17.out.but hk18 (fun k hk hk2 => by omega))
  clear oS0_17
  have coS0_18 := Lib.hid (coS0_17.out.but hk18 (fun hk2 => by omega))
  clear coS0_17
  have coI0_18 := Lib.hid (coI0_17.out.but hk18 (fun hk2 => by omega))
  clear coI0_17
  clear hc_coS0
  clear hc_coI0
  have hc_coS0 := coS0_18.out.cell
  have hc_coI0 := coI0_18.out.cell
  clear oI0_17
  have oI0_18 := Lib.hid pl18
  clear hk18 pl18
  go_wp2_with fail
  refine (heldF_any AI0 BI0 os.vs.length kI0 os.ns.length jI0 _ _ 1 _ oI0_18.out.1 (by omega) (by omega) (by omega) (by omega)).mono ?_
  rintro e w19 ⟨rfl, hb19⟩
  have hB19 : Below W.heap.size W w19 := hB18.trans (hb19.mono hB18.size)
  have hz19 := hb19.size
  have hy19 := hB19.size
  have oS0_19 := Lib.hid (oS0_18.out.below hb19)
  clear oS0_18
  have oI0_19 := Lib.hid (oI0_18.out.below hb19)
  clear oI0_18
  have coS0_19 := Lib.hid (Has.kept (by exact coS0_18.out) hb19)
  clear coS0_18
  have coI0_19 := Lib.hid (Has.kept (by exact coI0_18.out) hb19)
  clear coI0_18
  clear hc_coS0
  clear hc_coI0
  have hc_coS0 := coS0_19.out.cell
  have hc_coI0 := coI0_19.out.cell
  clear hb19
  go_wp2_with fail
  refine (toFactorS_own A0 n0 c0 Fs0 _ ((hH0.out.below hB19).more hB19.size) hbd0 hbig0).mono ?_
  rintro e w20 ⟨g20, vs20, rfl, pl20, ha20, hb20⟩
  have hB20 : Below W.heap.size W w20 := hB19.trans (hb20.mono hB19.size)
  have hz20 := hb20.size
  have hy20 := hB20.size
  have oS0_20 := Lib.hid (oS0_19.out.below hb20)
  clear oS0_19
  have oI0_20 := Lib.hid (oI0_19.out.below hb20)
  clear oI0_19
  have coS0_20 := Lib.hid (Has.kept (by exact coS0_19.out) hb20)
  clear coS0_19
  have coI0_20 := Lib.hid (Has.kept (by exact coI0_19.out) hb20)
  clear coI0_19
  clear hc_coS0
  clear hc_coI0
  have hc_coS0 := coS0_20.out.cell
  have hc_coI0 := coI0_20.out.cell
  have y0_20 := Lib.hid pl20
  have ha_y0 := Lib.hid ha20
  clear pl20 hb20 ha20
  go_wp2_with fail
  refine (toIntS_own A1 n1 c1 ds1 _ ((hH1.out.below hB20).more hB20.size) hbig1).mono ?_
  rintro e w21 ⟨g21, rfl, pl21, hb21⟩
  have hB21 : Below W.heap.size W w21 := hB20.trans (hb21.mono hB20.size)
  have hz21 := hb21.size
  have hy21 := hB21.size
  have oS0_21 := Lib.hid (oS0_20.out.below hb21)
  clear oS0_20
  have oI0_21 := Lib.hid (oI0_20.out.below hb21)
  clear oI0_20
  have y0_21 := Lib.hid (y0_20.out.below hb21)
  clear y0_20
  have coS0_21 := Lib.hid (Has.kept (by exact coS0_20.out) hb21)
  clear coS0_20
  have coI0_21 := Lib.hid (Has.kept (by exact coI0_20.out) hb21)
  clear coI0_20
  clear hc_coS0
  clear hc_coI0
  have hc_coS0 := coS0_21.out.cell
  have hc_coI0 := coI0_21.out.cell
  have y1_21 := Lib.hid pl21
  clear pl21 hb21
  go_wp2_with fail
  refine (cI.out _ _ _ (RowsF.flst0 y0_21.out.1.1 hL0.out) (ownI_lst y1_21.out.1.1)).mono ?_
  rintro e w22 ⟨vJ0, uI0, rfl, hoJ0, hb⟩
  have hB22 : Below W.heap.size W w22 := hB21.trans (hb.mono hB21.size)
  have hz22 := hb.size
  have hy22 := hB22.size
  have oS0_22 := Lib.hid (oS0_21.out.below hb)
  clear oS0_21
  have oI0_22 := Lib.hid (oI0_21.out.below hb)
  clear oI0_21
  have y0_22 := Lib.hid (y0_21.out.below hb)
  clear y0_21
  have y1_22 := Lib.hid (y1_21.out.below hb)
  clear y1_21
  have coS0_22 := Lib.hid (Has.kept (by exact coS0_21.out) hb)
  clear coS0_21
  have coI0_22 := Lib.hid (Has.kept (by exact coI0_21.out) hb)
  clear coI0_21
  clear hc_coS0
  clear hc_coI0
  have hc_coS0 := coS0_22.out.cell
  have hc_coI0 := coI0_22.out.cell
  obtain ⟨AJ0, kJ0, hv22, _, _⟩ := IOwn.form hoJ0.1
  subst hv22
  obtain ⟨BJ0, jJ0, hv22, _, _⟩ := IOwn.form hoJ0.2.1
  subst hv22
  have oJ0_22 := Lib.hid (FcB.pl hoJ0)
  clear hoJ0
  clear hb
  have hb23 : Below w22.heap.size w22 (w22.alloc (.cells #[.slice AJ0 os.vs.length kJ0, .slice BJ0 os.ns.length jJ0] 36)) := (Below.refl _ _).alloc (Nat.le_refl _) _
  have hsz23 : (w22.alloc (.cells #[.slice AJ0 os.vs.length kJ0, .slice BJ0 os.ns.length jJ0] 36)).heap.size = w22.heap.size + 1 := by simp
  have coJ0_n := Lib.hid (Has.new w22 36 #[.slice AJ0 os.vs.length kJ0, .slice BJ0 os.ns.length jJ0])
  have hB23 : Below W.heap.size W (w22.alloc (.cells #[.slice AJ0 os.vs.length kJ0, .slice BJ0 os.ns.length jJ0] 36)) := hB22.trans (hb23.mono hB22.size)
  have hz23 := hb23.size
  have hy23 := hB23.size
  have oS0_23 := Lib.hid (oS0_22.out.below hb23)
  clear oS0_22
  have oI0_23 := Lib.hid (oI0_22.out.below hb23)
  clear oI0_22
  have y0_23 := Lib.hid (y0_22.out.below hb23)
  clear y0_22
  have y1_23 := Lib.hid (y1_22.out.below hb23)
  clear y1_22
  have oJ0_23 := Lib.hid (oJ0_22.out.below hb23)
  clear oJ0_22
  have coS0_23 := Lib.hid (Has.kept (by exact coS0_22.out) hb23)
  clear coS0_22
  have coI0_23 := Lib.hid (Has.kept (by exact coI0_22.out) hb23)
  clear coI0_22
  clear hc_coS0
  clear hc_coI0
  have hc_coS0 := coS0_23.out.cell
  have hc_coI0 := coI0_23.out.cell
  clear hc_coS0
  clear hc_coI0
  have hc_coS0 := coS0_23.out.cell
  have hc_coI0 := coI0_23.out.cell
  have hc_coJ0 := coJ0_n.out.cell
  clear hb23
  clear y0_23
  clear y1_23
  go_wp2_with fail
  refine (eqFactor_same AJ0 BJ0 AS0 BS0 os.vs.length kJ0 os.ns.length jJ0 _ kS0 _ jS0 os _ (FcB.fac oJ0_23.out.1) (FcB.fac oS0_23.out.1) (by unfold maxLen; omega) (by unfold maxLen; omega)).mono ?_
  rintro e w24 ⟨rfl, hb24⟩
  have hB24 : Below W.heap.size W w24 := hB23.trans (hb24.mono hB23.size)
  have hz24 := hb24.size
  have hy24 := hB24.size
  have oS0_24 := Lib.hid (oS0_23.out.below hb24)
  clear oS0_23
  have oI0_24 := Lib.hid (oI0_23.out.below hb24)
  clear oI0_23
  have oJ0_24 := Lib.hid (oJ0_23.out.below hb24)
  clear oJ0_23
  have coS0_24 := Lib.hid (Has.kept (by exact coS0_23.out) hb24)
  clear coS0_23
  have coI0_24 := Lib.hid (Has.kept (by exact coI0_23.out) hb24)
  clear coI0_23
  have coJ0_24 := Lib.hid (Has.kept (by exact coJ0_n.out) hb24)
  clear coJ0_n
  clear hc_coS0
  clear hc_coI0
  clear hc_coJ0
  have hc_coS0 := coS0_24.out.cell
  have hc_coI0 := coI0_24.out.cell
  have hc_coJ0 := coJ0_24.out.cell
  clear hb24
  go_wp2_with fail
  refine (heldF_any AI0 BI0 os.vs.length kI0 os.ns.length jI0 _ _ 1 _ oI0_24.out.1 (by omega) (by omega) (by omega) (by omega)).mono ?_
  rintro e w25 ⟨rfl, hb25⟩
  have hB25 : Below W.heap.size W w25 := hB24.trans (hb25.mono hB24.size)
  have hz25 := hb25.size
  have hy25 := hB25.size
  have oS0_25 := Lib.hid (oS0_24.out.below hb25)
  clear oS0_24
  have oI0_25 := Lib.hid (oI0_24.out.below hb25)
  clear oI0_24
  have oJ0_25 := Lib.hid (oJ0_24.out.below hb25)
  clear oJ0_24
  have coS0_25 := Lib.hid (Has.kept (by exact coS0_24.out) hb25)
  clear coS0_24
  have coI0_25 := Lib.hid (Has.kept (by exact coI0_24.out) hb25)
  clear coI0_24
  have coJ0_25 := Lib.hid (Has.kept (by exact coJ0_24.out) hb25)
  clear coJ0_24
  clear hc_coS0
  clear hc_coI0
  clear hc_coJ0
  have hc_coS0 := coS0_25.out.cell
  have hc_coI0 := coI0_25.out.cell
  have hc_coJ0 := coJ0_25.out.cell
  clear hb25
  go_wp2_with fail
  go_ret
  exact ⟨rfl, hB25⟩
set_option maxRecDepth 100000 in
theorem lifted (os : Os) (started : os.Started) (H : Type) (enc : TypeId × Value → H) :
    ReturnsInHanded {} Try.checked os 5 .any (Rows.fnExactEliminateSpec.pre6 enc Try.prog Try.f5 Rows.fnExactEliminateRow.domain false) (Rows.fnExactEliminateSpec.post enc Try.prog Try.f5 false true false false) := by
  refine returnsInHanded_of_change (C := Try.checked) own started (by kernel_rfl) Try.func5
    (ChangeSpec.witness6 (enc := enc) (C := Try.checked) false ⟨#[], #[.slice none 0 0, .slice none 0 0], []⟩ 8 (by kernel_rfl) (by kernel_rfl) (by kernel_rfl) (by kernel_rfl)) ?_
  intro W base args ds gs before hval0 hW hcnd _
  have hval : ∀ (j : Nat) t v, Try.f5.params[j]? = some t → args[j]? = some v → Value.okWide Try.prog W .any base t v := hval0
  have hW' := hW
  obtain ⟨p, q, hA0, hV, rfl, hfz, hnd⟩ := hW
  have hA : DataW.TrodAll enc Try.prog W 0 (fun _ => true) true Try.f5.params.toList args.toList ds p := hA0
  rw [Try.params5] at hA hval
  obtain ⟨v0, vs0, d0, ds0, p0, q0, hargs, rfl, rfl, h0, r0⟩ := trodAll_cons hA
  obtain ⟨v1, vs1, d1, ds1, p1, q1, rfl, rfl, rfl, h1, r1⟩ := trodAll_cons r0
  obtain ⟨rfl, rfl, rfl⟩ := trodAll_nil r1
  obtain rfl : args = #[v0, v1] := by cases args; simp_all
  obtain ⟨rfl, rfl⟩ := trodVars_none hV
  have lt0 : ∀ x ∈ p0, x.block < W.heap.size := by
    obtain ⟨m, hm⟩ := h0
    exact DataW.trod_lt m _ _ _ hm
  have lt1 : ∀ x ∈ p1, x.block < W.heap.size := by
    obtain ⟨m, hm⟩ := h1
    exact DataW.trod_lt m _ _ _ hm
  clear hA0 hval0
  refine (walk enc W base v0 d0 p0 (hval 0 26 v0 rfl rfl) h0 lt0 v1 d1 p1 (hval 1 22 v1 rfl rfl) h1 lt1).mono fun e W' ⟨he, bel⟩ => ?_
  subst he
  exact ⟨_, rfl, _, _, _, [], _, [], hW', trodAll_mk1 (shut_bool Try.underlying4 _), (trodAll_cons_mk (Below.trod laidOut (by kernel_rfl) (of_decide_eq_true (by kernel_rfl)) h0 bel lt0) (trodAll_cons_mk (Below.trod laidOut (by kernel_rfl) (of_decide_eq_true (by kernel_rfl)) h1 bel lt1) trodAll_mk0)), rfl, bel.frame _, fun h => by cases h⟩
theorem proved : Rows.FnExactEliminateSaid :=
  OpenClaim.holds_of_wide 5 Try.f5 rfl rfl rfl rfl rfl rfl rfl ⟨rfl, rfl, rfl, rfl, rfl⟩ rfl rfl rfl rfl rfl (by kernel_rfl) Try.func5 (by kernel_rfl)
    (of_decide_eq_true (by kernel_rfl)) (by unfold Func.isWrapper; first | (rw [if_pos (by decide +kernel)]; kernel_rfl) | (rw [if_neg (by decide +kernel)]; exact ⟨rfl, rfl⟩))
    (fun os started H enc _ => lifted os started H enc)
end Go.Proofs.Ytaipdkfbkcknkaa.fnExactEliminate
