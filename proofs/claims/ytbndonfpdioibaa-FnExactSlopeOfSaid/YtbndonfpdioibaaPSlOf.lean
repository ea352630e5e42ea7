/- For every list of statements of at most 2^20 and every two numbers the program's SlopeOf returns what the model's returns, leaves its argument as it is, and hands back memory of its own; longer lists are passed over by the law itself. No condition. -/
import Derived.Test.YtbndonfpdioibaaRows
import Derived.Test.YtbndonfpdioibaaSf
import Derived.Test.YtbndonfpdioibaaSh
import Derived.Test.YtbndonfpdioibaaNm
import Derived.Test.YtbndonfpdioibaaKt
import Derived.ProofKit
import Derived.OpenShut
import Derived.ShutString
import Derived.ChangeOld
import Derived.Below
namespace Go.Proofs.Ytbndonfpdioibaa.fnExactSlopeOf
open Go.ChangeShapes Go.WideShapes Go.ChangeAt Go.RowKit 
set_option linter.unusedVariables false
set_option maxRecDepth 100000

theorem own : ownKnob Try.prog.godebug = none := by kernel_rfl
theorem laidOut : laidOutB Try.prog = true := by kernel_rfl


set_option maxHeartbeats 2000000 in
theorem specSlopeOf_any (A : Option Addr) (n c : Nat) (ps : List St) (a v : Int) (w : World) (h : Lst w w.heap.size A n ps) (hn : n ≤ c) (hc : c ≤ maxLen) (hbig : n ≤ 1048576) :
    Calls Try.prog 15 #[.slice A n c, .int .i64 a, .int .i64 v] w (Lbd w (slOf ps a v) (slOk ps a v)) := by
  have hC := Lib.hid (l1Unrolled_any A n c ps w h hn hc hbig)
  have cV := Lib.hid (fun wx => l1In_any v 0 2 wx)
  clear h hc
  cases hu : unrolled ps with
  | none =>
    have hE := Lib.hid (sl_no (ps := ps) (a := a) (v := v) (by unfold wOf; rw [hu]; rfl))
    have hU := Lib.hid hu
    clear hu
    go_enter Try.func15, Try.ntmps15
    go_wp2_with fail
    refine (hC.out).mono ?_
    rw [hU.out]
    rintro e w1 ⟨u, rfl, _, hb⟩
    have hF := Lib.hid hb
    clear hb
    go_wp2_with fail
    go_ret2
    exact ⟨.slice none 0 0, by rw [hE.out.1]; rfl, by rw [hE.out.2]; exact IOwn.nil _ _, hF.out⟩
  | some os =>
    obtain ⟨_, hlen, _, hNL, hOK⟩ := unrolled_parts hu
    cases hg : (wAt os a && inB v 0 2)
    · have hE := Lib.hid (sl_no (ps := ps) (a := a) (v := v) (by unfold wOf; rw [hu]; exact hg))
      have hU := Lib.hid hu
      generalize hwo : wAt os a = b1 at hg
      have hWo := Lib.hid hwo
      generalize inB v 0 2 = b2 at hg cV
      clear hwo hu hNL hOK
      go_enter Try.func15, Try.ntmps15
      go_wp2_with fail
      refine (hC.out).mono ?_
      rw [hU.out]
      rintro e w1 ⟨u, rfl, hown, hb⟩
      have hown' : Own w1 w.heap.size u os := hown os rfl
      obtain ⟨A3, c3, hv, _, _⟩ := hown'.form
      subst hv
      have cW := Lib.hid (l12Weighs_any A3 os.length c3 os a w1 hown'.lst (by omega))
      rw [hWo.out] at cW
      have hF := Lib.hid hb
      clear hown hown' hb
      cases b1 with
      | false =>
        clear hg
        go_wp2_with (first | (go_at_call 66; refine (cW.out).mono ?_; rintro e w' ⟨rfl, rfl⟩) | (go_at_call 67; refine (cV.out _).mono ?_; rintro e w' ⟨rfl, rfl⟩))
        go_ret2
        exact ⟨.slice none 0 0, by rw [hE.out.1]; rfl, by rw [hE.out.2]; exact IOwn.nil _ _, hF.out⟩
      | true =>
        have hb2 : b2 = false := by simpa using hg
        rw [hb2] at cV
        clear hg hb2
        go_wp2_with (first | (go_at_call 66; refine (cW.out).mono ?_; rintro e w' ⟨rfl, rfl⟩) | (go_at_call 67; refine (cV.out _).mono ?_; rintro e w' ⟨rfl, rfl⟩))
        go_ret2
        exact ⟨.slice none 0 0, by rw [hE.out.1]; rfl, by rw [hE.out.2]; exact IOwn.nil _ _, hF.out⟩
    · rw [Bool.and_eq_true] at hg
      obtain ⟨hg1, hg2⟩ := hg
      obtain ⟨k, t, rfl, ht, hw⟩ := wAt_iff.1 hg1
      obtain ⟨e1, e2⟩ := sl_yes hu hg1 hg2
      have hE1 := Lib.hid e1
      have hE2 := Lib.hid e2
      have hOk := Lib.hid (show ∀ s ∈ os, s.ok = true ∧ s.notLoop = true from fun s hs => ⟨List.all_eq_true.1 hOK s hs, hNL s hs⟩)
      have hU := Lib.hid hu
      have hT := Lib.hid (And.intro ht hw)
      have hW1 := Lib.hid hg1
      rw [hg2] at cV
      clear hg1 hg2 hu hw ht e1 e2 hOK hNL
      obtain ⟨m, hm⟩ : ∃ m, os.length = m := ⟨_, rfl⟩
      have hM := Lib.hid hm
      rw [hm] at hlen
      clear hm
      go_enter Try.func15, Try.ntmps15
      go_wp2_with fail
      refine (hC.out).mono ?_
      rw [hU.out]
      rintro e w1 ⟨u, rfl, hown, hb⟩
      have hown' : w1.ownsRow w.heap.size 78 7 u m (flat os) := by
        have h10 : w1.ownsRow w.heap.size 78 7 u os.length (flat os) := hown os rfl
        rwa [hM.out] at h10
      obtain ⟨A3, c3, hv, _, _⟩ := owns_form hown'
      subst hv
      have hL1 := Lib.hid (ownS_lst hown')
      have cW := Lib.hid (l12Weighs_any A3 m c3 os k w1 hL1.out (by omega))
      rw [hW1.out] at cW
      have hF := Lib.hid hb
      clear hown hown' hb
      go_wp2_with (first | (go_at_call 66; refine (cW.out).mono ?_; rintro e w' ⟨rfl, rfl⟩) | (go_at_call 67; refine (cV.out _).mono ?_; rintro e w' ⟨rfl, rfl⟩))
      refine (l12Push_any A3 m c3 _ os k v t _ hL1.out hM.out hlen hOk.out hT.out.1 hT.out.2 (Nat.le_refl _)).mono ?_
      rintro e w5 ⟨v1, u1, ds, rfl, _, ho2, hb5⟩
      have hO5 := Lib.hid (show IOwn w5 w.heap.size u1 (slOf ps (k : Int) v) from by rw [hE2.out]; exact owns_le ho2 hF.out.size)
      have hB5 := Lib.hid (hF.out.trans (hb5.mono hF.out.size))
      clear ho2 hb5 cW hL1
      go_wp2_with fail
      go_ret2
      exact ⟨_, by rw [hE1.out]; rfl, hO5.out, hB5.out⟩
set_option maxHeartbeats 2000000 in
theorem walk {H : Type} (enc : TypeId × Value → H) (W : World) (base : Nat) (v0 : Value) (d0 : DataW H) (p0 : List MemPlace) (hv0 : Value.okWide Try.prog W .any base 22 v0)
    (h0 : DataW.Trod enc Try.prog W 0 (fun _ => true) true 22 v0 d0 p0) (_ : ∀ x ∈ p0, x.block < W.heap.size) (v1 : Value) (d1 : DataW H) (p1 : List MemPlace) (hv1 : Value.okWide Try.prog W .any base 3 v1)
    (h1 : DataW.Trod enc Try.prog W 0 (fun _ => true) true 3 v1 d1 p1) (_ : ∀ x ∈ p1, x.block < W.heap.size) (v2 : Value) (d2 : DataW H) (p2 : List MemPlace) (hv2 : Value.okWide Try.prog W .any base 3 v2)
    (h2 : DataW.Trod enc Try.prog W 0 (fun _ => true) true 3 v2 d2 p2) (_ : ∀ x ∈ p2, x.block < W.heap.size) :
    Calls Try.prog 3 #[v0, v1, v2] W fun e w' => e = .returned (.bool true) ∧ Below W.heap.size W w' := by
  obtain ⟨A0, n0, c0, ps0, rfl, hn0, hc0, hlst0⟩ := open_stmts hv0 h0
  obtain ⟨x1, rfl⟩ : ∃ x : Int, v1 = .int .i64 x := okWide_int Try.underlying3 hv1
  obtain ⟨x2, rfl⟩ : ∃ x : Int, v2 = .int .i64 x := okWide_int Try.underlying3 hv2
  clear hv0 h0 hv1 h1 hv2 h2
  have hH0 := Lib.hid hlst0
  have hL0 := Lib.hid hlst0.1
  have hnm0 := Lib.hid (Nat.le_trans hn0 hc0)
  have hnn0 : n0 ≤ 9223372036854775807 := by unfold maxLen at hc0; omega
  clear hlst0 hn0 hc0
  by_cases hsz0 : n0 ≤ 1048576
  rotate_left
  · go_enter Try.func3, Try.ntmps3
    go_wp2_with fail
    refine (szS_no A0 n0 c0 (1048576 : Int) _ hnm0.out (by omega) (by omega) (by omega)).mono ?_
    rintro e w' ⟨rfl, rfl⟩
    go_wp2_with fail
    go_ret
    exact ⟨rfl, Below.refl _ _⟩
  have hbig0 : n0 ≤ 1048576 := by omega
  have cS := Lib.hid (fun A wx (hx : Lst wx wx.heap.size A n0 ps0) => specSlopeOf_any A n0 n0 ps0 x1 x2 wx hx (Nat.le_refl _) hnm0.out hbig0)
  have cI := Lib.hid (fun A wx (hx : Lst wx wx.heap.size A n0 ps0) => SlopeOf_any A n0 n0 ps0 x1 x2 wx hx (Nat.le_refl _) hnm0.out)
  have hrl := slOf_len ps0 x1 x2
  unfold Lbd at cS cI
  generalize slOf ps0 x1 x2 = os at hrl cS cI
  generalize slOk ps0 x1 x2 = bb at cS cI
  go_enter Try.func3, Try.ntmps3
  go_wp2_with fail
  refine (szS_yes A0 n0 c0 (1048576 : Int) _ hnm0.out (by omega) (by omega)).mono ?_
  rintro e w' ⟨rfl, rfl⟩
  go_wp2_with fail
  refine (toStmtS_own A0 n0 c0 ps0 _ ((hH0.out.below (Below.refl W.heap.size W)).more (Below.refl W.heap.size W).size) hbig0).mono ?_
  rintro e w1 ⟨g1, rfl, pl1, hb1⟩
  have hB1 : Below W.heap.size W w1 := (Below.refl W.heap.size W).trans (hb1.mono (Below.refl W.heap.size W).size)
  have hz1 := hb1.size
  have hy1 := hB1.size
  have cp0_1 := Lib.hid pl1
  clear pl1 hb1
  go_wp2_with fail
  refine (cS.out _ _ (ownS_lst cp0_1.out.1.1)).mono ?_
  rintro e w2 ⟨vS0, rfl, hoS0, hb⟩
  have hB2 : Below W.heap.size W w2 := hB1.trans (hb.mono hB1.size)
  have hz2 := hb.size
  have hy2 := hB2.size
  have cp0_2 := Lib.hid (cp0_1.out.below hb)
  clear cp0_1
  obtain ⟨AS0, kS0, hvS02, _, _⟩ := IOwn.form hoS0
  subst hvS02
  have oS0_2 := Lib.hid (OwnB.pl (by exact hoS0))
  clear hoS0
  clear hb
  clear cp0_2
  go_wp2_with fail
  refine (toStmtS_own A0 n0 c0 ps0 _ ((hH0.out.below hB2).more hB2.size) hbig0).mono ?_
  rintro e w3 ⟨g3, rfl, pl3, hb3⟩
  have hB3 : Below W.heap.size W w3 := hB2.trans (hb3.mono hB2.size)
  have hz3 := hb3.size
  have hy3 := hB3.size
  have oS0_3 := Lib.hid (oS0_2.out.below hb3)
  clear oS0_2
  have x0_3 := Lib.hid pl3
  clear pl3 hb3
  go_wp2_with fail
  refine (cI.out _ _ (ownS_lst x0_3.out.1.1)).mono ?_
  rintro e w4 ⟨vI0, rfl, hoI0, hb⟩
  have hB4 : Below W.heap.size W w4 := hB3.trans (hb.mono hB3.size)
  have hz4 := hb.size
  have hy4 := hB4.size
  have oS0_4 := Lib.hid (oS0_3.out.below hb)
  clear oS0_3
  have x0_4 := Lib.hid (x0_3.out.below hb)
  clear x0_3
  obtain ⟨AI0, kI0, hvI04, _, _⟩ := IOwn.form hoI0
  subst hvI04
  have oI0_4 := Lib.hid (OwnB.pl (by exact hoI0))
  clear hoI0
  clear hb
  go_wp2_with fail
  refine (eqIntS_same AI0 AS0 os.length kI0 kS0 os _ (ownI_lst oI0_4.out.1.1) (ownI_lst oS0_4.out.1.1) (by unfold maxLen; omega)).mono ?_
  rintro e w5 ⟨rfl, q5, hq5⟩
  have hb5 : Below w4.heap.size w4 w5 := by rw [hq5]; exact below_drewN (Below.refl _ _) _
  clear hq5
  have hB5 : Below W.heap.size W w5 := hB4.trans (hb5.mono hB4.size)
  have hz5 := hb5.size
  have hy5 := hB5.size
  have oS0_5 := Lib.hid (oS0_4.out.below hb5)
  clear oS0_4
  have x0_5 := Lib.hid (x0_4.out.below hb5)
  clear x0_4
  have oI0_5 := Lib.hid (oI0_4.out.below hb5)
  clear oI0_4
  clear hb5
  go_wp2_with fail
  refine (toStmtS_own A0 n0 c0 ps0 _ ((hH0.out.below hB5).more hB5.size) hbig0).mono ?_
  rintro e w6 ⟨g6, rfl, pl6, hb6⟩
  have hB6 : Below W.heap.size W w6 := hB5.trans (hb6.mono hB5.size)
  have hz6 := hb6.size
  have hy6 := hB6.size
  have oS0_6 := Lib.hid (oS0_5.out.below hb6)
  clear oS0_5
  have x0_6 := Lib.hid (x0_5.out.below hb6)
  clear x0_5
  have oI0_6 := Lib.hid (oI0_5.out.below hb6)
  clear oI0_5
  have tmp_6 := Lib.hid pl6
  clear pl6 hb6
  go_wp2_with fail
  refine (eqStmtS_same (some ⟨g3, 0, none⟩) (some ⟨g6, 0, none⟩) n0 n0 n0 ps0 _ (ownS_lst x0_6.out.1.1) (ownS_lst tmp_6.out.1.1) (by unfold maxLen; omega)).mono ?_
  rintro e w7 ⟨rfl, hb7⟩
  have hB7 : Below W.heap.size W w7 := hB6.trans (hb7.mono hB6.size)
  have hz7 := hb7.size
  have hy7 := hB7.size
  have oS0_7 := Lib.hid (oS0_6.out.below hb7)
  clear oS0_6
  have x0_7 := Lib.hid (x0_6.out.below hb7)
  clear x0_6
  have oI0_7 := Lib.hid (oI0_6.out.below hb7)
  clear oI0_6
  have tmp_7 := Lib.hid (tmp_6.out.below hb7)
  clear tmp_6
  clear hb7
  clear tmp_7
  go_wp2_with fail
  refine (markS_pl (some ⟨g3, 0, none⟩) n0 n0 _ _ 1 _ _ x0_7.out (by omega) (by omega) (by omega)).mono ?_
  rintro e w8 ⟨rfl, hk8, pl8⟩
  have hB8 : Below W.heap.size W w8 := below_but hB7 hk8 (fun k hk => by omega)
  have hz8 := hk8.size
  have hy8 := hB8.size
  have oS0_8 := Lib.hid (oS0_7.out.but hk8 (fun k hk hk2 => by omega))
  clear oS0_7
  have oI0_8 := Lib.hid (oI0_7.out.but hk8 (fun k hk hk2 => by omega))
  clear oI0_7
  clear x0_7
  have x0_8 := Lib.hid pl8
  clear hk8 pl8
  clear x0_8
  go_wp2_with fail
  refine (eqIntS_same AI0 AS0 os.length kI0 kS0 os _ (ownI_lst oI0_8.out.1.1) (ownI_lst oS0_8.out.1.1) (by unfold maxLen; omega)).mono ?_
  rintro e w9 ⟨rfl, q9, hq9⟩
  have hb9 : Below w8.heap.size w8 w9 := by rw [hq9]; exact below_drewN (Below.refl _ _) _
  clear hq9
  have hB9 : Below W.heap.size W w9 := hB8.trans (hb9.mono hB8.size)
  have hz9 := hb9.size
  have hy9 := hB9.size
  have oS0_9 := Lib.hid (oS0_8.out.below hb9)
  clear oS0_8
  have oI0_9 := Lib.hid (oI0_8.out.below hb9)
  clear oI0_8
  clear hb9
  go_wp2_with fail
  refine (markI_pl AI0 os.length kI0 _ _ 1 _ _ oI0_9.out (by omega) (by omega) (by omega)).mono ?_
  rintro e w10 ⟨rfl, hk10, pl10⟩
  have hB10 : Below W.heap.size W w10 := below_but hB9 hk10 (fun k hk => by omega)
  have hz10 := hk10.size
  have hy10 := hB10.size
  have oS0_10 := Lib.hid (oS0_9.out.but hk10 (fun k hk hk2 => by omega))
  clear oS0_9
  clear oI0_9
  have oI0_10 := Lib.hid pl10
  clear hk10 pl10
  go_wp2_with fail
  refine (heldIntS_any AI0 os.length kI0 1 _ oI0_10.out.1.1 (by omega) (by omega) (by omega)).mono ?_
  rintro e w' ⟨rfl, rfl⟩
  go_wp2_with fail
  refine (toStmtS_own A0 n0 c0 ps0 _ ((hH0.out.below hB10).more hB10.size) hbig0).mono ?_
  rintro e w11 ⟨g11, rfl, pl11, hb11⟩
  have hB11 : Below W.heap.size W w11 := hB10.trans (hb11.mono hB10.size)
  have hz11 := hb11.size
  have hy11 := hB11.size
  have oS0_11 := Lib.hid (oS0_10.out.below hb11)
  clear oS0_10
  have oI0_11 := Lib.hid (oI0_10.out.below hb11)
  clear oI0_10
  have y0_11 := Lib.hid pl11
  clear pl11 hb11
  go_wp2_with fail
  refine (cI.out _ _ (ownS_lst y0_11.out.1.1)).mono ?_
  rintro e w12 ⟨vJ0, rfl, hoJ0, hb⟩
  have hB12 : Below W.heap.size W w12 := hB11.trans (hb.mono hB11.size)
  have hz12 := hb.size
  have hy12 := hB12.size
  have oS0_12 := Lib.hid (oS0_11.out.below hb)
  clear oS0_11
  have oI0_12 := Lib.hid (oI0_11.out.below hb)
  clear oI0_11
  have y0_12 := Lib.hid (y0_11.out.below hb)
  clear y0_11
  obtain ⟨AJ0, kJ0, hvJ012, _, _⟩ := IOwn.form hoJ0
  subst hvJ012
  have oJ0_12 := Lib.hid (OwnB.pl (by exact hoJ0))
  clear hoJ0
  clear hb
  clear y0_12
  go_wp2_with fail
  refine (eqIntS_same AJ0 AS0 os.length kJ0 kS0 os _ (ownI_lst oJ0_12.out.1.1) (ownI_lst oS0_12.out.1.1) (by unfold maxLen; omega)).mono ?_
  rintro e w13 ⟨rfl, q13, hq13⟩
  have hb13 : Below w12.heap.size w12 w13 := by rw [hq13]; exact below_drewN (Below.refl _ _) _
  clear hq13
  have hB13 : Below W.heap.size W w13 := hB12.trans (hb13.mono hB12.size)
  have hz13 := hb13.size
  have hy13 := hB13.size
  have oS0_13 := Lib.hid (oS0_12.out.below hb13)
  clear oS0_12
  have oI0_13 := Lib.hid (oI0_12.out.below hb13)
  clear oI0_12
  have oJ0_13 := Lib.hid (oJ0_12.out.below hb13)
  clear oJ0_12
  clear hb13
  go_wp2_with fail
  refine (heldIntS_any AI0 os.length kI0 1 _ oI0_13.out.1.1 (by omega) (by omega) (by omega)).mono ?_
  rintro e w' ⟨rfl, rfl⟩
  go_wp2_with fail
  go_ret
  exact ⟨rfl, hB13⟩

set_option maxRecDepth 100000 in
theorem lifted (os : Os) (started : os.Started) (H : Type) (enc : TypeId × Value → H) :
    ReturnsInHanded {} Try.checked os 3 .any (Rows.fnExactSlopeOfSpec.pre6 enc Try.prog Try.f3 Rows.fnExactSlopeOfRow.domain false) (Rows.fnExactSlopeOfSpec.post enc Try.prog Try.f3 false true false false) := by
  refine returnsInHanded_of_change (C := Try.checked) own started (by kernel_rfl) Try.func3
    (ChangeSpec.witness6 (enc := enc) (C := Try.checked) false ⟨#[], #[.slice none 0 0, .int .i64 0, .int .i64 0], []⟩ 8 (by kernel_rfl) (by kernel_rfl) (by kernel_rfl) (by kernel_rfl)) ?_
  intro W base args ds gs before hval0 hW hcnd _
  have hval : ∀ (j : Nat) t v, Try.f3.params[j]? = some t → args[j]? = some v → Value.okWide Try.prog W .any base t v := hval0
  have hW' := hW
  obtain ⟨p, q, hA0, hV, rfl, hfz, hnd⟩ := hW
  have hA : DataW.TrodAll enc Try.prog W 0 (fun _ => true) true Try.f3.params.toList args.toList ds p := hA0
  rw [Try.params3] at hA hval
  obtain ⟨v0, vs0, d0, ds0, p0, q0, hargs, rfl, rfl, h0, r0⟩ := trodAll_cons hA
  obtain ⟨v1, vs1, d1, ds1, p1, q1, rfl, rfl, rfl, h1, r1⟩ := trodAll_cons r0
  obtain ⟨v2, vs2, d2, ds2, p2, q2, rfl, rfl, rfl, h2, r2⟩ := trodAll_cons r1
  obtain ⟨rfl, rfl, rfl⟩ := trodAll_nil r2
  obtain rfl : args = #[v0, v1, v2] := by cases args; simp_all
  obtain ⟨rfl, rfl⟩ := trodVars_none hV
  have lt0 : ∀ x ∈ p0, x.block < W.heap.size := by
    obtain ⟨m, hm⟩ := h0
    exact DataW.trod_lt m _ _ _ hm
  have lt1 : ∀ x ∈ p1, x.block < W.heap.size := by
    obtain ⟨m, hm⟩ := h1
    exact DataW.trod_lt m _ _ _ hm
  have lt2 : ∀ x ∈ p2, x.block < W.heap.size := by
    obtain ⟨m, hm⟩ := h2
    exact DataW.trod_lt m _ _ _ hm
  clear hA0 hval0
  refine (walk enc W base v0 d0 p0 (hval 0 22 v0 rfl rfl) h0 lt0 v1 d1 p1 (hval 1 3 v1 rfl rfl) h1 lt1 v2 d2 p2 (hval 2 3 v2 rfl rfl) h2 lt2).mono fun e W' ⟨he, bel⟩ => ?_
  subst he
  exact ⟨_, rfl, _, _, _, [], _, [], hW', trodAll_mk1 (shut_bool Try.underlying4 _), (trodAll_cons_mk (Below.trod laidOut (by kernel_rfl) (of_decide_eq_true (by kernel_rfl)) h0 bel lt0) (trodAll_cons_mk (Below.trod laidOut (by kernel_rfl) (of_decide_eq_true (by kernel_rfl)) h1 bel lt1) (trodAll_cons_mk (Below.trod laidOut (by kernel_rfl) (of_decide_eq_true (by kernel_rfl)) h2 bel lt2) trodAll_mk0))), rfl, bel.frame _, fun h => by cases h⟩

/-- What the statement asks of the whole program, one thing at a time: all at once wants too much memory. -/
theorem mayEnter : Try.prog.mayEnter = true := by kernel_rfl
theorem lifts : (Rows.fnExactSlopeOfRow.lifted == Try.prog.liftsFinal) = true := by kernel_rfl
theorem makes : (Try.prog.make == some Rows.fnExactSlopeOfRow.make) = true := by kernel_rfl
theorem closed : joinedFacts Try.prog 3 Try.f3 Rows.fnExactSlopeOfSpec Rows.fnExactSlopeOfRow = true := by
  unfold joinedFacts
  rw [mayEnter, lifts, makes]
  kernel_rfl

theorem proved : Rows.FnExactSlopeOfSaid :=
  OpenClaim.holds_of_wide 3 Try.f3 rfl rfl rfl rfl rfl rfl rfl ⟨rfl, rfl, rfl, rfl, rfl⟩ rfl rfl rfl rfl rfl (by kernel_rfl) Try.func3 closed
    (of_decide_eq_true (by kernel_rfl)) (by unfold Func.isWrapper; first | (rw [if_pos (by decide +kernel)]; kernel_rfl) | (rw [if_neg (by decide +kernel)]; exact ⟨rfl, rfl⟩))
    (fun os started H enc _ => lifted os started H enc)
end Go.Proofs.Ytbndonfpdioibaa.fnExactSlopeOf
