/- For every list of factors that together with their numbers are at most 2^20, and every list of numbers of at most 2^20, the program's WidthOf returns what the model's returns, and leaves its arguments as they are; longer ones are passed over by the law itself. No condition. -/
import Derived.Test.YtaipdkfbkcknkaaRows
import Derived.ProofKit
import Derived.OpenShut
import Derived.ShutString
import Derived.ChangeOld
import Derived.Below
import Derived.Test.YtaipdkfbkcknkaaZAI
import Derived.Test.YtaipdkfbkcknkaaZAU
import Derived.Test.YtaipdkfbkcknkaaZAB
import Derived.Test.YtaipdkfbkcknkaaZAA
namespace Go.Proofs.Ytaipdkfbkcknkaa.fnExactWidthOf
open Go.ChangeShapes Go.WideShapes Go.ChangeAt Go.RowKit
set_option linter.unusedVariables false
set_option maxRecDepth 100000
theorem own : ownKnob Try.prog.godebug = none := by kernel_rfl
theorem laidOut : laidOutB Try.prog = true := by kernel_rfl
set_option maxHeartbeats 2000000 in
theorem walk {H : Type} (enc : TypeId × Value → H) (W : World) (base : Nat) (v0 : Value) (d0 : DataW H) (p0 : List MemPlace) (hv0 : Value.okWide Try.prog W .any base 26 v0)
    (h0 : DataW.Trod enc Try.prog W 0 (fun _ => true) true 26 v0 d0 p0) (_ : ∀ x ∈ p0, x.block < W.heap.size) (v1 : Value) (d1 : DataW H) (p1 : List MemPlace) (hv1 : Value.okWide Try.prog W .any base 22 v1)
    (h1 : DataW.Trod enc Try.prog W 0 (fun _ => true) true 22 v1 d1 p1) (_ : ∀ x ∈ p1, x.block < W.heap.size) :
    Calls Try.prog 6 #[v0, v1] W fun e w' => e = .returned (.bool true) ∧ Below W.heap.size W w' := by
  obtain ⟨A0, n0, c0, Fs0, rfl, hn0, hc0, hlst0, hsm0⟩ := open_factors hv0 h0
  obtain ⟨A1, n1, c1, ds1, rfl, hn1, hc1, hlst1⟩ := open_intl hv1 h1
  clear hv0 h0 hv1 h1
  have hH0 := Lib.hid hlst0
  have hSm0 := Lib.hid hsm0
  clear hsm0
  have hL0 := Lib.hid hlst0.1
  have hnm0 := Lib.hid (Nat.le_trans hn0 hc0)
  have hnn0 : n0 ≤ 9223372036854775807 := by unfold maxLen at hc0; omega
  clear hlst0 hn0 hc0
  have hH1 := Lib.hid hlst1
  have hL1 := Lib.hid hlst1.1
  have hnm1 := Lib.hid (Nat.le_trans hn1 hc1)
  have hnn1 : n1 ≤ 9223372036854775807 := by unfold maxLen at hc1; omega
  clear hlst1 hn1 hc1
  by_cases hbig1 : n1 ≤ 1048576
  rotate_left
  · have hbig1' : 1048576 < n1 := by omega
    go_enter Try.func6, Try.ntmps6
    go_wp2_with fail
    go_ret
    exact ⟨rfl, Below.refl _ _⟩
  by_cases hsz0 : n0 + offF Fs0 n0 ≤ 1048576
  rotate_left
  · go_enter Try.func6, Try.ntmps6
    go_wp2_with fail
    refine (szFactorS_no A0 n0 c0 Fs0 _ hH0.out hSm0.out hnm0.out (by omega)).mono ?_
    rintro e wx0_0 ⟨rfl, hbx0_0⟩
    have hby0_0 : Below W.heap.size W wx0_0 := hbx0_0
    go_wp2_with fail
    go_ret
    exact ⟨rfl, hby0_0⟩
  have hbig0 : n0 ≤ 1048576 := by omega
  have hbd0 := offF_small (Fs := Fs0) (N := 1048576) (by rw [hL0.out]; omega)
  have hof0 : offs (rowsF Fs0) (n0 * 2) ≤ 1048576 := by rw [offs_offF (by rw [hL0.out]; exact Nat.le_refl _)]; omega
  have cS := Lib.hid (fun A B wx (hx : FLst0 wx wx.heap.size A n0 Fs0) (hy : Ils wx wx.heap.size B n1 ds1) => specWidthOf_any A B n0 n0 n1 n1 Fs0 ds1 wx hx hnm0.out hSm0.out hy (Nat.le_refl _) hnm1.out)
  have cI := Lib.hid (fun A B wx (hx : FLst0 wx wx.heap.size A n0 Fs0) (hy : Ils wx wx.heap.size B n1 ds1) => WidthOf_any A B n0 n0 n1 n1 Fs0 ds1 wx hx.1 hnm0.out hSm0.out hy hnm1.out)
  generalize widthTo Fs0 ds1 = bb at cS cI
  go_enter Try.func6, Try.ntmps6
  go_wp2_with fail
  refine (szFactorS_yes A0 n0 c0 Fs0 _ hH0.out hSm0.out hnm0.out (by omega)).mono ?_
  rintro e w1 ⟨rfl, hb1⟩
  have hB1 : Below W.heap.size W w1 := (Below.refl W.heap.size W).trans (hb1.mono (Below.refl W.heap.size W).size)
  have hz1 := hb1.size
  have hy1 := hB1.size
  clear hb1
  go_wp2_with fail
  refine (toFactorS_own A0 n0 c0 Fs0 _ ((hH0.out.below hB1).more hB1.size) hbd0 hbig0).mono ?_
  rintro e w2 ⟨g2, vs2, rfl, pl2, ha2, hb2⟩
  have hB2 : Below W.heap.size W w2 := hB1.trans (hb2.mono hB1.size)
  have hz2 := hb2.size
  have hy2 := hB2.size
  have cp0_2 := Lib.hid pl2
  have ha_cp0 := Lib.hid ha2
  clear pl2 hb2 ha2
  go_wp2_with fail
  refine (toIntS_own A1 n1 c1 ds1 _ ((hH1.out.below hB2).more hB2.size) hbig1).mono ?_
  rintro e w3 ⟨g3, rfl, pl3, hb3⟩
  have hB3 : Below W.heap.size W w3 := hB2.trans (hb3.mono hB2.size)
  have hz3 := hb3.size
  have hy3 := hB3.size
  have cp0_3 := Lib.hid (cp0_2.out.below hb3)
  clear cp0_2
  have cp1_3 := Lib.hid pl3
  clear pl3 hb3
  go_wp2_with fail
  refine (cS.out _ _ _ (RowsF.flst0 cp0_3.out.1.1 hL0.out) (ownI_lst cp1_3.out.1.1)).mono ?_
  rintro e w4 ⟨rfl, hb⟩
  have hB4 : Below W.heap.size W w4 := hB3.trans (hb.mono hB3.size)
  have hz4 := hb.size
  have hy4 := hB4.size
  have cp0_4 := Lib.hid (cp0_3.out.below hb)
  clear cp0_3
  have cp1_4 := Lib.hid (cp1_3.out.below hb)
  clear cp1_3
  clear hb
  clear cp0_4
  clear cp1_4
  go_wp2_with fail
  refine (toFactorS_own A0 n0 c0 Fs0 _ ((hH0.out.below hB4).more hB4.size) hbd0 hbig0).mono ?_
  rintro e w5 ⟨g5, vs5, rfl, pl5, ha5, hb5⟩
  have hB5 : Below W.heap.size W w5 := hB4.trans (hb5.mono hB4.size)
  have hz5 := hb5.size
  have hy5 := hB5.size
  have x0_5 := Lib.hid pl5
  have ha_x0 := Lib.hid ha5
  clear pl5 hb5 ha5
  go_wp2_with fail
  refine (toIntS_own A1 n1 c1 ds1 _ ((hH1.out.below hB5).more hB5.size) hbig1).mono ?_
  rintro e w6 ⟨g6, rfl, pl6, hb6⟩
  have hB6 : Below W.heap.size W w6 := hB5.trans (hb6.mono hB5.size)
  have hz6 := hb6.size
  have hy6 := hB6.size
  have x0_6 := Lib.hid (x0_5.out.below hb6)
  clear x0_5
  have x1_6 := Lib.hid pl6
  clear pl6 hb6
  go_wp2_with fail
  refine (cI.out _ _ _ (RowsF.flst0 x0_6.out.1.1 hL0.out) (ownI_lst x1_6.out.1.1)).mono ?_
  rintro e w7 ⟨rfl, hb⟩
  have hB7 : Below W.heap.size W w7 := hB6.trans (hb.mono hB6.size)
  have hz7 := hb.size
  have hy7 := hB7.size
  have x0_7 := Lib.hid (x0_6.out.below hb)
  clear x0_6
  have x1_7 := Lib.hid (x1_6.out.below hb)
  clear x1_6
  clear hb
  go_wp2_with fail
  refine (toFactorS_own A0 n0 c0 Fs0 _ ((hH0.out.below hB7).more hB7.size) hbd0 hbig0).mono ?_
  rintro e w8 ⟨g8, vs8, rfl, pl8, ha8, hb8⟩
  have hB8 : Below W.heap.size W w8 := hB7.trans (hb8.mono hB7.size)
  have hz8 := hb8.size
  have hy8 := hB8.size
  have x0_8 := Lib.hid (x0_7.out.below hb8)
  clear x0_7
  have x1_8 := Lib.hid (x1_7.out.below hb8)
  clear x1_7
  have tmp_8 := Lib.hid pl8
  have ha_tmp := Lib.hid ha8
  clear pl8 hb8 ha8
  go_wp2_with fail
  refine (eqFactorS_same (some ⟨g5, 0, none⟩) (some ⟨g8, 0, none⟩) n0 n0 n0 Fs0 _ (RowsF.flst x0_8.out.1.1 hL0.out) (RowsF.flst tmp_8.out.1.1 hL0.out) hSm0.out (by unfold maxLen; omega)).mono ?_
  rintro e w9 ⟨rfl, hb9⟩
  have hB9 : Below W.heap.size W w9 := hB8.trans (hb9.mono hB8.size)
  have hz9 := hb9.size
  have hy9 := hB9.size
  have x0_9 := Lib.hid (x0_8.out.below hb9)
  clear x0_8
  have x1_9 := Lib.hid (x1_8.out.below hb9)
  clear x1_8
  have tmp_9 := Lib.hid (tmp_8.out.below hb9)
  clear tmp_8
  clear hb9
  clear tmp_9
  go_wp2_with fail
  refine (toIntS_own A1 n1 c1 ds1 _ ((hH1.out.below hB9).more hB9.size) hbig1).mono ?_
  rintro e w10 ⟨g10, rfl, pl10, hb10⟩
  have hB10 : Below W.heap.size W w10 := hB9.trans (hb10.mono hB9.size)
  have hz10 := hb10.size
  have hy10 := hB10.size
  have x0_10 := Lib.hid (x0_9.out.below hb10)
  clear x0_9
  have x1_10 := Lib.hid (x1_9.out.below hb10)
  clear x1_9
  have tmp_10 := Lib.hid pl10
  clear pl10 hb10
  go_wp2_with fail
  refine (eqIntS_same (some ⟨g6, 0, none⟩) (some ⟨g10, 0, none⟩) n1 n1 n1 ds1 _ (ownI_lst x1_10.out.1.1) (ownI_lst tmp_10.out.1.1) (by unfold maxLen; omega)).mono ?_
  rintro e w11 ⟨rfl, q11, hq11⟩
  have hb11 : Below w10.heap.size w10 w11 := by rw [hq11]; exact below_drewN (Below.refl _ _) _
  clear hq11
  have hB11 : Below W.heap.size W w11 := hB10.trans (hb11.mono hB10.size)
  have hz11 := hb11.size
  have hy11 := hB11.size
  have x0_11 := Lib.hid (x0_10.out.below hb11)
  clear x0_10
  have x1_11 := Lib.hid (x1_10.out.below hb11)
  clear x1_10
  have tmp_11 := Lib.hid (tmp_10.out.below hb11)
  clear tmp_10
  clear hb11
  clear tmp_11
  go_wp2_with fail
  go_ret
  exact ⟨rfl, hB11⟩
set_option maxRecDepth 100000 in
theorem lifted (os : Os) (started : os.Started) (H : Type) (enc : TypeId × Value → H) :
    ReturnsInHanded {} Try.checked os 6 .any (Rows.fnExactWidthOfSpec.pre6 enc Try.prog Try.f6 Rows.fnExactWidthOfRow.domain false) (Rows.fnExactWidthOfSpec.post enc Try.prog Try.f6 false true false false) := by
  refine returnsInHanded_of_change (C := Try.checked) own started (by kernel_rfl) Try.func6
    (ChangeSpec.witness6 (enc := enc) (C := Try.checked) false ⟨#[], #[.slice none 0 0, .slice none 0 0], []⟩ 8 (by kernel_rfl) (by kernel_rfl) (by kernel_rfl) (by kernel_rfl)) ?_
  intro W base args ds gs before hval0 hW hcnd _
  have hval : ∀ (j : Nat) t v, Try.f6.params[j]? = some t → args[j]? = some v → Value.okWide Try.prog W .any base t v := hval0
  have hW' := hW
  obtain ⟨p, q, hA0, hV, rfl, hfz, hnd⟩ := hW
  have hA : DataW.TrodAll enc Try.prog W 0 (fun _ => true) true Try.f6.params.toList args.toList ds p := hA0
  rw [Try.params6] at hA hval
  obtain ⟨v0, vs0, d0, ds0, p0, q0, hargs, rfl, rfl, h0, r0⟩ := trodAll_cons hA
  obtain ⟨v1, vs1, d1, ds1, p1, q1, rfl, rfl, rfl, h1, r1⟩ := trodAll_cons r0
  obtain ⟨rfl, rfl, rfl⟩ := trodAll_nil r1
  obtain rfl : args = #[v0, v1] := by cases args; simp_all
  obtain ⟨rfl, rfl⟩ := trodVars_none hV
  have lt0 : ∀ x ∈ p0, x.block < W.heap.size := by
    obtain ⟨m, hm⟩ := h0
    exact DataW.trod_lt m _ _ _ hm
  have lt1 : ∀ x ∈ p1, x.block < W.heap.size := by
    obtain ⟨m, hm⟩ := h1
    exact DataW.trod_lt m _ _ _ hm
  clear hA0 hval0
  refine (walk enc W base v0 d0 p0 (hval 0 26 v0 rfl rfl) h0 lt0 v1 d1 p1 (hval 1 22 v1 rfl rfl) h1 lt1).mono fun e W' ⟨he, bel⟩ => ?_
  subst he
  exact ⟨_, rfl, _, _, _, [], _, [], hW', trodAll_mk1 (shut_bool Try.underlying4 _), (trodAll_cons_mk (Below.trod laidOut (by kernel_rfl) (of_decide_eq_true (by kernel_rfl)) h0 bel lt0) (trodAll_cons_mk (Below.trod laidOut (by kernel_rfl) (of_decide_eq_true (by kernel_rfl)) h1 bel lt1) trodAll_mk0)), rfl, bel.frame _, fun h => by cases h⟩
theorem proved : Rows.FnExactWidthOfSaid :=
  OpenClaim.holds_of_wide 6 Try.f6 rfl rfl rfl rfl rfl rfl rfl ⟨rfl, rfl, rfl, rfl, rfl⟩ rfl rfl rfl rfl rfl (by kernel_rfl) Try.func6 (by kernel_rfl)
    (of_decide_eq_true (by kernel_rfl)) (by unfold Func.isWrapper; first | (rw [if_pos (by decide +kernel)]; kernel_rfl) | (rw [if_neg (by decide +kernel)]; exact ⟨rfl, rfl⟩))
    (fun os started H enc _ => lifted os started H enc)
end Go.Proofs.Ytaipdkfbkcknkaa.fnExactWidthOf
