/- For every list of factors that together with their numbers are at most 2^20 the program's TreeOk returns what the model's returns, leaves its argument as it is; longer lists are passed over by the law itself. No condition. -/
import Derived.Test.YtdpeaabdpolmoaaRows
import Derived.ProofKit
import Derived.OpenShut
import Derived.ShutString
import Derived.ChangeOld
import Derived.Below
import Derived.Test.YtdpeaabdpolmoaaZAI
import Derived.Test.YtdpeaabdpolmoaaZAS
import Derived.Test.YtdpeaabdpolmoaaZAX
import Derived.Test.YtdpeaabdpolmoaaZAB
import Derived.Test.YtdpeaabdpolmoaaZAA
namespace Go.Proofs.Ytdpeaabdpolmoaa.fnExactTreeOk
open Go.ChangeShapes Go.WideShapes Go.ChangeAt Go.RowKit
set_option linter.unusedVariables false
set_option maxRecDepth 100000
theorem own : ownKnob Try.prog.godebug = none := by kernel_rfl
theorem laidOut : laidOutB Try.prog = true := by kernel_rfl
set_option maxHeartbeats 2000000 in
theorem walk {H : Type} (enc : TypeId × Value → H) (W : World) (base : Nat) (v0 : Value) (d0 : DataW H) (p0 : List MemPlace) (hv0 : Value.okWide Try.prog W .any base 22 v0)
    (h0 : DataW.Trod enc Try.prog W 0 (fun _ => true) true 22 v0 d0 p0) (_ : ∀ x ∈ p0, x.block < W.heap.size) :
    Calls Try.prog 3 #[v0] W fun e w' => e = .returned (.bool true) ∧ Below W.heap.size W w' := by
  obtain ⟨A0, n0, c0, Fs0, rfl, hn0, hc0, hlst0, hsm0⟩ := open_factors hv0 h0
  clear hv0 h0
  have hH0 := Lib.hid hlst0
  have hSm0 := Lib.hid hsm0
  clear hsm0
  have hL0 := Lib.hid hlst0.1
  have hnm0 := Lib.hid (Nat.le_trans hn0 hc0)
  have hnn0 : n0 ≤ 9223372036854775807 := by unfold maxLen at hc0; omega
  clear hlst0 hn0 hc0
  by_cases hsz0 : n0 + offF Fs0 n0 ≤ 1048576
  rotate_left
  · go_enter Try.func3, Try.ntmps3
    go_wp2_with fail
    refine (szFactorS_no A0 n0 c0 Fs0 _ hH0.out hSm0.out hnm0.out (by omega)).mono ?_
    rintro e wx0_0 ⟨rfl, hbx0_0⟩
    have hby0_0 : Below W.heap.size W wx0_0 := hbx0_0
    go_wp2_with fail
    go_ret
    exact ⟨rfl, hby0_0⟩
  have hbig0 : n0 ≤ 1048576 := by omega
  have hbd0 := offF_small (Fs := Fs0) (N := 1048576) (by rw [hL0.out]; omega)
  have hof0 : offs (rowsF Fs0) (n0 * 2) ≤ 1048576 := by rw [offs_offF (by rw [hL0.out]; exact Nat.le_refl _)]; omega
  have cS := Lib.hid (fun A wx (hx : FLst wx wx.heap.size A n0 Fs0) => specTreeOk_any A n0 n0 Fs0 wx hx hnm0.out hSm0.out)
  have cI := Lib.hid (fun A wx (hx : FLst wx wx.heap.size A n0 Fs0) => TreeOk_any A n0 n0 Fs0 wx hx hnm0.out hSm0.out)
  generalize treeOk Fs0 = bb at cS cI
  go_enter Try.func3, Try.ntmps3
  go_wp2_with fail
  refine (szFactorS_yes A0 n0 c0 Fs0 _ hH0.out hSm0.out hnm0.out (by omega)).mono ?_
  rintro e w1 ⟨rfl, hb1⟩
  have hB1 : Below W.heap.size W w1 := (Below.refl W.heap.size W).trans (hb1.mono (Below.refl W.heap.size W).size)
  have hz1 := hb1.size
  have hy1 := hB1.size
  clear hb1
  go_wp2_with fail
  refine (toFactorS_own A0 n0 c0 Fs0 _ ((hH0.out.below hB1).more hB1.size) hbd0 hbig0).mono ?_
  rintro e w2 ⟨g2, vs2, rfl, pl2, ha2, hb2⟩
  have hB2 : Below W.heap.size W w2 := hB1.trans (hb2.mono hB1.size)
  have hz2 := hb2.size
  have hy2 := hB2.size
  have cp0_2 := Lib.hid pl2
  have ha_cp0 := Lib.hid ha2
  clear pl2 hb2 ha2
  go_wp2_with fail
  refine (cS.out _ _ (RowsF.flst cp0_2.out.1.1 hL0.out)).mono ?_
  rintro e w3 ⟨rfl, hb⟩
  have hB3 : Below W.heap.size W w3 := hB2.trans (hb.mono hB2.size)
  have hz3 := hb.size
  have hy3 := hB3.size
  have cp0_3 := Lib.hid (cp0_2.out.below hb)
  clear cp0_2
  clear hb
  clear cp0_3
  go_wp2_with fail
  refine (toFactorS_own A0 n0 c0 Fs0 _ ((hH0.out.below hB3).more hB3.size) hbd0 hbig0).mono ?_
  rintro e w4 ⟨g4, vs4, rfl, pl4, ha4, hb4⟩
  have hB4 : Below W.heap.size W w4 := hB3.trans (hb4.mono hB3.size)
  have hz4 := hb4.size
  have hy4 := hB4.size
  have x0_4 := Lib.hid pl4
  have ha_x0 := Lib.hid ha4
  clear pl4 hb4 ha4
  go_wp2_with fail
  refine (cI.out _ _ (RowsF.flst x0_4.out.1.1 hL0.out)).mono ?_
  rintro e w5 ⟨rfl, hb⟩
  have hB5 : Below W.heap.size W w5 := hB4.trans (hb.mono hB4.size)
  have hz5 := hb.size
  have hy5 := hB5.size
  have x0_5 := Lib.hid (x0_4.out.below hb)
  clear x0_4
  clear hb
  go_wp2_with fail
  refine (toFactorS_own A0 n0 c0 Fs0 _ ((hH0.out.below hB5).more hB5.size) hbd0 hbig0).mono ?_
  rintro e w6 ⟨g6, vs6, rfl, pl6, ha6, hb6⟩
  have hB6 : Below W.heap.size W w6 := hB5.trans (hb6.mono hB5.size)
  have hz6 := hb6.size
  have hy6 := hB6.size
  have x0_6 := Lib.hid (x0_5.out.below hb6)
  clear x0_5
  have tmp_6 := Lib.hid pl6
  have ha_tmp := Lib.hid ha6
  clear pl6 hb6 ha6
  go_wp2_with fail
  refine (eqFactorS_same (some ⟨g4, 0, none⟩) (some ⟨g6, 0, none⟩) n0 n0 n0 Fs0 _ (RowsF.flst x0_6.out.1.1 hL0.out) (RowsF.flst tmp_6.out.1.1 hL0.out) hSm0.out (by unfold maxLen; omega)).mono ?_
  rintro e w7 ⟨rfl, hb7⟩
  have hB7 : Below W.heap.size W w7 := hB6.trans (hb7.mono hB6.size)
  have hz7 := hb7.size
  have hy7 := hB7.size
  have x0_7 := Lib.hid (x0_6.out.below hb7)
  clear x0_6
  have tmp_7 := Lib.hid (tmp_6.out.below hb7)
  clear tmp_6
  clear hb7
  clear tmp_7
  go_wp2_with fail
  go_ret
  exact ⟨rfl, hB7⟩
set_option maxRecDepth 100000 in
theorem lifted (os : Os) (started : os.Started) (H : Type) (enc : TypeId × Value → H) :
    ReturnsInHanded {} Try.checked os 3 .any (Rows.fnExactTreeOkSpec.pre6 enc Try.prog Try.f3 Rows.fnExactTreeOkRow.domain false) (Rows.fnExactTreeOkSpec.post enc Try.prog Try.f3 false true false false) := by
  refine returnsInHanded_of_change (C := Try.checked) own started (by kernel_rfl) Try.func3
    (ChangeSpec.witness6 (enc := enc) (C := Try.checked) false ⟨#[], #[.slice none 0 0], []⟩ 8 (by kernel_rfl) (by kernel_rfl) (by kernel_rfl) (by kernel_rfl)) ?_
  intro W base args ds gs before hval0 hW hcnd _
  have hval : ∀ (j : Nat) t v, Try.f3.params[j]? = some t → args[j]? = some v → Value.okWide Try.prog W .any base t v := hval0
  have hW' := hW
  obtain ⟨p, q, hA0, hV, rfl, hfz, hnd⟩ := hW
  have hA : DataW.TrodAll enc Try.prog W 0 (fun _ => true) true Try.f3.params.toList args.toList ds p := hA0
  rw [Try.params3] at hA hval
  obtain ⟨v0, vs0, d0, ds0, p0, q0, hargs, rfl, rfl, h0, r0⟩ := trodAll_cons hA
  obtain ⟨rfl, rfl, rfl⟩ := trodAll_nil r0
  obtain rfl : args = #[v0] := by cases args; simp_all
  obtain ⟨rfl, rfl⟩ := trodVars_none hV
  have lt0 : ∀ x ∈ p0, x.block < W.heap.size := by
    obtain ⟨m, hm⟩ := h0
    exact DataW.trod_lt m _ _ _ hm
  clear hA0 hval0
  refine (walk enc W base v0 d0 p0 (hval 0 22 v0 rfl rfl) h0 lt0).mono fun e W' ⟨he, bel⟩ => ?_
  subst he
  exact ⟨_, rfl, _, _, _, [], _, [], hW', trodAll_mk1 (shut_bool Try.underlying4 _), (trodAll_cons_mk (Below.trod laidOut (by kernel_rfl) (of_decide_eq_true (by kernel_rfl)) h0 bel lt0) trodAll_mk0), rfl, bel.frame _, fun h => by cases h⟩
theorem proved : Rows.FnExactTreeOkSaid :=
  OpenClaim.holds_of_wide 3 Try.f3 rfl rfl rfl rfl rfl rfl rfl ⟨rfl, rfl, rfl, rfl, rfl⟩ rfl rfl rfl rfl rfl (by kernel_rfl) Try.func3 (by kernel_rfl)
    (of_decide_eq_true (by kernel_rfl)) (by unfold Func.isWrapper; first | (rw [if_pos (by decide +kernel)]; kernel_rfl) | (rw [if_neg (by decide +kernel)]; exact ⟨rfl, rfl⟩))
    (fun os started H enc _ => lifted os started H enc)
end Go.Proofs.Ytdpeaabdpolmoaa.fnExactTreeOk
