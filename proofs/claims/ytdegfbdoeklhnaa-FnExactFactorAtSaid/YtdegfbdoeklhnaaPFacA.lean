/- For every factor of at most 2^20 numbers and every number the program's FactorAt returns what the model's returns, and leaves its argument as it is; longer factors are passed over by the law itself. No condition. -/
import Derived.Test.YtdegfbdoeklhnaaRows
import Derived.Test.YtdegfbdoeklhnaaFl
import Derived.Test.YtdegfbdoeklhnaaFO
import Derived.Test.YtdegfbdoeklhnaaNm
import Derived.Test.YtdegfbdoeklhnaaKt
import Derived.ProofKit
import Derived.OpenShut
import Derived.ShutString
import Derived.ChangeOld
import Derived.Below
namespace Go.Proofs.Ytdegfbdoeklhnaa.fnExactFactorAt
open Go.ChangeShapes Go.WideShapes Go.ChangeAt Go.RowKit 
set_option linter.unusedVariables false
set_option maxRecDepth 100000

theorem own : ownKnob Try.prog.godebug = none := by kernel_rfl
theorem laidOut : laidOutB Try.prog = true := by kernel_rfl

set_option maxHeartbeats 2000000 in
theorem walk {H : Type} (enc : TypeId × Value → H) (W : World) (base : Nat) (v0 : Value) (d0 : DataW H) (p0 : List MemPlace) (hv0 : Value.okWide Try.prog W .any base 24 v0)
    (h0 : DataW.Trod enc Try.prog W 0 (fun _ => true) true 24 v0 d0 p0) (_ : ∀ x ∈ p0, x.block < W.heap.size) (v1 : Value) (d1 : DataW H) (p1 : List MemPlace) (hv1 : Value.okWide Try.prog W .any base 3 v1)
    (h1 : DataW.Trod enc Try.prog W 0 (fun _ => true) true 3 v1 d1 p1) (_ : ∀ x ∈ p1, x.block < W.heap.size) :
    Calls Try.prog 4 #[v0, v1] W fun e w' => e = .returned (.bool true) ∧ Below W.heap.size W w' := by
  obtain ⟨A0, n0, c0, B0, m0, e0, F0, rfl, hn0, hc0, hp0, hq0, hlst0⟩ := open_factor hv0 h0
  obtain ⟨x1, rfl⟩ : ∃ x : Int, v1 = .int .i64 x := okWide_int Try.underlying3 hv1
  clear hv0 h0 hv1 h1
  have hH0 := Lib.hid hlst0
  have hM0 := Lib.hid (Nat.le_trans hp0 hq0)
  have hmn0 : m0 ≤ 9223372036854775807 := by unfold maxLen at hq0; omega
  clear hp0 hq0
  have hnm0 := Lib.hid (Nat.le_trans hn0 hc0)
  have hnn0 : n0 ≤ 9223372036854775807 := by unfold maxLen at hc0; omega
  clear hlst0 hn0 hc0
  have hBf0 : Below W.heap.size W (W.alloc (.cells #[.slice A0 n0 c0, .slice B0 m0 e0] 24)) := (Below.refl W.heap.size W).alloc (by simp) _
  have bf0 := Lib.hid (Has.newAt (w := W) (n := W.heap.size) (t := 24) (cs := #[.slice A0 n0 c0, .slice B0 m0 e0]) (by simp))
  have hzE : (W.alloc (.cells #[.slice A0 n0 c0, .slice B0 m0 e0] 24)).heap.size = W.heap.size + 1 := by simp
  have hcE0 := bf0.out.cell
  by_cases hsz0 : n0 + m0 ≤ 1048576
  rotate_left
  · go_enter Try.func4, Try.ntmps4
    go_wp2_with fail
    refine (szFactor_no A0 B0 n0 c0 m0 e0 (1048576 : Int) _ hnm0.out hM0.out (by omega) (by omega) (by omega)).mono ?_
    rintro e wx0_0 ⟨rfl, hbx0_0⟩
    have hby0_0 : Below W.heap.size W wx0_0 := hBf0.trans (hbx0_0.mono hBf0.size)
    go_wp2_with fail
    go_ret
    exact ⟨rfl, hby0_0⟩
  have hbig0 : n0 ≤ 1048576 := by omega
  have hbgm0 : m0 ≤ 1048576 := by omega
  have cS := Lib.hid (fun A B wx (hx : FacW wx wx.heap.size A n0 B m0 F0) => specFactorAt_any A B n0 n0 m0 m0 F0 x1 wx hx hnm0.out hM0.out)
  have cI := Lib.hid (fun A B wx (hx : FacW wx wx.heap.size A n0 B m0 F0) => FactorAt_any A B n0 n0 m0 m0 F0 x1 wx hx hnm0.out hM0.out)
  generalize fAtTo F0 x1 = bb at cS cI
  go_enter Try.func4, Try.ntmps4
  go_wp2_with fail
  refine (szFactor_yes A0 B0 n0 c0 m0 e0 (1048576 : Int) _ hnm0.out hM0.out (by omega) (by omega)).mono ?_
  rintro e w1 ⟨rfl, hb1⟩
  have hB1 : Below W.heap.size W w1 := hBf0.trans (hb1.mono hBf0.size)
  have hz1 := hb1.size
  have hy1 := hB1.size
  have bf0_1 := Lib.hid (Has.kept (by exact bf0.out) hb1)
  clear bf0
  have hc_bf0 := bf0_1.out.cell
  clear hb1
  go_wp2_with fail
  refine (toFactor_own A0 B0 n0 c0 m0 e0 F0 _ (hH0.out.below hB1) hbig0 hbgm0).mono ?_
  rintro e w2 ⟨g2, qg2, rfl, pl2, hne2, hb2⟩
  have hB2 : Below W.heap.size W w2 := hB1.trans (hb2.mono hB1.size)
  have hz2 := hb2.size
  have hy2 := hB2.size
  have bf0_2 := Lib.hid (Has.kept (by exact bf0_1.out) hb2)
  clear bf0_1
  clear hc_bf0
  have hc_bf0 := bf0_2.out.cell
  have cp0_2 := Lib.hid pl2
  clear pl2 hb2 hne2
  go_wp2_with fail
  refine (cS.out _ _ _ (FcB.fac cp0_2.out.1)).mono ?_
  rintro e w3 ⟨rfl, hb⟩
  have hB3 : Below W.heap.size W w3 := hB2.trans (hb.mono hB2.size)
  have hz3 := hb.size
  have hy3 := hB3.size
  have cp0_3 := Lib.hid (cp0_2.out.below hb)
  clear cp0_2
  have bf0_3 := Lib.hid (Has.kept (by exact bf0_2.out) hb)
  clear bf0_2
  clear hc_bf0
  have hc_bf0 := bf0_3.out.cell
  clear hb
  clear cp0_3
  go_wp2_with fail
  refine (toFactor_own A0 B0 n0 c0 m0 e0 F0 _ (hH0.out.below hB3) hbig0 hbgm0).mono ?_
  rintro e w4 ⟨g4, qg4, rfl, pl4, hne4, hb4⟩
  have hB4 : Below W.heap.size W w4 := hB3.trans (hb4.mono hB3.size)
  have hz4 := hb4.size
  have hy4 := hB4.size
  have bf0_4 := Lib.hid (Has.kept (by exact bf0_3.out) hb4)
  clear bf0_3
  clear hc_bf0
  have hc_bf0 := bf0_4.out.cell
  have x0_4 := Lib.hid pl4
  have hd_x0 := Lib.hid (slices_apart (n := n0) (c := n0) (m := m0) (d := m0) hne4)
  clear pl4 hb4 hne4
  have hb5 : Below w4.heap.size w4 (w4.alloc (.cells #[.slice (some ⟨g4, 0, none⟩) n0 n0, .slice (some ⟨qg4, 0, none⟩) m0 m0] 27)) := (Below.refl _ _).alloc (Nat.le_refl _) _
  have hsz5 : (w4.alloc (.cells #[.slice (some ⟨g4, 0, none⟩) n0 n0, .slice (some ⟨qg4, 0, none⟩) m0 m0] 27)).heap.size = w4.heap.size + 1 := by simp
  have cx0_n := Lib.hid (Has.new w4 27 #[.slice (some ⟨g4, 0, none⟩) n0 n0, .slice (some ⟨qg4, 0, none⟩) m0 m0])
  have hB5 : Below W.heap.size W (w4.alloc (.cells #[.slice (some ⟨g4, 0, none⟩) n0 n0, .slice (some ⟨qg4, 0, none⟩) m0 m0] 27)) := hB4.trans (hb5.mono hB4.size)
  have hz5 := hb5.size
  have hy5 := hB5.size
  have x0_5 := Lib.hid (x0_4.out.below hb5)
  clear x0_4
  have bf0_5 := Lib.hid (Has.kept (by exact bf0_4.out) hb5)
  clear bf0_4
  clear hc_bf0
  have hc_bf0 := bf0_5.out.cell
  clear hc_bf0
  have hc_bf0 := bf0_5.out.cell
  have hc_cx0 := cx0_n.out.cell
  clear hb5
  go_wp2_with fail
  refine (cI.out _ _ _ (FcB.fac x0_5.out.1)).mono ?_
  rintro e w6 ⟨rfl, hb⟩
  have hB6 : Below W.heap.size W w6 := hB5.trans (hb.mono hB5.size)
  have hz6 := hb.size
  have hy6 := hB6.size
  have x0_6 := Lib.hid (x0_5.out.below hb)
  clear x0_5
  have bf0_6 := Lib.hid (Has.kept (by exact bf0_5.out) hb)
  clear bf0_5
  have cx0_6 := Lib.hid (Has.kept (by exact cx0_n.out) hb)
  clear cx0_n
  clear hc_bf0
  clear hc_cx0
  have hc_bf0 := bf0_6.out.cell
  have hc_cx0 := cx0_6.out.cell
  clear hb
  have hOk := Lib.hid (fun (wx : World) (hx : Below w6.heap.size w6 wx) => (show Below w6.heap.size w6 wx ∧ wx.cell? ⟨W.heap.size, 0, none⟩ = some (.slice A0 n0 c0) ∧ wx.cell? ⟨W.heap.size, 1, none⟩ = some (.slice B0 m0 e0) ∧ wx.cell? ⟨w4.heap.size, 0, none⟩ = some (.slice (some ⟨g4, 0, none⟩) n0 n0) ∧ wx.cell? ⟨w4.heap.size, 1, none⟩ = some (.slice (some ⟨qg4, 0, none⟩) m0 m0) from ⟨hx, (Has.kept (by exact bf0_6.out) hx).cell 0, (Has.kept (by exact bf0_6.out) hx).cell 1, (Has.kept (by exact cx0_6.out) hx).cell 0, (Has.kept (by exact cx0_6.out) hx).cell 1⟩))
  have cT := Lib.hid (fun (wx : World) (hx : Below w6.heap.size w6 wx) => toFactor_own A0 B0 n0 c0 m0 e0 F0 wx (hH0.out.below (hB6.trans (hx.mono hB6.size))) hbig0 hbgm0)
  have hX := Lib.hid (fun (wx : World) (hx : Below w6.heap.size w6 wx) => FcB.fac (x0_6.out.below hx).1)
  have hM := Lib.hid (show n0 ≤ maxLen ∧ m0 ≤ maxLen by unfold maxLen; omega)
  go_wp2_with fail
  clear hc_bf0
  clear hc_cx0
  obtain ⟨_, hc0e, hc1e, hc2e, hc3e⟩ := hOk.out w6 (Below.refl _ _)
  go_region_held3 (fun wx => Below w6.heap.size w6 wx ∧ wx.cell? ⟨W.heap.size, 0, none⟩ = some (.slice A0 n0 c0) ∧ wx.cell? ⟨W.heap.size, 1, none⟩ = some (.slice B0 m0 e0) ∧ wx.cell? ⟨w4.heap.size, 0, none⟩ = some (.slice (some ⟨g4, 0, none⟩) n0 n0) ∧ wx.cell? ⟨w4.heap.size, 1, none⟩ = some (.slice (some ⟨qg4, 0, none⟩) m0 m0)) (first | exact hOk.out _ ((Below.refl _ _).drew) | exact hOk.out _ (Below.refl _ _) | exact hOk.out _ (bt6 (by assumption) hbr) | exact hOk.out _ (bt6 (by assumption) hbq) | exact hOk.out _ (bs6 (by assumption)) | exact hOk.out _ (bd6 (by assumption)) | go_keep) (first | (go_at_call 17; refine (cT.out _ (And.left (by assumption))).mono ?_; rintro e q ⟨g7, qg7, rfl, pl7, hne7, hbq⟩) | (go_at_call 19; refine (eqFactor_same _ _ _ _ n0 n0 m0 m0 n0 n0 m0 m0 F0 _ (hX.out _ (And.left (by assumption))) (FcB.fac pl7.1) hM.out.1 hM.out.2).mono ?_; rintro e w8 ⟨rfl, hbr⟩))
  rename_i hHeld
  have hb8 := hHeld.1
  clear hHeld hOk cT hX hM hc0e hc1e hc2e hc3e hbr hbq pl7 hne7
  have hB8 : Below W.heap.size W w8 := hB6.trans (hb8.mono hB6.size)
  have hz8 := hb8.size
  have hy8 := hB8.size
  have x0_8 := Lib.hid (x0_6.out.below hb8)
  clear x0_6
  have bf0_8 := Lib.hid (Has.kept (by exact bf0_6.out) hb8)
  clear bf0_6
  have cx0_8 := Lib.hid (Has.kept (by exact cx0_6.out) hb8)
  clear cx0_6
  have hc_bf0 := bf0_8.out.cell
  have hc_cx0 := cx0_8.out.cell
  clear hb8
  go_wp2_with fail
  go_ret
  exact ⟨rfl, hB8⟩

set_option maxRecDepth 100000 in
theorem lifted (os : Os) (started : os.Started) (H : Type) (enc : TypeId × Value → H) :
    ReturnsInHanded {} Try.checked os 4 .any (Rows.fnExactFactorAtSpec.pre6 enc Try.prog Try.f4 Rows.fnExactFactorAtRow.domain false) (Rows.fnExactFactorAtSpec.post enc Try.prog Try.f4 false true false false) := by
  refine returnsInHanded_of_change (C := Try.checked) own started (by kernel_rfl) Try.func4
    (ChangeSpec.witness6 (enc := enc) (C := Try.checked) false ⟨#[], #[.agg #[.slice none 0 0, .slice none 0 0], .int .i64 0], []⟩ 8 (by kernel_rfl) (by kernel_rfl) (by kernel_rfl) (by kernel_rfl)) ?_
  intro W base args ds gs before hval0 hW hcnd _
  have hval : ∀ (j : Nat) t v, Try.f4.params[j]? = some t → args[j]? = some v → Value.okWide Try.prog W .any base t v := hval0
  have hW' := hW
  obtain ⟨p, q, hA0, hV, rfl, hfz, hnd⟩ := hW
  have hA : DataW.TrodAll enc Try.prog W 0 (fun _ => true) true Try.f4.params.toList args.toList ds p := hA0
  rw [Try.params4] at hA hval
  obtain ⟨v0, vs0, d0, ds0, p0, q0, hargs, rfl, rfl, h0, r0⟩ := trodAll_cons hA
  obtain ⟨v1, vs1, d1, ds1, p1, q1, rfl, rfl, rfl, h1, r1⟩ := trodAll_cons r0
  obtain ⟨rfl, rfl, rfl⟩ := trodAll_nil r1
  obtain rfl : args = #[v0, v1] := by cases args; simp_all
  obtain ⟨rfl, rfl⟩ := trodVars_none hV
  have lt0 : ∀ x ∈ p0, x.block < W.heap.size := by
    obtain ⟨m, hm⟩ := h0
    exact DataW.trod_lt m _ _ _ hm
  have lt1 : ∀ x ∈ p1, x.block < W.heap.size := by
    obtain ⟨m, hm⟩ := h1
    exact DataW.trod_lt m _ _ _ hm
  clear hA0 hval0
  refine (walk enc W base v0 d0 p0 (hval 0 24 v0 rfl rfl) h0 lt0 v1 d1 p1 (hval 1 3 v1 rfl rfl) h1 lt1).mono fun e W' ⟨he, bel⟩ => ?_
  subst he
  exact ⟨_, rfl, _, _, _, [], _, [], hW', trodAll_mk1 (shut_bool Try.underlying4 _), (trodAll_cons_mk (Below.trod laidOut (by kernel_rfl) (of_decide_eq_true (by kernel_rfl)) h0 bel lt0) (trodAll_cons_mk (Below.trod laidOut (by kernel_rfl) (of_decide_eq_true (by kernel_rfl)) h1 bel lt1) trodAll_mk0)), rfl, bel.frame _, fun h => by cases h⟩

theorem proved : Rows.FnExactFactorAtSaid :=
  OpenClaim.holds_of_wide 4 Try.f4 rfl rfl rfl rfl rfl rfl rfl ⟨rfl, rfl, rfl, rfl, rfl⟩ rfl rfl rfl rfl rfl (by kernel_rfl) Try.func4 (by kernel_rfl)
    (of_decide_eq_true (by kernel_rfl)) (by unfold Func.isWrapper; first | (rw [if_pos (by decide +kernel)]; kernel_rfl) | (rw [if_neg (by decide +kernel)]; exact ⟨rfl, rfl⟩))
    (fun os started H enc _ => lifted os started H enc)
end Go.Proofs.Ytdegfbdoeklhnaa.fnExactFactorAt
