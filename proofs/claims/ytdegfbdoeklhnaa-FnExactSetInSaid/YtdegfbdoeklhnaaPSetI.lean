/- For every factor of at most 2^20 numbers and every two numbers the program's SetIn returns what the model's returns, leaves its argument as it is, and hands back memory of its own; longer factors are passed over by the law itself. No condition. -/
import Derived.Test.YtdegfbdoeklhnaaRows
import Derived.Test.YtdegfbdoeklhnaaFl
import Derived.Test.YtdegfbdoeklhnaaGc
import Derived.Test.YtdegfbdoeklhnaaNm
import Derived.Test.YtdegfbdoeklhnaaKt
import Derived.ProofKit
import Derived.OpenShut
import Derived.ShutString
import Derived.ChangeOld
import Derived.Below
namespace Go.Proofs.Ytdegfbdoeklhnaa.fnExactSetIn
open Go.ChangeShapes Go.WideShapes Go.ChangeAt Go.RowKit 
set_option linter.unusedVariables false
set_option maxRecDepth 100000

theorem own : ownKnob Try.prog.godebug = none := by kernel_rfl
theorem laidOut : laidOutB Try.prog = true := by kernel_rfl

set_option maxHeartbeats 2000000 in
theorem walk {H : Type} (enc : TypeId × Value → H) (W : World) (base : Nat) (v0 : Value) (d0 : DataW H) (p0 : List MemPlace) (hv0 : Value.okWide Try.prog W .any base 24 v0)
    (h0 : DataW.Trod enc Try.prog W 0 (fun _ => true) true 24 v0 d0 p0) (_ : ∀ x ∈ p0, x.block < W.heap.size) (v1 : Value) (d1 : DataW H) (p1 : List MemPlace) (hv1 : Value.okWide Try.prog W .any base 3 v1)
    (h1 : DataW.Trod enc Try.prog W 0 (fun _ => true) true 3 v1 d1 p1) (_ : ∀ x ∈ p1, x.block < W.heap.size) (v2 : Value) (d2 : DataW H) (p2 : List MemPlace) (hv2 : Value.okWide Try.prog W .any base 3 v2)
    (h2 : DataW.Trod enc Try.prog W 0 (fun _ => true) true 3 v2 d2 p2) (_ : ∀ x ∈ p2, x.block < W.heap.size) :
    Calls Try.prog 7 #[v0, v1, v2] W fun e w' => e = .returned (.bool true) ∧ Below W.heap.size W w' := by
  obtain ⟨A0, n0, c0, B0, m0, e0, F0, rfl, hn0, hc0, hp0, hq0, hlst0⟩ := open_factor hv0 h0
  obtain ⟨x1, rfl⟩ : ∃ x : Int, v1 = .int .i64 x := okWide_int Try.underlying3 hv1
  obtain ⟨x2, rfl⟩ : ∃ x : Int, v2 = .int .i64 x := okWide_int Try.underlying3 hv2
  clear hv0 h0 hv1 h1 hv2 h2
  have hH0 := Lib.hid hlst0
  have hM0 := Lib.hid (Nat.le_trans hp0 hq0)
  have hmn0 : m0 ≤ 9223372036854775807 := by unfold maxLen at hq0; omega
  clear hp0 hq0
  have hnm0 := Lib.hid (Nat.le_trans hn0 hc0)
  have hnn0 : n0 ≤ 9223372036854775807 := by unfold maxLen at hc0; omega
  clear hlst0 hn0 hc0
  have hBf0 : Below W.heap.size W (W.alloc (.cells #[.slice A0 n0 c0, .slice B0 m0 e0] 24)) := (Below.refl W.heap.size W).alloc (by simp) _
  have bf0 := Lib.hid (Has.newAt (w := W) (n := W.heap.size) (t := 24) (cs := #[.slice A0 n0 c0, .slice B0 m0 e0]) (by simp))
  have hzE : (W.alloc (.cells #[.slice A0 n0 c0, .slice B0 m0 e0] 24)).heap.size = W.heap.size + 1 := by simp
  have hcE0 := bf0.out.cell
  by_cases hsz0 : n0 + m0 ≤ 1048576
  rotate_left
  · go_enter Try.func7, Try.ntmps7
    go_wp2_with fail
    refine (szFactor_no A0 B0 n0 c0 m0 e0 (1048576 : Int) _ hnm0.out hM0.out (by omega) (by omega) (by omega)).mono ?_
    rintro e wx0_0 ⟨rfl, hbx0_0⟩
    have hby0_0 : Below W.heap.size W wx0_0 := hBf0.trans (hbx0_0.mono hBf0.size)
    go_wp2_with fail
    go_ret
    exact ⟨rfl, hby0_0⟩
  have hbig0 : n0 ≤ 1048576 := by omega
  have hbgm0 : m0 ≤ 1048576 := by omega
  have cS := Lib.hid (fun A B wx (hx : FacW wx wx.heap.size A n0 B m0 F0) => specSetIn_any A B n0 n0 m0 m0 F0 x1 x2 wx hx hnm0.out hM0.out)
  have cI := Lib.hid (fun A B wx (hx : FacW wx wx.heap.size A n0 B m0 F0) => SetIn_any A B n0 n0 m0 m0 F0 x1 x2 wx hx hnm0.out hM0.out)
  obtain ⟨hrl, hrm⟩ := inTo_len F0 x1 x2
  unfold Fbd at cS cI
  generalize inTo F0 x1 x2 = os at hrl hrm cS cI
  generalize okIn F0 x1 x2 = bb at cS cI
  go_enter Try.func7, Try.ntmps7
  go_wp2_with fail
  refine (szFactor_yes A0 B0 n0 c0 m0 e0 (1048576 : Int) _ hnm0.out hM0.out (by omega) (by omega)).mono ?_
  rintro e w1 ⟨rfl, hb1⟩
  have hB1 : Below W.heap.size W w1 := hBf0.trans (hb1.mono hBf0.size)
  have hz1 := hb1.size
  have hy1 := hB1.size
  have bf0_1 := Lib.hid (Has.kept (by exact bf0.out) hb1)
  clear bf0
  have hc_bf0 := bf0_1.out.cell
  clear hb1
  go_wp2_with fail
  refine (toFactor_own A0 B0 n0 c0 m0 e0 F0 _ (hH0.out.below hB1) hbig0 hbgm0).mono ?_
  rintro e w2 ⟨g2, qg2, rfl, pl2, hne2, hb2⟩
  have hB2 : Below W.heap.size W w2 := hB1.trans (hb2.mono hB1.size)
  have hz2 := hb2.size
  have hy2 := hB2.size
  have bf0_2 := Lib.hid (Has.kept (by exact bf0_1.out) hb2)
  clear bf0_1
  clear hc_bf0
  have hc_bf0 := bf0_2.out.cell
  have cp0_2 := Lib.hid pl2
  clear pl2 hb2 hne2
  go_wp2_with fail
  refine (cS.out _ _ _ (FcB.fac cp0_2.out.1)).mono ?_
  rintro e w3 ⟨vS0, uS0, rfl, hoS0, hb⟩
  have hB3 : Below W.heap.size W w3 := hB2.trans (hb.mono hB2.size)
  have hz3 := hb.size
  have hy3 := hB3.size
  have cp0_3 := Lib.hid (cp0_2.out.below hb)
  clear cp0_2
  have bf0_3 := Lib.hid (Has.kept (by exact bf0_2.out) hb)
  clear bf0_2
  clear hc_bf0
  have hc_bf0 := bf0_3.out.cell
  obtain ⟨AS0, kS0, hv3, _, _⟩ := IOwn.form hoS0.1
  subst hv3
  obtain ⟨BS0, jS0, hv3, _, _⟩ := IOwn.form hoS0.2.1
  subst hv3
  have oS0_3 := Lib.hid (FcB.pl hoS0)
  clear hoS0
  clear hb
  have hb4 : Below w3.heap.size w3 (w3.alloc (.cells #[.slice AS0 os.vs.length kS0, .slice BS0 os.ns.length jS0] 27)) := (Below.refl _ _).alloc (Nat.le_refl _) _
  have hsz4 : (w3.alloc (.cells #[.slice AS0 os.vs.length kS0, .slice BS0 os.ns.length jS0] 27)).heap.size = w3.heap.size + 1 := by simp
  have coS0_n := Lib.hid (Has.new w3 27 #[.slice AS0 os.vs.length kS0, .slice BS0 os.ns.length jS0])
  have hB4 : Below W.heap.size W (w3.alloc (.cells #[.slice AS0 os.vs.length kS0, .slice BS0 os.ns.length jS0] 27)) := hB3.trans (hb4.mono hB3.size)
  have hz4 := hb4.size
  have hy4 := hB4.size
  have cp0_4 := Lib.hid (cp0_3.out.below hb4)
  clear cp0_3
  have oS0_4 := Lib.hid (oS0_3.out.below hb4)
  clear oS0_3
  have bf0_4 := Lib.hid (Has.kept (by exact bf0_3.out) hb4)
  clear bf0_3
  clear hc_bf0
  have hc_bf0 := bf0_4.out.cell
  clear hc_bf0
  have hc_bf0 := bf0_4.out.cell
  have hc_coS0 := coS0_n.out.cell
  clear hb4
  clear cp0_4
  go_wp2_with fail
  refine (toFactor_own A0 B0 n0 c0 m0 e0 F0 _ (hH0.out.below hB4) hbig0 hbgm0).mono ?_
  rintro e w5 ⟨g5, qg5, rfl, pl5, hne5, hb5⟩
  have hB5 : Below W.heap.size W w5 := hB4.trans (hb5.mono hB4.size)
  have hz5 := hb5.size
  have hy5 := hB5.size
  have oS0_5 := Lib.hid (oS0_4.out.below hb5)
  clear oS0_4
  have bf0_5 := Lib.hid (Has.kept (by exact bf0_4.out) hb5)
  clear bf0_4
  have coS0_5 := Lib.hid (Has.kept (by exact coS0_n.out) hb5)
  clear coS0_n
  clear hc_bf0
  clear hc_coS0
  have hc_bf0 := bf0_5.out.cell
  have hc_coS0 := coS0_5.out.cell
  have x0_5 := Lib.hid pl5
  have hd_x0 := Lib.hid (slices_apart (n := n0) (c := n0) (m := m0) (d := m0) hne5)
  clear pl5 hb5 hne5
  have hb6 : Below w5.heap.size w5 (w5.alloc (.cells #[.slice (some ⟨g5, 0, none⟩) n0 n0, .slice (some ⟨qg5, 0, none⟩) m0 m0] 27)) := (Below.refl _ _).alloc (Nat.le_refl _) _
  have hsz6 : (w5.alloc (.cells #[.slice (some ⟨g5, 0, none⟩) n0 n0, .slice (some ⟨qg5, 0, none⟩) m0 m0] 27)).heap.size = w5.heap.size + 1 := by simp
  have cx0_n := Lib.hid (Has.new w5 27 #[.slice (some ⟨g5, 0, none⟩) n0 n0, .slice (some ⟨qg5, 0, none⟩) m0 m0])
  have hB6 : Below W.heap.size W (w5.alloc (.cells #[.slice (some ⟨g5, 0, none⟩) n0 n0, .slice (some ⟨qg5, 0, none⟩) m0 m0] 27)) := hB5.trans (hb6.mono hB5.size)
  have hz6 := hb6.size
  have hy6 := hB6.size
  have oS0_6 := Lib.hid (oS0_5.out.below hb6)
  clear oS0_5
  have x0_6 := Lib.hid (x0_5.out.below hb6)
  clear x0_5
  have bf0_6 := Lib.hid (Has.kept (by exact bf0_5.out) hb6)
  clear bf0_5
  have coS0_6 := Lib.hid (Has.kept (by exact coS0_5.out) hb6)
  clear coS0_5
  clear hc_bf0
  clear hc_coS0
  have hc_bf0 := bf0_6.out.cell
  have hc_coS0 := coS0_6.out.cell
  clear hc_bf0
  clear hc_coS0
  have hc_bf0 := bf0_6.out.cell
  have hc_coS0 := coS0_6.out.cell
  have hc_cx0 := cx0_n.out.cell
  clear hb6
  go_wp2_with fail
  refine (cI.out _ _ _ (FcB.fac x0_6.out.1)).mono ?_
  rintro e w7 ⟨vI0, uI0, rfl, hoI0, hb⟩
  have hB7 : Below W.heap.size W w7 := hB6.trans (hb.mono hB6.size)
  have hz7 := hb.size
  have hy7 := hB7.size
  have oS0_7 := Lib.hid (oS0_6.out.below hb)
  clear oS0_6
  have x0_7 := Lib.hid (x0_6.out.below hb)
  clear x0_6
  have bf0_7 := Lib.hid (Has.kept (by exact bf0_6.out) hb)
  clear bf0_6
  have coS0_7 := Lib.hid (Has.kept (by exact coS0_6.out) hb)
  clear coS0_6
  have cx0_7 := Lib.hid (Has.kept (by exact cx0_n.out) hb)
  clear cx0_n
  clear hc_bf0
  clear hc_coS0
  clear hc_cx0
  have hc_bf0 := bf0_7.out.cell
  have hc_coS0 := coS0_7.out.cell
  have hc_cx0 := cx0_7.out.cell
  obtain ⟨AI0, kI0, hv7, _, _⟩ := IOwn.form hoI0.1
  subst hv7
  obtain ⟨BI0, jI0, hv7, _, _⟩ := IOwn.form hoI0.2.1
  subst hv7
  have oI0_7 := Lib.hid (FcB.pl hoI0)
  have hdI0 := Lib.hid hoI0.2.2
  clear hoI0
  clear hb
  have hb8 : Below w7.heap.size w7 (w7.alloc (.cells #[.slice AI0 os.vs.length kI0, .slice BI0 os.ns.length jI0] 27)) := (Below.refl _ _).alloc (Nat.le_refl _) _
  have hsz8 : (w7.alloc (.cells #[.slice AI0 os.vs.length kI0, .slice BI0 os.ns.length jI0] 27)).heap.size = w7.heap.size + 1 := by simp
  have coI0_n := Lib.hid (Has.new w7 27 #[.slice AI0 os.vs.length kI0, .slice BI0 os.ns.length jI0])
  have hB8 : Below W.heap.size W (w7.alloc (.cells #[.slice AI0 os.vs.length kI0, .slice BI0 os.ns.length jI0] 27)) := hB7.trans (hb8.mono hB7.size)
  have hz8 := hb8.size
  have hy8 := hB8.size
  have oS0_8 := Lib.hid (oS0_7.out.below hb8)
  clear oS0_7
  have x0_8 := Lib.hid (x0_7.out.below hb8)
  clear x0_7
  have oI0_8 := Lib.hid (oI0_7.out.below hb8)
  clear oI0_7
  have bf0_8 := Lib.hid (Has.kept (by exact bf0_7.out) hb8)
  clear bf0_7
  have coS0_8 := Lib.hid (Has.kept (by exact coS0_7.out) hb8)
  clear coS0_7
  have cx0_8 := Lib.hid (Has.kept (by exact cx0_7.out) hb8)
  clear cx0_7
  clear hc_bf0
  clear hc_coS0
  clear hc_cx0
  have hc_bf0 := bf0_8.out.cell
  have hc_coS0 := coS0_8.out.cell
  have hc_cx0 := cx0_8.out.cell
  clear hc_bf0
  clear hc_coS0
  clear hc_cx0
  have hc_bf0 := bf0_8.out.cell
  have hc_coS0 := coS0_8.out.cell
  have hc_cx0 := cx0_8.out.cell
  have hc_coI0 := coI0_n.out.cell
  clear hb8
  go_wp2_with fail
  refine (eqFactor_same AI0 BI0 AS0 BS0 os.vs.length kI0 os.ns.length jI0 _ kS0 _ jS0 os _ (FcB.fac oI0_8.out.1) (FcB.fac oS0_8.out.1) (by unfold maxLen; omega) (by unfold maxLen; omega)).mono ?_
  rintro e w9 ⟨rfl, hb9⟩
  have hB9 : Below W.heap.size W w9 := hB8.trans (hb9.mono hB8.size)
  have hz9 := hb9.size
  have hy9 := hB9.size
  have oS0_9 := Lib.hid (oS0_8.out.below hb9)
  clear oS0_8
  have x0_9 := Lib.hid (x0_8.out.below hb9)
  clear x0_8
  have oI0_9 := Lib.hid (oI0_8.out.below hb9)
  clear oI0_8
  have bf0_9 := Lib.hid (Has.kept (by exact bf0_8.out) hb9)
  clear bf0_8
  have coS0_9 := Lib.hid (Has.kept (by exact coS0_8.out) hb9)
  clear coS0_8
  have cx0_9 := Lib.hid (Has.kept (by exact cx0_8.out) hb9)
  clear cx0_8
  have coI0_9 := Lib.hid (Has.kept (by exact coI0_n.out) hb9)
  clear coI0_n
  clear hc_bf0
  clear hc_coS0
  clear hc_cx0
  clear hc_coI0
  have hc_bf0 := bf0_9.out.cell
  have hc_coS0 := coS0_9.out.cell
  have hc_cx0 := cx0_9.out.cell
  have hc_coI0 := coI0_9.out.cell
  clear hb9
  have hOk := Lib.hid (fun (wx : World) (hx : Below w9.heap.size w9 wx) => (show Below w9.heap.size w9 wx ∧ wx.cell? ⟨W.heap.size, 0, none⟩ = some (.slice A0 n0 c0) ∧ wx.cell? ⟨W.heap.size, 1, none⟩ = some (.slice B0 m0 e0) ∧ wx.cell? ⟨w5.heap.size, 0, none⟩ = some (.slice (some ⟨g5, 0, none⟩) n0 n0) ∧ wx.cell? ⟨w5.heap.size, 1, none⟩ = some (.slice (some ⟨qg5, 0, none⟩) m0 m0) from ⟨hx, (Has.kept (by exact bf0_9.out) hx).cell 0, (Has.kept (by exact bf0_9.out) hx).cell 1, (Has.kept (by exact cx0_9.out) hx).cell 0, (Has.kept (by exact cx0_9.out) hx).cell 1⟩))
  have cT := Lib.hid (fun (wx : World) (hx : Below w9.heap.size w9 wx) => toFactor_own A0 B0 n0 c0 m0 e0 F0 wx (hH0.out.below (hB9.trans (hx.mono hB9.size))) hbig0 hbgm0)
  have hX := Lib.hid (fun (wx : World) (hx : Below w9.heap.size w9 wx) => FcB.fac (x0_9.out.below hx).1)
  have hM := Lib.hid (show n0 ≤ maxLen ∧ m0 ≤ maxLen by unfold maxLen; omega)
  go_wp2_with fail
  clear hc_bf0
  clear hc_coS0
  clear hc_cx0
  clear hc_coI0
  obtain ⟨_, hc0e, hc1e, hc2e, hc3e⟩ := hOk.out w9 (Below.refl _ _)
  go_region_held3 (fun wx => Below w9.heap.size w9 wx ∧ wx.cell? ⟨W.heap.size, 0, none⟩ = some (.slice A0 n0 c0) ∧ wx.cell? ⟨W.heap.size, 1, none⟩ = some (.slice B0 m0 e0) ∧ wx.cell? ⟨w5.heap.size, 0, none⟩ = some (.slice (some ⟨g5, 0, none⟩) n0 n0) ∧ wx.cell? ⟨w5.heap.size, 1, none⟩ = some (.slice (some ⟨qg5, 0, none⟩) m0 m0)) (first | exact hOk.out _ ((Below.refl _ _).drew) | exact hOk.out _ (Below.refl _ _) | exact hOk.out _ (bt6 (by assumption) hbr) | exact hOk.out _ (bt6 (by assumption) hbq) | exact hOk.out _ (bs6 (by assumption)) | exact hOk.out _ (bd6 (by assumption)) | go_keep) (first | (go_at_call 17; refine (cT.out _ (And.left (by assumption))).mono ?_; rintro e q ⟨g10, qg10, rfl, pl10, hne10, hbq⟩) | (go_at_call 19; refine (eqFactor_same _ _ _ _ n0 n0 m0 m0 n0 n0 m0 m0 F0 _ (hX.out _ (And.left (by assumption))) (FcB.fac pl10.1) hM.out.1 hM.out.2).mono ?_; rintro e w11 ⟨rfl, hbr⟩))
  rename_i hHeld
  have hb11 := hHeld.1
  clear hHeld hOk cT hX hM hc0e hc1e hc2e hc3e hbr hbq pl10 hne10
  have hB11 : Below W.heap.size W w11 := hB9.trans (hb11.mono hB9.size)
  have hz11 := hb11.size
  have hy11 := hB11.size
  have oS0_11 := Lib.hid (oS0_9.out.below hb11)
  clear oS0_9
  have x0_11 := Lib.hid (x0_9.out.below hb11)
  clear x0_9
  have oI0_11 := Lib.hid (oI0_9.out.below hb11)
  clear oI0_9
  have bf0_11 := Lib.hid (Has.kept (by exact bf0_9.out) hb11)
  clear bf0_9
  have coS0_11 := Lib.hid (Has.kept (by exact coS0_9.out) hb11)
  clear coS0_9
  have cx0_11 := Lib.hid (Has.kept (by exact cx0_9.out) hb11)
  clear cx0_9
  have coI0_11 := Lib.hid (Has.kept (by exact coI0_9.out) hb11)
  clear coI0_9
  have hc_bf0 := bf0_11.out.cell
  have hc_coS0 := coS0_11.out.cell
  have hc_cx0 := cx0_11.out.cell
  have hc_coI0 := coI0_11.out.cell
  clear hb11
  go_wp2_with fail
  refine (markF_pl (some ⟨g5, 0, none⟩) (some ⟨qg5, 0, none⟩) n0 n0 m0 m0 _ _ 1 F0 _ x0_11.out hd_x0.out (by omega) (by omega) (by omega) (by omega)).mono ?_
  rintro e w12 ⟨rfl, hk12, pl12⟩
  have hB12 : Below W.heap.size W w12 := below_but hB11 hk12 (fun k hk => by omega)
  have hz12 := hk12.size
  have hy12 := hB12.size
  have oS0_12 := Lib.hid (oS0_11.out.but hk12 (fun k hk hk2 => by omega))
  clear oS0_11
  have oI0_12 := Lib.hid (oI0_11.out.but hk12 (fun k hk hk2 => by omega))
  clear oI0_11
  have bf0_12 := Lib.hid (bf0_11.out.but hk12 (fun hk2 => by omega))
  clear bf0_11
  have coS0_12 := Lib.hid (coS0_11.out.but hk12 (fun hk2 => by omega))
  clear coS0_11
  have cx0_12 := Lib.hid (cx0_11.out.but hk12 (fun hk2 => by omega))
  clear cx0_11
  have coI0_12 := Lib.hid (coI0_11.out.but hk12 (fun hk2 => by omega))
  clear coI0_11
  clear hc_bf0
  clear hc_coS0
  clear hc_cx0
  clear hc_coI0
  have hc_bf0 := bf0_12.out.cell
  have hc_coS0 := coS0_12.out.cell
  have hc_cx0 := cx0_12.out.cell
  have hc_coI0 := coI0_12.out.cell
  clear x0_11
  have x0_12 := Lib.hid pl12
  clear hk12 pl12
  clear x0_12
  go_wp2_with fail
  refine (eqFactor_same AI0 BI0 AS0 BS0 os.vs.length kI0 os.ns.length jI0 _ kS0 _ jS0 os _ (FcB.fac oI0_12.out.1) (FcB.fac oS0_12.out.1) (by unfold maxLen; omega) (by unfold maxLen; omega)).mono ?_
  rintro e w13 ⟨rfl, hb13⟩
  have hB13 : Below W.heap.size W w13 := hB12.trans (hb13.mono hB12.size)
  have hz13 := hb13.size
  have hy13 := hB13.size
  have oS0_13 := Lib.hid (oS0_12.out.below hb13)
  clear oS0_12
  have oI0_13 := Lib.hid (oI0_12.out.below hb13)
  clear oI0_12
  have bf0_13 := Lib.hid (Has.kept (by exact bf0_12.out) hb13)
  clear bf0_12
  have coS0_13 := Lib.hid (Has.kept (by exact coS0_12.out) hb13)
  clear coS0_12
  have cx0_13 := Lib.hid (Has.kept (by exact cx0_12.out) hb13)
  clear cx0_12
  have coI0_13 := Lib.hid (Has.kept (by exact coI0_12.out) hb13)
  clear coI0_12
  clear hc_bf0
  clear hc_coS0
  clear hc_cx0
  clear hc_coI0
  have hc_bf0 := bf0_13.out.cell
  have hc_coS0 := coS0_13.out.cell
  have hc_cx0 := cx0_13.out.cell
  have hc_coI0 := coI0_13.out.cell
  clear hb13
  go_wp2_with fail
  refine (markF_pl AI0 BI0 os.vs.length kI0 os.ns.length jI0 _ _ 1 os _ oI0_13.out hdI0.out (by omega) (by omega) (by omega) (by omega)).mono ?_
  rintro e w14 ⟨rfl, hk14, pl14⟩
  have hB14 : Below W.heap.size W w14 := below_but hB13 hk14 (fun k hk => by omega)
  have hz14 := hk14.size
  have hy14 := hB14.size
  have oS0_14 := Lib.hid (oS0_13.out.but hk14 (fun k hk hk2 => by omega))
  clear oS0_13
  have bf0_14 := Lib.hid (bf0_13.out.but hk14 (fun hk2 => by omega))
  clear bf0_13
  have coS0_14 := Lib.hid (coS0_13.out.but hk14 (fun hk2 => by omega))
  clear coS0_13
  have cx0_14 := Lib.hid (cx0_13.out.but hk14 (fun hk2 => by omega))
  clear cx0_13
  have coI0_14 := Lib.hid (coI0_13.out.but hk14 (fun hk2 => by omega))
  clear coI0_13
  clear hc_bf0
  clear hc_coS0
  clear hc_cx0
  clear hc_coI0
  have hc_bf0 := bf0_14.out.cell
  have hc_coS0 := coS0_14.out.cell
  have hc_cx0 := cx0_14.out.cell
  have hc_coI0 := coI0_14.out.cell
  clear oI0_13
  have oI0_14 := Lib.hid pl14
  clear hk14 pl14
  go_wp2_with fail
  refine (heldF_any AI0 BI0 os.vs.length kI0 os.ns.length jI0 _ _ 1 _ oI0_14.out.1 (by omega) (by omega) (by omega) (by omega)).mono ?_
  rintro e w15 ⟨rfl, hb15⟩
  have hB15 : Below W.heap.size W w15 := hB14.trans (hb15.mono hB14.size)
  have hz15 := hb15.size
  have hy15 := hB15.size
  have oS0_15 := Lib.hid (oS0_14.out.below hb15)
  clear oS0_14
  have oI0_15 := Lib.hid (oI0_14.out.below hb15)
  clear oI0_14
  have bf0_15 := Lib.hid (Has.kept (by exact bf0_14.out) hb15)
  clear bf0_14
  have coS0_15 := Lib.hid (Has.kept (by exact coS0_14.out) hb15)
  clear coS0_14
  have cx0_15 := Lib.hid (Has.kept (by exact cx0_14.out) hb15)
  clear cx0_14
  have coI0_15 := Lib.hid (Has.kept (by exact coI0_14.out) hb15)
  clear coI0_14
  clear hc_bf0
  clear hc_coS0
  clear hc_cx0
  clear hc_coI0
  have hc_bf0 := bf0_15.out.cell
  have hc_coS0 := coS0_15.out.cell
  have hc_cx0 := cx0_15.out.cell
  have hc_coI0 := coI0_15.out.cell
  clear hb15
  go_wp2_with fail
  refine (toFactor_own A0 B0 n0 c0 m0 e0 F0 _ (hH0.out.below hB15) hbig0 hbgm0).mono ?_
  rintro e w16 ⟨g16, qg16, rfl, pl16, hne16, hb16⟩
  have hB16 : Below W.heap.size W w16 := hB15.trans (hb16.mono hB15.size)
  have hz16 := hb16.size
  have hy16 := hB16.size
  have oS0_16 := Lib.hid (oS0_15.out.below hb16)
  clear oS0_15
  have oI0_16 := Lib.hid (oI0_15.out.below hb16)
  clear oI0_15
  have bf0_16 := Lib.hid (Has.kept (by exact bf0_15.out) hb16)
  clear bf0_15
  have coS0_16 := Lib.hid (Has.kept (by exact coS0_15.out) hb16)
  clear coS0_15
  have cx0_16 := Lib.hid (Has.kept (by exact cx0_15.out) hb16)
  clear cx0_15
  have coI0_16 := Lib.hid (Has.kept (by exact coI0_15.out) hb16)
  clear coI0_15
  clear hc_bf0
  clear hc_coS0
  clear hc_cx0
  clear hc_coI0
  have hc_bf0 := bf0_16.out.cell
  have hc_coS0 := coS0_16.out.cell
  have hc_cx0 := cx0_16.out.cell
  have hc_coI0 := coI0_16.out.cell
  have y0_16 := Lib.hid pl16
  clear pl16 hb16 hne16
  go_wp2_with fail
  refine (cI.out _ _ _ (FcB.fac y0_16.out.1)).mono ?_
  rintro e w17 ⟨vJ0, uI0, rfl, hoJ0, hb⟩
  have hB17 : Below W.heap.size W w17 := hB16.trans (hb.mono hB16.size)
  have hz17 := hb.size
  have hy17 := hB17.size
  have oS0_17 := Lib.hid (oS0_16.out.below hb)
  clear oS0_16
  have oI0_17 := Lib.hid (oI0_16.out.below hb)
  clear oI0_16
  have y0_17 := Lib.hid (y0_16.out.below hb)
  clear y0_16
  have bf0_17 := Lib.hid (Has.kept (by exact bf0_16.out) hb)
  clear bf0_16
  have coS0_17 := Lib.hid (Has.kept (by exact coS0_16.out) hb)
  clear coS0_16
  have cx0_17 := Lib.hid (Has.kept (by exact cx0_16.out) hb)
  clear cx0_16
  have coI0_17 := Lib.hid (Has.kept (by exact coI0_16.out) hb)
  clear coI0_16
  clear hc_bf0
  clear hc_coS0
  clear hc_cx0
  clear hc_coI0
  have hc_bf0 := bf0_17.out.cell
  have hc_coS0 := coS0_17.out.cell
  have hc_cx0 := cx0_17.out.cell
  have hc_coI0 := coI0_17.out.cell
  obtain ⟨AJ0, kJ0, hv17, _, _⟩ := IOwn.form hoJ0.1
  subst hv17
  obtain ⟨BJ0, jJ0, hv17, _, _⟩ := IOwn.form hoJ0.2.1
  subst hv17
  have oJ0_17 := Lib.hid (FcB.pl hoJ0)
  clear hoJ0
  clear hb
  have hb18 : Below w17.heap.size w17 (w17.alloc (.cells #[.slice AJ0 os.vs.length kJ0, .slice BJ0 os.ns.length jJ0] 27)) := (Below.refl _ _).alloc (Nat.le_refl _) _
  have hsz18 : (w17.alloc (.cells #[.slice AJ0 os.vs.length kJ0, .slice BJ0 os.ns.length jJ0] 27)).heap.size = w17.heap.size + 1 := by simp
  have coJ0_n := Lib.hid (Has.new w17 27 #[.slice AJ0 os.vs.length kJ0, .slice BJ0 os.ns.length jJ0])
  have hB18 : Below W.heap.size W (w17.alloc (.cells #[.slice AJ0 os.vs.length kJ0, .slice BJ0 os.ns.length jJ0] 27)) := hB17.trans (hb18.mono hB17.size)
  have hz18 := hb18.size
  have hy18 := hB18.size
  have oS0_18 := Lib.hid (oS0_17.out.below hb18)
  clear oS0_17
  have oI0_18 := Lib.hid (oI0_17.out.below hb18)
  clear oI0_17
  have y0_18 := Lib.hid (y0_17.out.below hb18)
  clear y0_17
  have oJ0_18 := Lib.hid (oJ0_17.out.below hb18)
  clear oJ0_17
  have bf0_18 := Lib.hid (Has.kept (by exact bf0_17.out) hb18)
  clear bf0_17
  have coS0_18 := Lib.hid (Has.kept (by exact coS0_17.out) hb18)
  clear coS0_17
  have cx0_18 := Lib.hid (Has.kept (by exact cx0_17.out) hb18)
  clear cx0_17
  have coI0_18 := Lib.hid (Has.kept (by exact coI0_17.out) hb18)
  clear coI0_17
  clear hc_bf0
  clear hc_coS0
  clear hc_cx0
  clear hc_coI0
  have hc_bf0 := bf0_18.out.cell
  have hc_coS0 := coS0_18.out.cell
  have hc_cx0 := cx0_18.out.cell
  have hc_coI0 := coI0_18.out.cell
  clear hc_bf0
  clear hc_coS0
  clear hc_cx0
  clear hc_coI0
  have hc_bf0 := bf0_18.out.cell
  have hc_coS0 := coS0_18.out.cell
  have hc_cx0 := cx0_18.out.cell
  have hc_coI0 := coI0_18.out.cell
  have hc_coJ0 := coJ0_n.out.cell
  clear hb18
  clear y0_18
  go_wp2_with fail
  refine (eqFactor_same AJ0 BJ0 AS0 BS0 os.vs.length kJ0 os.ns.length jJ0 _ kS0 _ jS0 os _ (FcB.fac oJ0_18.out.1) (FcB.fac oS0_18.out.1) (by unfold maxLen; omega) (by unfold maxLen; omega)).mono ?_
  rintro e w19 ⟨rfl, hb19⟩
  have hB19 : Below W.heap.size W w19 := hB18.trans (hb19.mono hB18.size)
  have hz19 := hb19.size
  have hy19 := hB19.size
  have oS0_19 := Lib.hid (oS0_18.out.below hb19)
  clear oS0_18
  have oI0_19 := Lib.hid (oI0_18.out.below hb19)
  clear oI0_18
  have oJ0_19 := Lib.hid (oJ0_18.out.below hb19)
  clear oJ0_18
  have bf0_19 := Lib.hid (Has.kept (by exact bf0_18.out) hb19)
  clear bf0_18
  have coS0_19 := Lib.hid (Has.kept (by exact coS0_18.out) hb19)
  clear coS0_18
  have cx0_19 := Lib.hid (Has.kept (by exact cx0_18.out) hb19)
  clear cx0_18
  have coI0_19 := Lib.hid (Has.kept (by exact coI0_18.out) hb19)
  clear coI0_18
  have coJ0_19 := Lib.hid (Has.kept (by exact coJ0_n.out) hb19)
  clear coJ0_n
  clear hc_bf0
  clear hc_coS0
  clear hc_cx0
  clear hc_coI0
  clear hc_coJ0
  have hc_bf0 := bf0_19.out.cell
  have hc_coS0 := coS0_19.out.cell
  have hc_cx0 := cx0_19.out.cell
  have hc_coI0 := coI0_19.out.cell
  have hc_coJ0 := coJ0_19.out.cell
  clear hb19
  go_wp2_with fail
  refine (heldF_any AI0 BI0 os.vs.length kI0 os.ns.length jI0 _ _ 1 _ oI0_19.out.1 (by omega) (by omega) (by omega) (by omega)).mono ?_
  rintro e w20 ⟨rfl, hb20⟩
  have hB20 : Below W.heap.size W w20 := hB19.trans (hb20.mono hB19.size)
  have hz20 := hb20.size
  have hy20 := hB20.size
  have oS0_20 := Lib.hid (oS0_19.out.below hb20)
  clear oS0_19
  have oI0_20 := Lib.hid (oI0_19.out.below hb20)
  clear oI0_19
  have oJ0_20 := Lib.hid (oJ0_19.out.below hb20)
  clear oJ0_19
  have bf0_20 := Lib.hid (Has.kept (by exact bf0_19.out) hb20)
  clear bf0_19
  have coS0_20 := Lib.hid (Has.kept (by exact coS0_19.out) hb20)
  clear coS0_19
  have cx0_20 := Lib.hid (Has.kept (by exact cx0_19.out) hb20)
  clear cx0_19
  have coI0_20 := Lib.hid (Has.kept (by exact coI0_19.out) hb20)
  clear coI0_19
  have coJ0_20 := Lib.hid (Has.kept (by exact coJ0_19.out) hb20)
  clear coJ0_19
  clear hc_bf0
  clear hc_coS0
  clear hc_cx0
  clear hc_coI0
  clear hc_coJ0
  have hc_bf0 := bf0_20.out.cell
  have hc_coS0 := coS0_20.out.cell
  have hc_cx0 := cx0_20.out.cell
  have hc_coI0 := coI0_20.out.cell
  have hc_coJ0 := coJ0_20.out.cell
  clear hb20
  go_wp2_with fail
  go_ret
  exact ⟨rfl, hB20⟩

set_option maxRecDepth 100000 in
theorem lifted (os : Os) (started : os.Started) (H : Type) (enc : TypeId × Value → H) :
    ReturnsInHanded {} Try.checked os 7 .any (Rows.fnExactSetInSpec.pre6 enc Try.prog Try.f7 Rows.fnExactSetInRow.domain false) (Rows.fnExactSetInSpec.post enc Try.prog Try.f7 false true false false) := by
  refine returnsInHanded_of_change (C := Try.checked) own started (by kernel_rfl) Try.func7
    (ChangeSpec.witness6 (enc := enc) (C := Try.checked) false ⟨#[], #[.agg #[.slice none 0 0, .slice none 0 0], .int .i64 0, .int .i64 0], []⟩ 8 (by kernel_rfl) (by kernel_rfl) (by kernel_rfl) (by kernel_rfl)) ?_
  intro W base args ds gs before hval0 hW hcnd _
  have hval : ∀ (j : Nat) t v, Try.f7.params[j]? = some t → args[j]? = some v → Value.okWide Try.prog W .any base t v := hval0
  have hW' := hW
  obtain ⟨p, q, hA0, hV, rfl, hfz, hnd⟩ := hW
  have hA : DataW.TrodAll enc Try.prog W 0 (fun _ => true) true Try.f7.params.toList args.toList ds p := hA0
  rw [Try.params7] at hA hval
  obtain ⟨v0, vs0, d0, ds0, p0, q0, hargs, rfl, rfl, h0, r0⟩ := trodAll_cons hA
  obtain ⟨v1, vs1, d1, ds1, p1, q1, rfl, rfl, rfl, h1, r1⟩ := trodAll_cons r0
  obtain ⟨v2, vs2, d2, ds2, p2, q2, rfl, rfl, rfl, h2, r2⟩ := trodAll_cons r1
  obtain ⟨rfl, rfl, rfl⟩ := trodAll_nil r2
  obtain rfl : args = #[v0, v1, v2] := by cases args; simp_all
  obtain ⟨rfl, rfl⟩ := trodVars_none hV
  have lt0 : ∀ x ∈ p0, x.block < W.heap.size := by
    obtain ⟨m, hm⟩ := h0
    exact DataW.trod_lt m _ _ _ hm
  have lt1 : ∀ x ∈ p1, x.block < W.heap.size := by
    obtain ⟨m, hm⟩ := h1
    exact DataW.trod_lt m _ _ _ hm
  have lt2 : ∀ x ∈ p2, x.block < W.heap.size := by
    obtain ⟨m, hm⟩ := h2
    exact DataW.trod_lt m _ _ _ hm
  clear hA0 hval0
  refine (walk enc W base v0 d0 p0 (hval 0 24 v0 rfl rfl) h0 lt0 v1 d1 p1 (hval 1 3 v1 rfl rfl) h1 lt1 v2 d2 p2 (hval 2 3 v2 rfl rfl) h2 lt2).mono fun e W' ⟨he, bel⟩ => ?_
  subst he
  exact ⟨_, rfl, _, _, _, [], _, [], hW', trodAll_mk1 (shut_bool Try.underlying4 _), (trodAll_cons_mk (Below.trod laidOut (by kernel_rfl) (of_decide_eq_true (by kernel_rfl)) h0 bel lt0) (trodAll_cons_mk (Below.trod laidOut (by kernel_rfl) (of_decide_eq_true (by kernel_rfl)) h1 bel lt1) (trodAll_cons_mk (Below.trod laidOut (by kernel_rfl) (of_decide_eq_true (by kernel_rfl)) h2 bel lt2) trodAll_mk0))), rfl, bel.frame _, fun h => by cases h⟩

theorem proved : Rows.FnExactSetInSaid :=
  OpenClaim.holds_of_wide 7 Try.f7 rfl rfl rfl rfl rfl rfl rfl ⟨rfl, rfl, rfl, rfl, rfl⟩ rfl rfl rfl rfl rfl (by kernel_rfl) Try.func7 (by kernel_rfl)
    (of_decide_eq_true (by kernel_rfl)) (by unfold Func.isWrapper; first | (rw [if_pos (by decide +kernel)]; kernel_rfl) | (rw [if_neg (by decide +kernel)]; exact ⟨rfl, rfl⟩))
    (fun os started H enc _ => lifted os started H enc)
end Go.Proofs.Ytdegfbdoeklhnaa.fnExactSetIn
