/- For every two factors of together at most 2^20 numbers the program's FactorTimes returns what the model's returns, leaves its arguments as they are, and hands back memory of its own; longer ones are passed over by the law itself. No condition. -/
import Derived.Test.YtdegfbdoeklhnaaRows
import Derived.Test.YtdegfbdoeklhnaaFl
import Derived.Test.YtdegfbdoeklhnaaGa
import Derived.Test.YtdegfbdoeklhnaaRb
import Derived.Test.YtdegfbdoeklhnaaNm
import Derived.Test.YtdegfbdoeklhnaaKt
import Derived.ProofKit
import Derived.OpenShut
import Derived.ShutString
import Derived.ChangeOld
import Derived.Below
namespace Go.Proofs.Ytdegfbdoeklhnaa.fnExactFactorTimes
open Go.ChangeShapes Go.WideShapes Go.ChangeAt Go.RowKit 
set_option linter.unusedVariables false
set_option maxRecDepth 100000

theorem own : ownKnob Try.prog.godebug = none := by kernel_rfl
theorem laidOut : laidOutB Try.prog = true := by kernel_rfl

set_option maxHeartbeats 2000000 in
theorem walk {H : Type} (enc : TypeId × Value → H) (W : World) (base : Nat) (v0 : Value) (d0 : DataW H) (p0 : List MemPlace) (hv0 : Value.okWide Try.prog W .any base 24 v0)
    (h0 : DataW.Trod enc Try.prog W 0 (fun _ => true) true 24 v0 d0 p0) (_ : ∀ x ∈ p0, x.block < W.heap.size) (v1 : Value) (d1 : DataW H) (p1 : List MemPlace) (hv1 : Value.okWide Try.prog W .any base 24 v1)
    (h1 : DataW.Trod enc Try.prog W 0 (fun _ => true) true 24 v1 d1 p1) (_ : ∀ x ∈ p1, x.block < W.heap.size) :
    Calls Try.prog 5 #[v0, v1] W fun e w' => e = .returned (.bool true) ∧ Below W.heap.size W w' := by
  obtain ⟨A0, n0, c0, B0, m0, e0, F0, rfl, hn0, hc0, hp0, hq0, hlst0⟩ := open_factor hv0 h0
  obtain ⟨A1, n1, c1, B1, m1, e1, F1, rfl, hn1, hc1, hp1, hq1, hlst1⟩ := open_factor hv1 h1
  clear hv0 h0 hv1 h1
  have hH0 := Lib.hid hlst0
  have hM0 := Lib.hid (Nat.le_trans hp0 hq0)
  have hmn0 : m0 ≤ 9223372036854775807 := by unfold maxLen at hq0; omega
  clear hp0 hq0
  have hnm0 := Lib.hid (Nat.le_trans hn0 hc0)
  have hnn0 : n0 ≤ 9223372036854775807 := by unfold maxLen at hc0; omega
  clear hlst0 hn0 hc0
  have hH1 := Lib.hid hlst1
  have hM1 := Lib.hid (Nat.le_trans hp1 hq1)
  have hmn1 : m1 ≤ 9223372036854775807 := by unfold maxLen at hq1; omega
  clear hp1 hq1
  have hnm1 := Lib.hid (Nat.le_trans hn1 hc1)
  have hnn1 : n1 ≤ 9223372036854775807 := by unfold maxLen at hc1; omega
  clear hlst1 hn1 hc1
  have hBf0 : Below W.heap.size W (W.alloc (.cells #[.slice A0 n0 c0, .slice B0 m0 e0] 24)) := (Below.refl W.heap.size W).alloc (by simp) _
  have bf0 := Lib.hid (Has.newAt (w := W) (n := W.heap.size) (t := 24) (cs := #[.slice A0 n0 c0, .slice B0 m0 e0]) (by simp))
  have hBf1 : Below W.heap.size W ((W.alloc (.cells #[.slice A0 n0 c0, .slice B0 m0 e0] 24)).alloc (.cells #[.slice A1 n1 c1, .slice B1 m1 e1] 24)) := hBf0.alloc (by simp) _
  have bf0_e1 := Lib.hid (bf0.out.alloc (.cells #[.slice A1 n1 c1, .slice B1 m1 e1] 24))
  clear bf0
  have bf1 := Lib.hid (Has.newAt (w := (W.alloc (.cells #[.slice A0 n0 c0, .slice B0 m0 e0] 24))) (n := W.heap.size + 1) (t := 24) (cs := #[.slice A1 n1 c1, .slice B1 m1 e1]) (by simp))
  have hzE : ((W.alloc (.cells #[.slice A0 n0 c0, .slice B0 m0 e0] 24)).alloc (.cells #[.slice A1 n1 c1, .slice B1 m1 e1] 24)).heap.size = W.heap.size + 2 := by simp
  have hcE0 := bf0_e1.out.cell
  have hcE1 := bf1.out.cell
  by_cases hsz0 : n0 + m0 ≤ 1048576
  rotate_left
  · go_enter Try.func5, Try.ntmps5
    go_wp2_with fail
    refine (szFactor_no A0 B0 n0 c0 m0 e0 (1048576 : Int) _ hnm0.out hM0.out (by omega) (by omega) (by omega)).mono ?_
    rintro e wx0_0 ⟨rfl, hbx0_0⟩
    have hby0_0 : Below W.heap.size W wx0_0 := hBf1.trans (hbx0_0.mono hBf1.size)
    go_wp2_with fail
    go_ret
    exact ⟨rfl, hby0_0⟩
  by_cases hsz1 : n0 + m0 + n1 + m1 ≤ 1048576
  rotate_left
  · go_enter Try.func5, Try.ntmps5
    go_wp2_with fail
    refine (szFactor_yes A0 B0 n0 c0 m0 e0 (1048576 : Int) _ hnm0.out hM0.out (by omega) (by omega)).mono ?_
    rintro e wx1_0 ⟨rfl, hbx1_0⟩
    have hby1_0 : Below W.heap.size W wx1_0 := hBf1.trans (hbx1_0.mono hBf1.size)
    have bz0_0 := Lib.hid (Has.kept (by exact bf0_e1.out) hbx1_0)
    have hcz0_0 := bz0_0.out.cell
    have bz1_0 := Lib.hid (Has.kept (by exact bf1.out) hbx1_0)
    have hcz1_0 := bz1_0.out.cell
    go_wp2_with fail
    refine (szFactor_no A1 B1 n1 c1 m1 e1 (1048576 - (n0 : Int) - (m0 : Int) : Int) _ hnm1.out hM1.out (by omega) (by omega) (by omega)).mono ?_
    rintro e wx1_1 ⟨rfl, hbx1_1⟩
    have hby1_1 : Below W.heap.size W wx1_1 := hby1_0.trans (hbx1_1.mono hby1_0.size)
    go_wp2_with fail
    go_ret
    exact ⟨rfl, hby1_1⟩
  have hbig0 : n0 ≤ 1048576 := by omega
  have hbig1 : n1 ≤ 1048576 := by omega
  have hbgm0 : m0 ≤ 1048576 := by omega
  have hbgm1 : m1 ≤ 1048576 := by omega
  have cS := Lib.hid (fun A B A2 B2 wx (hx : FacW wx wx.heap.size A n0 B m0 F0) (hy : FacW wx wx.heap.size A2 n1 B2 m1 F1) => specFactorTimes_any A B A2 B2 n0 n0 m0 m0 n1 n1 m1 m1 F0 F1 wx hx hy hnm0.out hM0.out hnm1.out hM1.out)
  have cI := Lib.hid (fun A B A2 B2 wx (hx : FacW wx wx.heap.size A n0 B m0 F0) (hy : FacW wx wx.heap.size A2 n1 B2 m1 F1) => FactorTimes_any A B A2 B2 n0 n0 m0 m0 n1 n1 m1 m1 F0 F1 wx hx hy hnm0.out hM0.out hnm1.out hM1.out)
  obtain ⟨hrl, hrm⟩ := timesTo_len F0 F1
  unfold Fbd at cS cI
  generalize timesTo F0 F1 = os at hrl hrm cS cI
  generalize okTimes F0 F1 = bb at cS cI
  go_enter Try.func5, Try.ntmps5
  go_wp2_with fail
  refine (szFactor_yes A0 B0 n0 c0 m0 e0 (1048576 : Int) _ hnm0.out hM0.out (by omega) (by omega)).mono ?_
  rintro e w1 ⟨rfl, hb1⟩
  have hB1 : Below W.heap.size W w1 := hBf1.trans (hb1.mono hBf1.size)
  have hz1 := hb1.size
  have hy1 := hB1.size
  have bf0_1 := Lib.hid (Has.kept (by exact bf0_e1.out) hb1)
  clear bf0_e1
  have bf1_1 := Lib.hid (Has.kept (by exact bf1.out) hb1)
  clear bf1
  have hc_bf0 := bf0_1.out.cell
  have hc_bf1 := bf1_1.out.cell
  clear hb1
  go_wp2_with fail
  refine (szFactor_yes A1 B1 n1 c1 m1 e1 (1048576 - (n0 : Int) - (m0 : Int) : Int) _ hnm1.out hM1.out (by omega) (by omega)).mono ?_
  rintro e w2 ⟨rfl, hb2⟩
  have hB2 : Below W.heap.size W w2 := hB1.trans (hb2.mono hB1.size)
  have hz2 := hb2.size
  have hy2 := hB2.size
  have bf0_2 := Lib.hid (Has.kept (by exact bf0_1.out) hb2)
  clear bf0_1
  have bf1_2 := Lib.hid (Has.kept (by exact bf1_1.out) hb2)
  clear bf1_1
  clear hc_bf0
  clear hc_bf1
  have hc_bf0 := bf0_2.out.cell
  have hc_bf1 := bf1_2.out.cell
  clear hb2
  go_wp2_with fail
  clear hc_bf0
  clear hc_bf1
  refine wp_region_any (by kernel_rfl) ?_
  change wpAny _ _ _ _ _ _ _ (World.drew _)
  refine wpAny_tailb (n := 10) (c := 0) (I := fun listed aq wx => listed.size = 11 ∧ ∃ v6 v27 v28 v29 v30 v31 v32 v33 v34 : Value, aq = { tmps := #[.agg #[.slice A0 n0 c0, .slice B0 m0 e0], .agg #[.slice A1 n1 c1, .slice B1 m1 e1], .pointer (some ⟨W.heap.size, 0, none⟩), .pointer (some ⟨W.heap.size + 1, 0, none⟩), .bool false, .int .i64 (1048576 - ((n0 : Nat) : Int) - ((m0 : Nat) : Int) - ((n1 : Nat) : Int) - ((m1 : Nat) : Int)), v6, undef, undef, undef, undef, undef, undef, undef, undef, undef, undef, .agg #[.slice A0 n0 c0, .slice B0 m0 e0], .int .i64 1048576, .int .i64 (1048576 - ((n0 : Nat) : Int) - ((m0 : Nat) : Int)), .int .i64 (1048576 - ((n0 : Nat) : Int) - ((m0 : Nat) : Int)), .bool (decide (1048576 - ((n0 : Nat) : Int) - ((m0 : Nat) : Int) < 0)), .agg #[.slice A1 n1 c1, .slice B1 m1 e1], .int .i64 (1048576 - ((n0 : Nat) : Int) - ((m0 : Nat) : Int)), .int .i64 (1048576 - ((n0 : Nat) : Int) - ((m0 : Nat) : Int) - ((n1 : Nat) : Int) - ((m1 : Nat) : Int)), .int .i64 (1048576 - ((n0 : Nat) : Int) - ((m0 : Nat) : Int) - ((n1 : Nat) : Int) - ((m1 : Nat) : Int)), .bool (decide (1048576 - ((n0 : Nat) : Int) - ((m0 : Nat) : Int) - ((n1 : Nat) : Int) - ((m1 : Nat) : Int) < 0)), v27, v28, v29, v30, v31, v32, v33, v34, undef, undef, undef, undef, undef, undef, undef, undef, undef, undef, undef, undef, undef, undef, undef, undef, undef, undef, undef, undef, undef, undef, undef, undef, undef, undef, undef, undef, undef, undef, undef, undef, undef, undef, undef, undef, undef, undef, undef, undef, undef, undef, undef, undef, undef, undef, undef, undef, undef, undef, undef, undef, undef, undef, undef, undef, undef, undef, undef, undef, undef, undef, undef, undef, undef, undef, undef, undef, undef, undef, undef, undef, undef, undef, undef, undef, undef, undef, undef, undef, undef, undef, undef, undef], defers := [] } ∧ (listed.getD 0 false = true → v28 = .agg #[.slice A0 n0 c0, .slice B0 m0 e0]) ∧ (listed.getD 1 false = true → (∃ zS01 zS02 : Nat, v29 = .agg #[.slice (some ⟨zS01, 0, none⟩) n0 n0, .slice (some ⟨zS02, 0, none⟩) m0 m0] ∧ (listed.getD 4 false = false → FacW wx wx.heap.size (some ⟨zS01, 0, none⟩) n0 (some ⟨zS02, 0, none⟩) m0 F0))) ∧ (listed.getD 2 false = true → v30 = .agg #[.slice A1 n1 c1, .slice B1 m1 e1]) ∧ (listed.getD 3 false = true → (∃ zS11 zS12 : Nat, v31 = .agg #[.slice (some ⟨zS11, 0, none⟩) n1 n1, .slice (some ⟨zS12, 0, none⟩) m1 m1] ∧ (listed.getD 4 false = false → FacW wx wx.heap.size (some ⟨zS11, 0, none⟩) n1 (some ⟨zS12, 0, none⟩) m1 F1))) ∧ (listed.getD 4 false = true → (∃ (AS0 : Option Addr) (kS0 : Nat) (BS0 : Option Addr) (jS0 : Nat), v32 = .tuple #[.agg #[.slice AS0 os.vs.length kS0, .slice BS0 os.ns.length jS0], .bool bb] ∧ FcV wx w2.heap.size (.slice AS0 os.vs.length kS0) (.slice BS0 os.ns.length jS0) os)) ∧ (listed.getD 5 false = true → (∃ (AS0 : Option Addr) (kS0 : Nat) (BS0 : Option Addr) (jS0 : Nat), v27 = .tuple #[.agg #[.slice AS0 os.vs.length kS0, .slice BS0 os.ns.length jS0], .bool bb] ∧ FcV wx w2.heap.size (.slice AS0 os.vs.length kS0) (.slice BS0 os.ns.length jS0) os)) ∧ (listed.getD 6 false = true → (∃ (AS0 : Option Addr) (kS0 : Nat) (BS0 : Option Addr) (jS0 : Nat), v33 = .agg #[.slice AS0 os.vs.length kS0, .slice BS0 os.ns.length jS0] ∧ FcV wx w2.heap.size (.slice AS0 os.vs.length kS0) (.slice BS0 os.ns.length jS0) os)) ∧ (listed.getD 7 false = true → v34 = .bool bb) ∧ (listed.getD 8 false = true → (∃ (G9 : Nat) (cs9 : Array Value), v6 = .pointer (some ⟨G9, 0, none⟩) ∧ w2.heap.size ≤ G9 ∧ Has wx G9 27 cs9 ∧ cs9.size = 2)) ∧ (listed.getD 9 false = true → (listed.getD 8 false = true ∧ ∃ (G9 : Nat) (AS0 : Option Addr) (kS0 : Nat) (BS0 : Option Addr) (jS0 : Nat), v6 = .pointer (some ⟨G9, 0, none⟩) ∧ w2.heap.size ≤ G9 ∧ Has wx G9 27 #[.slice AS0 os.vs.length kS0, .slice BS0 os.ns.length jS0] ∧ FcV wx w2.heap.size (.slice AS0 os.vs.length kS0) (.slice BS0 os.ns.length jS0) os)) ∧ Below w2.heap.size w2 wx) rfl (by kernel_rfl) (by kernel_rfl) (by kernel_rfl) ?hs ?hl _ _ _ ?st rfl (by decide) _ (by decide)
  case st =>
    refine ⟨rfl, undef, undef, undef, undef, undef, undef, undef, undef, undef, rfl, ?_, ?_, ?_, ?_, ?_, ?_, ?_, ?_, ?_, ?_, (Below.refl _ _).drew⟩ <;> (intro e; exact absurd e (by decide))
  case hs =>
    rintro listed aq wx ⟨hz, v6, v27, v28, v29, v30, v31, v32, v33, v34, rfl, hII⟩ i hin hi
    obtain ⟨h0, o, ho, hd⟩ := mem_ready.1 hi
    have K0 := Lib.hid hII.1
    have K1 := Lib.hid hII.2.1
    have K2 := Lib.hid hII.2.2.1
    have K3 := Lib.hid hII.2.2.2.1
    have K4 := Lib.hid hII.2.2.2.2.1
    have K5 := Lib.hid hII.2.2.2.2.2.1
    have K6 := Lib.hid hII.2.2.2.2.2.2.1
    have K7 := Lib.hid hII.2.2.2.2.2.2.2.1
    have K8 := Lib.hid hII.2.2.2.2.2.2.2.2.1
    have K9 := Lib.hid hII.2.2.2.2.2.2.2.2.2.1
    have hB : Below w2.heap.size w2 wx := hII.2.2.2.2.2.2.2.2.2.2
    have hne := Lib.hid (fun k (hk : i ≠ k) => @listed_ne listed i k hk)
    have hx0 := Has.kept (by exact bf0_2.out) hB
    have hx1 := Has.kept (by exact bf1_2.out) hB
    have h0f : listed.getD i false = false := by rw [Array.getD_eq_getD_getElem?, getD_false h0]; rfl
    clear hII hi h0
    rcases (by omega : i = 0 ∨ i = 1 ∨ i = 2 ∨ i = 3 ∨ i = 4 ∨ i = 5 ∨ i = 6 ∨ i = 7 ∨ i = 8 ∨ i = 9) with rfl | rfl | rfl | rfl | rfl | rfl | rfl | rfl | rfl | rfl
    · cases ho
      have hxc0 := hx0.cell
      refine wpOp_step rfl (fun K hK => ?_)
      go_simp
      refine hK _ _ ⟨by simpa using hz, v6, v27, .agg #[.slice A0 n0 c0, .slice B0 m0 e0], v29, v30, v31, v32, v33, v34, rfl, ?_⟩
      exact ⟨fun _ => rfl, fun e => (by obtain ⟨y1, y2, y3, y4⟩ := K1.out (hne.out 1 (by decide) e); exact ⟨y1, y2, y3, fun q => y4 (set_false_getD q)⟩), fun e => K2.out (hne.out 2 (by decide) e), fun e => (by obtain ⟨y1, y2, y3, y4⟩ := K3.out (hne.out 3 (by decide) e); exact ⟨y1, y2, y3, fun q => y4 (set_false_getD q)⟩), fun e => K4.out (hne.out 4 (by decide) e), fun e => K5.out (hne.out 5 (by decide) e), fun e => K6.out (hne.out 6 (by decide) e), fun e => K7.out (hne.out 7 (by decide) e), fun e => K8.out (hne.out 8 (by decide) e), fun e => (by obtain ⟨y0, y1⟩ := K9.out (hne.out 9 (by decide) e); exact ⟨getD_set_true y0, y1⟩), hB⟩
    · cases ho
      have d0 := hd ⟨0, .data⟩ (by simp) rfl
      obtain rfl := K0.out d0
      refine wpOp_step rfl (fun K hK => ?_)
      go_simp
      go_at_call 17
      refine (toFactor_own A0 B0 n0 c0 m0 e0 F0 _ (hH0.out.below (hB2.trans (hB.mono hB2.size))) hbig0 hbgm0).mono ?_
      rintro e wq9 ⟨zS01, zS02, rfl, pl0, _, hb3⟩
      refine hK _ _ ⟨by simpa using hz, v6, v27, .agg #[.slice A0 n0 c0, .slice B0 m0 e0], .agg #[.slice (some ⟨zS01, 0, none⟩) n0 n0, .slice (some ⟨zS02, 0, none⟩) m0 m0], v30, v31, v32, v33, v34, rfl, ?_⟩
      exact ⟨fun e => K0.out (hne.out 0 (by decide) e), fun _ => ⟨_, _, rfl, fun _ => FcB.fac pl0.1⟩, fun e => K2.out (hne.out 2 (by decide) e), fun e => (by obtain ⟨y1, y2, y3, y4⟩ := K3.out (hne.out 3 (by decide) e); exact ⟨y1, y2, y3, fun q => (y4 (set_false_getD q)).below hb3⟩), fun e => (by obtain ⟨y1, y2, y3, y4, y5, y6⟩ := K4.out (hne.out 4 (by decide) e); exact ⟨y1, y2, y3, y4, y5, y6.below hb3⟩), fun e => (by obtain ⟨y1, y2, y3, y4, y5, y6⟩ := K5.out (hne.out 5 (by decide) e); exact ⟨y1, y2, y3, y4, y5, y6.below hb3⟩), fun e => (by obtain ⟨y1, y2, y3, y4, y5, y6⟩ := K6.out (hne.out 6 (by decide) e); exact ⟨y1, y2, y3, y4, y5, y6.below hb3⟩), fun e => K7.out (hne.out 7 (by decide) e), fun e => (by obtain ⟨y1, y2, y3, y4, y5, y6⟩ := K8.out (hne.out 8 (by decide) e); exact ⟨y1, y2, y3, y4, y5.kept hb3, y6⟩), fun e => (by obtain ⟨y0, y1, y2, y3, y4, y5, y6, y7, y8, y9⟩ := K9.out (hne.out 9 (by decide) e); have hbK := hb3; exact ⟨getD_set_true y0, y1, y2, y3, y4, y5, y6, y7, y8.kept hbK, y9.below hbK⟩), hB.trans (hb3.mono hB.size)⟩
    · cases ho
      have hxc1 := hx1.cell
      refine wpOp_step rfl (fun K hK => ?_)
      go_simp
      refine hK _ _ ⟨by simpa using hz, v6, v27, v28, v29, .agg #[.slice A1 n1 c1, .slice B1 m1 e1], v31, v32, v33, v34, rfl, ?_⟩
      exact ⟨fun e => K0.out (hne.out 0 (by decide) e), fun e => (by obtain ⟨y1, y2, y3, y4⟩ := K1.out (hne.out 1 (by decide) e); exact ⟨y1, y2, y3, fun q => y4 (set_false_getD q)⟩), fun _ => rfl, fun e => (by obtain ⟨y1, y2, y3, y4⟩ := K3.out (hne.out 3 (by decide) e); exact ⟨y1, y2, y3, fun q => y4 (set_false_getD q)⟩), fun e => K4.out (hne.out 4 (by decide) e), fun e => K5.out (hne.out 5 (by decide) e), fun e => K6.out (hne.out 6 (by decide) e), fun e => K7.out (hne.out 7 (by decide) e), fun e => K8.out (hne.out 8 (by decide) e), fun e => (by obtain ⟨y0, y1⟩ := K9.out (hne.out 9 (by decide) e); exact ⟨getD_set_true y0, y1⟩), hB⟩
    · cases ho
      have d2 := hd ⟨2, .data⟩ (by simp) rfl
      obtain rfl := K2.out d2
      refine wpOp_step rfl (fun K hK => ?_)
      go_simp
      go_at_call 17
      refine (toFactor_own A1 B1 n1 c1 m1 e1 F1 _ (hH1.out.below (hB2.trans (hB.mono hB2.size))) hbig1 hbgm1).mono ?_
      rintro e wq9 ⟨zS11, zS12, rfl, pl1, _, hb3⟩
      refine hK _ _ ⟨by simpa using hz, v6, v27, v28, v29, .agg #[.slice A1 n1 c1, .slice B1 m1 e1], .agg #[.slice (some ⟨zS11, 0, none⟩) n1 n1, .slice (some ⟨zS12, 0, none⟩) m1 m1], v32, v33, v34, rfl, ?_⟩
      exact ⟨fun e => K0.out (hne.out 0 (by decide) e), fun e => (by obtain ⟨y1, y2, y3, y4⟩ := K1.out (hne.out 1 (by decide) e); exact ⟨y1, y2, y3, fun q => (y4 (set_false_getD q)).below hb3⟩), fun e => K2.out (hne.out 2 (by decide) e), fun _ => ⟨_, _, rfl, fun _ => FcB.fac pl1.1⟩, fun e => (by obtain ⟨y1, y2, y3, y4, y5, y6⟩ := K4.out (hne.out 4 (by decide) e); exact ⟨y1, y2, y3, y4, y5, y6.below hb3⟩), fun e => (by obtain ⟨y1, y2, y3, y4, y5, y6⟩ := K5.out (hne.out 5 (by decide) e); exact ⟨y1, y2, y3, y4, y5, y6.below hb3⟩), fun e => (by obtain ⟨y1, y2, y3, y4, y5, y6⟩ := K6.out (hne.out 6 (by decide) e); exact ⟨y1, y2, y3, y4, y5, y6.below hb3⟩), fun e => K7.out (hne.out 7 (by decide) e), fun e => (by obtain ⟨y1, y2, y3, y4, y5, y6⟩ := K8.out (hne.out 8 (by decide) e); exact ⟨y1, y2, y3, y4, y5.kept hb3, y6⟩), fun e => (by obtain ⟨y0, y1, y2, y3, y4, y5, y6, y7, y8, y9⟩ := K9.out (hne.out 9 (by decide) e); have hbK := hb3; exact ⟨getD_set_true y0, y1, y2, y3, y4, y5, y6, y7, y8.kept hbK, y9.below hbK⟩), hB.trans (hb3.mono hB.size)⟩
    · cases ho
      have d1 := hd ⟨1, .data⟩ (by simp) rfl
      have d3 := hd ⟨3, .data⟩ (by simp) rfl
      obtain ⟨zS01, zS02, rfl, hfc0⟩ := K1.out d1
      obtain ⟨zS11, zS12, rfl, hfc1⟩ := K3.out d3
      refine wpOp_step rfl (fun K hK => ?_)
      go_simp
      go_at_call 22
      refine (cS.out _ _ _ _ _ (hfc0 h0f) (hfc1 h0f)).mono ?_
      rintro e wq9 ⟨u1, u2, rfl, hoS0, hb3⟩
      obtain ⟨AS0, kS0, rfl, _, _⟩ := hoS0.1.form
      obtain ⟨BS0, jS0, rfl, _, _⟩ := hoS0.2.1.form
      refine hK _ _ ⟨by simpa using hz, v6, v27, v28, .agg #[.slice (some ⟨zS01, 0, none⟩) n0 n0, .slice (some ⟨zS02, 0, none⟩) m0 m0], v30, .agg #[.slice (some ⟨zS11, 0, none⟩) n1 n1, .slice (some ⟨zS12, 0, none⟩) m1 m1], .tuple #[.agg #[.slice AS0 os.vs.length kS0, .slice BS0 os.ns.length jS0], .bool bb], v33, v34, rfl, ?_⟩
      exact ⟨fun e => K0.out (hne.out 0 (by decide) e), fun e => (by obtain ⟨y1, y2, y3, y4⟩ := K1.out (hne.out 1 (by decide) e); exact ⟨y1, y2, y3, fun q => (y4 (set_false_getD q)).below hb3⟩), fun e => K2.out (hne.out 2 (by decide) e), fun e => (by obtain ⟨y1, y2, y3, y4⟩ := K3.out (hne.out 3 (by decide) e); exact ⟨y1, y2, y3, fun q => (y4 (set_false_getD q)).below hb3⟩), fun _ => ⟨_, _, _, _, rfl, hoS0.le hB.size⟩, fun e => (by obtain ⟨y1, y2, y3, y4, y5, y6⟩ := K5.out (hne.out 5 (by decide) e); exact ⟨y1, y2, y3, y4, y5, y6.below hb3⟩), fun e => (by obtain ⟨y1, y2, y3, y4, y5, y6⟩ := K6.out (hne.out 6 (by decide) e); exact ⟨y1, y2, y3, y4, y5, y6.below hb3⟩), fun e => K7.out (hne.out 7 (by decide) e), fun e => (by obtain ⟨y1, y2, y3, y4, y5, y6⟩ := K8.out (hne.out 8 (by decide) e); exact ⟨y1, y2, y3, y4, y5.kept hb3, y6⟩), fun e => (by obtain ⟨y0, y1, y2, y3, y4, y5, y6, y7, y8, y9⟩ := K9.out (hne.out 9 (by decide) e); have hbK := hb3; exact ⟨getD_set_true y0, y1, y2, y3, y4, y5, y6, y7, y8.kept hbK, y9.below hbK⟩), hB.trans (hb3.mono hB.size)⟩
    · cases ho
      have d4 := hd ⟨4, .data⟩ (by simp) rfl
      obtain ⟨AS1, kS1, BS1, jS1, rfl, hoS1⟩ := K4.out d4
      refine wpOp_step rfl (fun K hK => ?_)
      go_simp
      refine hK _ _ ⟨by simpa using hz, v6, .tuple #[.agg #[.slice AS1 os.vs.length kS1, .slice BS1 os.ns.length jS1], .bool bb], v28, v29, v30, v31, .tuple #[.agg #[.slice AS1 os.vs.length kS1, .slice BS1 os.ns.length jS1], .bool bb], v33, v34, rfl, ?_⟩
      exact ⟨fun e => K0.out (hne.out 0 (by decide) e), fun e => (by obtain ⟨y1, y2, y3, y4⟩ := K1.out (hne.out 1 (by decide) e); exact ⟨y1, y2, y3, fun q => y4 (set_false_getD q)⟩), fun e => K2.out (hne.out 2 (by decide) e), fun e => (by obtain ⟨y1, y2, y3, y4⟩ := K3.out (hne.out 3 (by decide) e); exact ⟨y1, y2, y3, fun q => y4 (set_false_getD q)⟩), fun e => K4.out (hne.out 4 (by decide) e), fun _ => ⟨_, _, _, _, rfl, hoS1⟩, fun e => K6.out (hne.out 6 (by decide) e), fun e => K7.out (hne.out 7 (by decide) e), fun e => K8.out (hne.out 8 (by decide) e), fun e => (by obtain ⟨y0, y1⟩ := K9.out (hne.out 9 (by decide) e); exact ⟨getD_set_true y0, y1⟩), hB⟩
    · cases ho
      have d5 := hd ⟨5, .data⟩ (by simp) rfl
      obtain ⟨AS2, kS2, BS2, jS2, rfl, hoS2⟩ := K5.out d5
      refine wpOp_step rfl (fun K hK => ?_)
      go_simp
      refine hK _ _ ⟨by simpa using hz, v6, .tuple #[.agg #[.slice AS2 os.vs.length kS2, .slice BS2 os.ns.length jS2], .bool bb], v28, v29, v30, v31, v32, .agg #[.slice AS2 os.vs.length kS2, .slice BS2 os.ns.length jS2], v34, rfl, ?_⟩
      exact ⟨fun e => K0.out (hne.out 0 (by decide) e), fun e => (by obtain ⟨y1, y2, y3, y4⟩ := K1.out (hne.out 1 (by decide) e); exact ⟨y1, y2, y3, fun q => y4 (set_false_getD q)⟩), fun e => K2.out (hne.out 2 (by decide) e), fun e => (by obtain ⟨y1, y2, y3, y4⟩ := K3.out (hne.out 3 (by decide) e); exact ⟨y1, y2, y3, fun q => y4 (set_false_getD q)⟩), fun e => K4.out (hne.out 4 (by decide) e), fun e => K5.out (hne.out 5 (by decide) e), fun _ => ⟨_, _, _, _, rfl, hoS2⟩, fun e => K7.out (hne.out 7 (by decide) e), fun e => K8.out (hne.out 8 (by decide) e), fun e => (by obtain ⟨y0, y1⟩ := K9.out (hne.out 9 (by decide) e); exact ⟨getD_set_true y0, y1⟩), hB⟩
    · cases ho
      have d5 := hd ⟨5, .data⟩ (by simp) rfl
      obtain ⟨AS2, kS2, BS2, jS2, rfl, hoS2⟩ := K5.out d5
      refine wpOp_step rfl (fun K hK => ?_)
      go_simp
      refine hK _ _ ⟨by simpa using hz, v6, .tuple #[.agg #[.slice AS2 os.vs.length kS2, .slice BS2 os.ns.length jS2], .bool bb], v28, v29, v30, v31, v32, v33, .bool bb, rfl, ?_⟩
      exact ⟨fun e => K0.out (hne.out 0 (by decide) e), fun e => (by obtain ⟨y1, y2, y3, y4⟩ := K1.out (hne.out 1 (by decide) e); exact ⟨y1, y2, y3, fun q => y4 (set_false_getD q)⟩), fun e => K2.out (hne.out 2 (by decide) e), fun e => (by obtain ⟨y1, y2, y3, y4⟩ := K3.out (hne.out 3 (by decide) e); exact ⟨y1, y2, y3, fun q => y4 (set_false_getD q)⟩), fun e => K4.out (hne.out 4 (by decide) e), fun e => K5.out (hne.out 5 (by decide) e), fun e => K6.out (hne.out 6 (by decide) e), fun _ => rfl, fun e => K8.out (hne.out 8 (by decide) e), fun e => (by obtain ⟨y0, y1⟩ := K9.out (hne.out 9 (by decide) e); exact ⟨getD_set_true y0, y1⟩), hB⟩
    · cases ho
      refine wpOp_step rfl (fun K hK => ?_)
      go_simp
      refine hK _ _ ⟨by simpa using hz, .pointer (some ⟨wx.heap.size, 0, none⟩), v27, v28, v29, v30, v31, v32, v33, v34, rfl, ?_⟩
      exact ⟨fun e => K0.out (hne.out 0 (by decide) e), fun e => (by obtain ⟨y1, y2, y3, y4⟩ := K1.out (hne.out 1 (by decide) e); exact ⟨y1, y2, y3, fun q => (y4 (set_false_getD q)).below ((Below.refl _ _).alloc (Nat.le_refl _) _)⟩), fun e => K2.out (hne.out 2 (by decide) e), fun e => (by obtain ⟨y1, y2, y3, y4⟩ := K3.out (hne.out 3 (by decide) e); exact ⟨y1, y2, y3, fun q => (y4 (set_false_getD q)).below ((Below.refl _ _).alloc (Nat.le_refl _) _)⟩), fun e => (by obtain ⟨y1, y2, y3, y4, y5, y6⟩ := K4.out (hne.out 4 (by decide) e); exact ⟨y1, y2, y3, y4, y5, y6.below ((Below.refl _ _).alloc (Nat.le_refl _) _)⟩), fun e => (by obtain ⟨y1, y2, y3, y4, y5, y6⟩ := K5.out (hne.out 5 (by decide) e); exact ⟨y1, y2, y3, y4, y5, y6.below ((Below.refl _ _).alloc (Nat.le_refl _) _)⟩), fun e => (by obtain ⟨y1, y2, y3, y4, y5, y6⟩ := K6.out (hne.out 6 (by decide) e); exact ⟨y1, y2, y3, y4, y5, y6.below ((Below.refl _ _).alloc (Nat.le_refl _) _)⟩), fun e => K7.out (hne.out 7 (by decide) e), fun _ => ⟨_, _, rfl, hB.size, Has.new _ _ _, rfl⟩, fun e => absurd (K9.out (hne.out 9 (by decide) e)).1 (by rw [h0f]; decide), hB.alloc hB.size _⟩
    · cases ho
      have d4 := hd ⟨4, .chain⟩ (by simp) rfl
      have d8 := hd ⟨8, .data⟩ (by simp) rfl
      have d6 := hd ⟨6, .data⟩ (by simp) rfl
      obtain ⟨G9, cs9, rfl, hG0, hG, hcs9⟩ := K8.out d8
      obtain ⟨AS3, kS3, BS3, jS3, rfl, hoS3⟩ := K6.out d6
      have hgc := hG.cell
      have hgf := hG.frozen
      obtain ⟨x0, x1, rfl⟩ := two_cells hcs9
      refine wpOp_step rfl (fun K hK => ?_)
      go_simp
      refine hK _ _ ⟨by simpa using hz, .pointer (some ⟨G9, 0, none⟩), v27, v28, v29, v30, v31, v32, .agg #[.slice AS3 os.vs.length kS3, .slice BS3 os.ns.length jS3], v34, rfl, ?_⟩
      exact ⟨fun e => K0.out (hne.out 0 (by decide) e), fun e => (by obtain ⟨y1, y2, y3, y4⟩ := K1.out (hne.out 1 (by decide) e); exact ⟨y1, y2, y3, fun q => absurd (set_false_getD q) (by rw [d4]; decide)⟩), fun e => K2.out (hne.out 2 (by decide) e), fun e => (by obtain ⟨y1, y2, y3, y4⟩ := K3.out (hne.out 3 (by decide) e); exact ⟨y1, y2, y3, fun q => absurd (set_false_getD q) (by rw [d4]; decide)⟩), fun e => (by obtain ⟨y1, y2, y3, y4, y5, y6⟩ := K4.out (hne.out 4 (by decide) e); exact ⟨y1, y2, y3, y4, y5, y6.put2 hG (.slice AS3 os.vs.length kS3) (.slice BS3 os.ns.length jS3)⟩), fun e => (by obtain ⟨y1, y2, y3, y4, y5, y6⟩ := K5.out (hne.out 5 (by decide) e); exact ⟨y1, y2, y3, y4, y5, y6.put2 hG (.slice AS3 os.vs.length kS3) (.slice BS3 os.ns.length jS3)⟩), fun e => (by obtain ⟨y1, y2, y3, y4, y5, y6⟩ := K6.out (hne.out 6 (by decide) e); exact ⟨y1, y2, y3, y4, y5, y6.put2 hG (.slice AS3 os.vs.length kS3) (.slice BS3 os.ns.length jS3)⟩), fun e => K7.out (hne.out 7 (by decide) e), fun e => (by obtain ⟨y1, y2, y3, y4, y5, y6⟩ := K8.out (hne.out 8 (by decide) e); injection y3 with y3; injection y3 with y3; injection y3 with y3 _ _; exact ⟨G9, _, rfl, hG0, (hG.put 0 (.slice AS3 os.vs.length kS3)).put 1 (.slice BS3 os.ns.length jS3), rfl⟩), fun _ => ⟨getD_set_true d8, G9, _, _, _, _, rfl, hG0, (hG.put 0 (.slice AS3 os.vs.length kS3)).put 1 (.slice BS3 os.ns.length jS3), hoS3.put2 hG (.slice AS3 os.vs.length kS3) (.slice BS3 os.ns.length jS3)⟩, (hB.setCell (p := ⟨G9, 0, none⟩) hG0 _).setCell (p := ⟨G9, 1, none⟩) hG0 _⟩
  case hl =>
    rintro listed aq wx ⟨hz, v6, v27, v28, v29, v30, v31, v32, v33, v34, rfl, hII⟩ hall
    have K0 := Lib.hid hII.1
    have K1 := Lib.hid hII.2.1
    have K2 := Lib.hid hII.2.2.1
    have K3 := Lib.hid hII.2.2.2.1
    have K4 := Lib.hid hII.2.2.2.2.1
    have K5 := Lib.hid hII.2.2.2.2.2.1
    have K6 := Lib.hid hII.2.2.2.2.2.2.1
    have K7 := Lib.hid hII.2.2.2.2.2.2.2.1
    have K8 := Lib.hid hII.2.2.2.2.2.2.2.2.1
    have K9 := Lib.hid hII.2.2.2.2.2.2.2.2.2.1
    have hB : Below w2.heap.size w2 wx := hII.2.2.2.2.2.2.2.2.2.2
    have hx0 := Has.kept (by exact bf0_2.out) hB
    have hx1 := Has.kept (by exact bf1_2.out) hB
    clear hII
    obtain rfl := K0.out (hall 0 (by decide))
    obtain ⟨zS01, zS02, rfl, hfc0⟩ := K1.out (hall 1 (by decide))
    obtain rfl := K2.out (hall 2 (by decide))
    obtain ⟨zS11, zS12, rfl, hfc1⟩ := K3.out (hall 3 (by decide))
    obtain ⟨AS1, kS1, BS1, jS1, rfl, hoS1⟩ := K4.out (hall 4 (by decide))
    obtain ⟨AS2, kS2, BS2, jS2, rfl, hoS2⟩ := K5.out (hall 5 (by decide))
    obtain ⟨AS3, kS3, BS3, jS3, rfl, hoS3⟩ := K6.out (hall 6 (by decide))
    obtain rfl := K7.out (hall 7 (by decide))
    obtain ⟨G9, cs9, rfl, hG0, hG, hcs9⟩ := K8.out (hall 8 (by decide))
    obtain ⟨_, GS, AS0, kS0, BS0, jS0, hvE, hGS0, hGSh, hoS0⟩ := K9.out (hall 9 (by decide))
    obtain rfl : G9 = GS := by injection hvE with q; injection q with q; injection q
    clear hvE hG0 hG hcs9
    clear hall K0 K1 K2 K3 K4 K5 K6 K7 K8 K9
    unfold wpSeq
    refine wpOp_step rfl (fun K0 hK0 => ?_)
    go_simp
    refine hK0 _ _ ?_
    clear hK0
    unfold wpSeq
    have hcoE := hGSh
    have hbE : Below w2.heap.size w2 wx := hB
    have hoE := hoS0
    clear hB hoS0 hGSh
    generalize wx = w3 at hcoE hbE hoE ⊢
    have hGlS := Has.lt hcoE
    have hoS_3 := Lib.hid (FcB.pl hoE)
    have hcoS_3 := Lib.hid hcoE
    clear hoE hcoE
    have hB3 : Below W.heap.size W w3 := hB2.trans (hbE.mono hB2.size)
    have hz3 := hbE.size
    have hy3 := hB3.size
    have bf0_3 := Lib.hid (Has.kept (by exact bf0_2.out) hbE)
    clear bf0_2
    have bf1_3 := Lib.hid (Has.kept (by exact bf1_2.out) hbE)
    clear bf1_2
    have hc_bf0 := bf0_3.out.cell
    have hc_bf1 := bf1_3.out.cell
    clear hbE
    clear hc_bf0
    clear hc_bf1
    have hc_bf0 := bf0_3.out.cell
    have hc_bf1 := bf1_3.out.cell
    have hc_coS0 := hcoS_3.out.cell
    go_wp2_with fail
    refine (toFactor_own A0 B0 n0 c0 m0 e0 F0 _ (hH0.out.below hB3) hbig0 hbgm0).mono ?_
    rintro e w4 ⟨g4, qg4, rfl, pl4, hne4, hb4⟩
    have hB4 : Below W.heap.size W w4 := hB3.trans (hb4.mono hB3.size)
    have hz4 := hb4.size
    have hy4 := hB4.size
    have oS0_4 := Lib.hid (hoS_3.out.below hb4)
    clear hoS_3
    have bf0_4 := Lib.hid (Has.kept (by exact bf0_3.out) hb4)
    clear bf0_3
    have bf1_4 := Lib.hid (Has.kept (by exact bf1_3.out) hb4)
    clear bf1_3
    have coS0_4 := Lib.hid (Has.kept (by exact hcoS_3.out) hb4)
    clear hcoS_3
    clear hc_bf0
    clear hc_bf1
    clear hc_coS0
    have hc_bf0 := bf0_4.out.cell
    have hc_bf1 := bf1_4.out.cell
    have hc_coS0 := coS0_4.out.cell
    have x0_4 := Lib.hid pl4
    have hd_x0 := Lib.hid (slices_apart (n := n0) (c := n0) (m := m0) (d := m0) hne4)
    clear pl4 hb4 hne4
    have hb5 : Below w4.heap.size w4 (w4.alloc (.cells #[.slice (some ⟨g4, 0, none⟩) n0 n0, .slice (some ⟨qg4, 0, none⟩) m0 m0] 27)) := (Below.refl _ _).alloc (Nat.le_refl _) _
    have hsz5 : (w4.alloc (.cells #[.slice (some ⟨g4, 0, none⟩) n0 n0, .slice (some ⟨qg4, 0, none⟩) m0 m0] 27)).heap.size = w4.heap.size + 1 := by simp
    have cx0_n := Lib.hid (Has.new w4 27 #[.slice (some ⟨g4, 0, none⟩) n0 n0, .slice (some ⟨qg4, 0, none⟩) m0 m0])
    have hB5 : Below W.heap.size W (w4.alloc (.cells #[.slice (some ⟨g4, 0, none⟩) n0 n0, .slice (some ⟨qg4, 0, none⟩) m0 m0] 27)) := hB4.trans (hb5.mono hB4.size)
    have hz5 := hb5.size
    have hy5 := hB5.size
    have oS0_5 := Lib.hid (oS0_4.out.below hb5)
    clear oS0_4
    have x0_5 := Lib.hid (x0_4.out.below hb5)
    clear x0_4
    have bf0_5 := Lib.hid (Has.kept (by exact bf0_4.out) hb5)
    clear bf0_4
    have bf1_5 := Lib.hid (Has.kept (by exact bf1_4.out) hb5)
    clear bf1_4
    have coS0_5 := Lib.hid (Has.kept (by exact coS0_4.out) hb5)
    clear coS0_4
    clear hc_bf0
    clear hc_bf1
    clear hc_coS0
    have hc_bf0 := bf0_5.out.cell
    have hc_bf1 := bf1_5.out.cell
    have hc_coS0 := coS0_5.out.cell
    clear hc_bf0
    clear hc_bf1
    clear hc_coS0
    have hc_bf0 := bf0_5.out.cell
    have hc_bf1 := bf1_5.out.cell
    have hc_coS0 := coS0_5.out.cell
    have hc_cx0 := cx0_n.out.cell
    clear hb5
    go_wp2_with fail
    refine (toFactor_own A1 B1 n1 c1 m1 e1 F1 _ (hH1.out.below hB5) hbig1 hbgm1).mono ?_
    rintro e w6 ⟨g6, qg6, rfl, pl6, hne6, hb6⟩
    have hB6 : Below W.heap.size W w6 := hB5.trans (hb6.mono hB5.size)
    have hz6 := hb6.size
    have hy6 := hB6.size
    have oS0_6 := Lib.hid (oS0_5.out.below hb6)
    clear oS0_5
    have x0_6 := Lib.hid (x0_5.out.below hb6)
    clear x0_5
    have bf0_6 := Lib.hid (Has.kept (by exact bf0_5.out) hb6)
    clear bf0_5
    have bf1_6 := Lib.hid (Has.kept (by exact bf1_5.out) hb6)
    clear bf1_5
    have coS0_6 := Lib.hid (Has.kept (by exact coS0_5.out) hb6)
    clear coS0_5
    have cx0_6 := Lib.hid (Has.kept (by exact cx0_n.out) hb6)
    clear cx0_n
    clear hc_bf0
    clear hc_bf1
    clear hc_coS0
    clear hc_cx0
    have hc_bf0 := bf0_6.out.cell
    have hc_bf1 := bf1_6.out.cell
    have hc_coS0 := coS0_6.out.cell
    have hc_cx0 := cx0_6.out.cell
    have x1_6 := Lib.hid pl6
    have hd_x1 := Lib.hid (slices_apart (n := n1) (c := n1) (m := m1) (d := m1) hne6)
    clear pl6 hb6 hne6
    have hb7 : Below w6.heap.size w6 (w6.alloc (.cells #[.slice (some ⟨g6, 0, none⟩) n1 n1, .slice (some ⟨qg6, 0, none⟩) m1 m1] 27)) := (Below.refl _ _).alloc (Nat.le_refl _) _
    have hsz7 : (w6.alloc (.cells #[.slice (some ⟨g6, 0, none⟩) n1 n1, .slice (some ⟨qg6, 0, none⟩) m1 m1] 27)).heap.size = w6.heap.size + 1 := by simp
    have cx1_n := Lib.hid (Has.new w6 27 #[.slice (some ⟨g6, 0, none⟩) n1 n1, .slice (some ⟨qg6, 0, none⟩) m1 m1])
    have hB7 : Below W.heap.size W (w6.alloc (.cells #[.slice (some ⟨g6, 0, none⟩) n1 n1, .slice (some ⟨qg6, 0, none⟩) m1 m1] 27)) := hB6.trans (hb7.mono hB6.size)
    have hz7 := hb7.size
    have hy7 := hB7.size
    have oS0_7 := Lib.hid (oS0_6.out.below hb7)
    clear oS0_6
    have x0_7 := Lib.hid (x0_6.out.below hb7)
    clear x0_6
    have x1_7 := Lib.hid (x1_6.out.below hb7)
    clear x1_6
    have bf0_7 := Lib.hid (Has.kept (by exact bf0_6.out) hb7)
    clear bf0_6
    have bf1_7 := Lib.hid (Has.kept (by exact bf1_6.out) hb7)
    clear bf1_6
    have coS0_7 := Lib.hid (Has.kept (by exact coS0_6.out) hb7)
    clear coS0_6
    have cx0_7 := Lib.hid (Has.kept (by exact cx0_6.out) hb7)
    clear cx0_6
    clear hc_bf0
    clear hc_bf1
    clear hc_coS0
    clear hc_cx0
    have hc_bf0 := bf0_7.out.cell
    have hc_bf1 := bf1_7.out.cell
    have hc_coS0 := coS0_7.out.cell
    have hc_cx0 := cx0_7.out.cell
    clear hc_bf0
    clear hc_bf1
    clear hc_coS0
    clear hc_cx0
    have hc_bf0 := bf0_7.out.cell
    have hc_bf1 := bf1_7.out.cell
    have hc_coS0 := coS0_7.out.cell
    have hc_cx0 := cx0_7.out.cell
    have hc_cx1 := cx1_n.out.cell
    clear hb7
    go_wp2_with fail
    refine (cI.out _ _ _ _ _ (FcB.fac x0_7.out.1) (FcB.fac x1_7.out.1)).mono ?_
    rintro e w8 ⟨vI0, uI0, rfl, hoI0, hb⟩
    have hB8 : Below W.heap.size W w8 := hB7.trans (hb.mono hB7.size)
    have hz8 := hb.size
    have hy8 := hB8.size
    have oS0_8 := Lib.hid (oS0_7.out.below hb)
    clear oS0_7
    have x0_8 := Lib.hid (x0_7.out.below hb)
    clear x0_7
    have x1_8 := Lib.hid (x1_7.out.below hb)
    clear x1_7
    have bf0_8 := Lib.hid (Has.kept (by exact bf0_7.out) hb)
    clear bf0_7
    have bf1_8 := Lib.hid (Has.kept (by exact bf1_7.out) hb)
    clear bf1_7
    have coS0_8 := Lib.hid (Has.kept (by exact coS0_7.out) hb)
    clear coS0_7
    have cx0_8 := Lib.hid (Has.kept (by exact cx0_7.out) hb)
    clear cx0_7
    have cx1_8 := Lib.hid (Has.kept (by exact cx1_n.out) hb)
    clear cx1_n
    clear hc_bf0
    clear hc_bf1
    clear hc_coS0
    clear hc_cx0
    clear hc_cx1
    have hc_bf0 := bf0_8.out.cell
    have hc_bf1 := bf1_8.out.cell
    have hc_coS0 := coS0_8.out.cell
    have hc_cx0 := cx0_8.out.cell
    have hc_cx1 := cx1_8.out.cell
    obtain ⟨AI0, kI0, hv8, _, _⟩ := IOwn.form hoI0.1
    subst hv8
    obtain ⟨BI0, jI0, hv8, _, _⟩ := IOwn.form hoI0.2.1
    subst hv8
    have oI0_8 := Lib.hid (FcB.pl hoI0)
    have hdI0 := Lib.hid hoI0.2.2
    clear hoI0
    clear hb
    have hb9 : Below w8.heap.size w8 (w8.alloc (.cells #[.slice AI0 os.vs.length kI0, .slice BI0 os.ns.length jI0] 27)) := (Below.refl _ _).alloc (Nat.le_refl _) _
    have hsz9 : (w8.alloc (.cells #[.slice AI0 os.vs.length kI0, .slice BI0 os.ns.length jI0] 27)).heap.size = w8.heap.size + 1 := by simp
    have coI0_n := Lib.hid (Has.new w8 27 #[.slice AI0 os.vs.length kI0, .slice BI0 os.ns.length jI0])
    have hB9 : Below W.heap.size W (w8.alloc (.cells #[.slice AI0 os.vs.length kI0, .slice BI0 os.ns.length jI0] 27)) := hB8.trans (hb9.mono hB8.size)
    have hz9 := hb9.size
    have hy9 := hB9.size
    have oS0_9 := Lib.hid (oS0_8.out.below hb9)
    clear oS0_8
    have x0_9 := Lib.hid (x0_8.out.below hb9)
    clear x0_8
    have x1_9 := Lib.hid (x1_8.out.below hb9)
    clear x1_8
    have oI0_9 := Lib.hid (oI0_8.out.below hb9)
    clear oI0_8
    have bf0_9 := Lib.hid (Has.kept (by exact bf0_8.out) hb9)
    clear bf0_8
    have bf1_9 := Lib.hid (Has.kept (by exact bf1_8.out) hb9)
    clear bf1_8
    have coS0_9 := Lib.hid (Has.kept (by exact coS0_8.out) hb9)
    clear coS0_8
    have cx0_9 := Lib.hid (Has.kept (by exact cx0_8.out) hb9)
    clear cx0_8
    have cx1_9 := Lib.hid (Has.kept (by exact cx1_8.out) hb9)
    clear cx1_8
    clear hc_bf0
    clear hc_bf1
    clear hc_coS0
    clear hc_cx0
    clear hc_cx1
    have hc_bf0 := bf0_9.out.cell
    have hc_bf1 := bf1_9.out.cell
    have hc_coS0 := coS0_9.out.cell
    have hc_cx0 := cx0_9.out.cell
    have hc_cx1 := cx1_9.out.cell
    clear hc_bf0
    clear hc_bf1
    clear hc_coS0
    clear hc_cx0
    clear hc_cx1
    have hc_bf0 := bf0_9.out.cell
    have hc_bf1 := bf1_9.out.cell
    have hc_coS0 := coS0_9.out.cell
    have hc_cx0 := cx0_9.out.cell
    have hc_cx1 := cx1_9.out.cell
    have hc_coI0 := coI0_n.out.cell
    clear hb9
    go_wp2_with fail
    refine (eqFactor_same AI0 BI0 AS0 BS0 os.vs.length kI0 os.ns.length jI0 _ kS0 _ jS0 os _ (FcB.fac oI0_9.out.1) (FcB.fac oS0_9.out.1) (by unfold maxLen; omega) (by unfold maxLen; omega)).mono ?_
    rintro e w10 ⟨rfl, hb10⟩
    have hB10 : Below W.heap.size W w10 := hB9.trans (hb10.mono hB9.size)
    have hz10 := hb10.size
    have hy10 := hB10.size
    have oS0_10 := Lib.hid (oS0_9.out.below hb10)
    clear oS0_9
    have x0_10 := Lib.hid (x0_9.out.below hb10)
    clear x0_9
    have x1_10 := Lib.hid (x1_9.out.below hb10)
    clear x1_9
    have oI0_10 := Lib.hid (oI0_9.out.below hb10)
    clear oI0_9
    have bf0_10 := Lib.hid (Has.kept (by exact bf0_9.out) hb10)
    clear bf0_9
    have bf1_10 := Lib.hid (Has.kept (by exact bf1_9.out) hb10)
    clear bf1_9
    have coS0_10 := Lib.hid (Has.kept (by exact coS0_9.out) hb10)
    clear coS0_9
    have cx0_10 := Lib.hid (Has.kept (by exact cx0_9.out) hb10)
    clear cx0_9
    have cx1_10 := Lib.hid (Has.kept (by exact cx1_9.out) hb10)
    clear cx1_9
    have coI0_10 := Lib.hid (Has.kept (by exact coI0_n.out) hb10)
    clear coI0_n
    clear hc_bf0
    clear hc_bf1
    clear hc_coS0
    clear hc_cx0
    clear hc_cx1
    clear hc_coI0
    have hc_bf0 := bf0_10.out.cell
    have hc_bf1 := bf1_10.out.cell
    have hc_coS0 := coS0_10.out.cell
    have hc_cx0 := cx0_10.out.cell
    have hc_cx1 := cx1_10.out.cell
    have hc_coI0 := coI0_10.out.cell
    clear hb10
    have hOk := Lib.hid (fun (wx : World) (hx : Below w10.heap.size w10 wx) => (show Below w10.heap.size w10 wx ∧ wx.cell? ⟨W.heap.size, 0, none⟩ = some (.slice A0 n0 c0) ∧ wx.cell? ⟨W.heap.size, 1, none⟩ = some (.slice B0 m0 e0) ∧ wx.cell? ⟨w4.heap.size, 0, none⟩ = some (.slice (some ⟨g4, 0, none⟩) n0 n0) ∧ wx.cell? ⟨w4.heap.size, 1, none⟩ = some (.slice (some ⟨qg4, 0, none⟩) m0 m0) from ⟨hx, (Has.kept (by exact bf0_10.out) hx).cell 0, (Has.kept (by exact bf0_10.out) hx).cell 1, (Has.kept (by exact cx0_10.out) hx).cell 0, (Has.kept (by exact cx0_10.out) hx).cell 1⟩))
    have cT := Lib.hid (fun (wx : World) (hx : Below w10.heap.size w10 wx) => toFactor_own A0 B0 n0 c0 m0 e0 F0 wx (hH0.out.below (hB10.trans (hx.mono hB10.size))) hbig0 hbgm0)
    have hX := Lib.hid (fun (wx : World) (hx : Below w10.heap.size w10 wx) => FcB.fac (x0_10.out.below hx).1)
    have hM := Lib.hid (show n0 ≤ maxLen ∧ m0 ≤ maxLen by unfold maxLen; omega)
    go_wp2_with fail
    clear hc_bf0
    clear hc_bf1
    clear hc_coS0
    clear hc_cx0
    clear hc_cx1
    clear hc_coI0
    obtain ⟨_, hc0e, hc1e, hc2e, hc3e⟩ := hOk.out w10 (Below.refl _ _)
    go_region_held3 (fun wx => Below w10.heap.size w10 wx ∧ wx.cell? ⟨W.heap.size, 0, none⟩ = some (.slice A0 n0 c0) ∧ wx.cell? ⟨W.heap.size, 1, none⟩ = some (.slice B0 m0 e0) ∧ wx.cell? ⟨w4.heap.size, 0, none⟩ = some (.slice (some ⟨g4, 0, none⟩) n0 n0) ∧ wx.cell? ⟨w4.heap.size, 1, none⟩ = some (.slice (some ⟨qg4, 0, none⟩) m0 m0)) (first | exact hOk.out _ ((Below.refl _ _).drew) | exact hOk.out _ (Below.refl _ _) | exact hOk.out _ (bt6 (by assumption) hbr) | exact hOk.out _ (bt6 (by assumption) hbq) | exact hOk.out _ (bs6 (by assumption)) | exact hOk.out _ (bd6 (by assumption)) | go_keep) (first | (go_at_call 17; refine (cT.out _ (And.left (by assumption))).mono ?_; rintro e q ⟨g11, qg11, rfl, pl11, hne11, hbq⟩) | (go_at_call 19; refine (eqFactor_same _ _ _ _ n0 n0 m0 m0 n0 n0 m0 m0 F0 _ (hX.out _ (And.left (by assumption))) (FcB.fac pl11.1) hM.out.1 hM.out.2).mono ?_; rintro e w12 ⟨rfl, hbr⟩))
    rename_i hHeld
    have hb12 := hHeld.1
    clear hHeld hOk cT hX hM hc0e hc1e hc2e hc3e hbr hbq pl11 hne11
    have hB12 : Below W.heap.size W w12 := hB10.trans (hb12.mono hB10.size)
    have hz12 := hb12.size
    have hy12 := hB12.size
    have oS0_12 := Lib.hid (oS0_10.out.below hb12)
    clear oS0_10
    have x0_12 := Lib.hid (x0_10.out.below hb12)
    clear x0_10
    have x1_12 := Lib.hid (x1_10.out.below hb12)
    clear x1_10
    have oI0_12 := Lib.hid (oI0_10.out.below hb12)
    clear oI0_10
    have bf0_12 := Lib.hid (Has.kept (by exact bf0_10.out) hb12)
    clear bf0_10
    have bf1_12 := Lib.hid (Has.kept (by exact bf1_10.out) hb12)
    clear bf1_10
    have coS0_12 := Lib.hid (Has.kept (by exact coS0_10.out) hb12)
    clear coS0_10
    have cx0_12 := Lib.hid (Has.kept (by exact cx0_10.out) hb12)
    clear cx0_10
    have cx1_12 := Lib.hid (Has.kept (by exact cx1_10.out) hb12)
    clear cx1_10
    have coI0_12 := Lib.hid (Has.kept (by exact coI0_10.out) hb12)
    clear coI0_10
    have hc_bf0 := bf0_12.out.cell
    have hc_bf1 := bf1_12.out.cell
    have hc_coS0 := coS0_12.out.cell
    have hc_cx0 := cx0_12.out.cell
    have hc_cx1 := cx1_12.out.cell
    have hc_coI0 := coI0_12.out.cell
    clear hb12
    have hOk := Lib.hid (fun (wx : World) (hx : Below w12.heap.size w12 wx) => (show Below w12.heap.size w12 wx ∧ wx.cell? ⟨W.heap.size + 1, 0, none⟩ = some (.slice A1 n1 c1) ∧ wx.cell? ⟨W.heap.size + 1, 1, none⟩ = some (.slice B1 m1 e1) ∧ wx.cell? ⟨w6.heap.size, 0, none⟩ = some (.slice (some ⟨g6, 0, none⟩) n1 n1) ∧ wx.cell? ⟨w6.heap.size, 1, none⟩ = some (.slice (some ⟨qg6, 0, none⟩) m1 m1) from ⟨hx, (Has.kept (by exact bf1_12.out) hx).cell 0, (Has.kept (by exact bf1_12.out) hx).cell 1, (Has.kept (by exact cx1_12.out) hx).cell 0, (Has.kept (by exact cx1_12.out) hx).cell 1⟩))
    have cT := Lib.hid (fun (wx : World) (hx : Below w12.heap.size w12 wx) => toFactor_own A1 B1 n1 c1 m1 e1 F1 wx (hH1.out.below (hB12.trans (hx.mono hB12.size))) hbig1 hbgm1)
    have hX := Lib.hid (fun (wx : World) (hx : Below w12.heap.size w12 wx) => FcB.fac (x1_12.out.below hx).1)
    have hM := Lib.hid (show n1 ≤ maxLen ∧ m1 ≤ maxLen by unfold maxLen; omega)
    go_wp2_with fail
    clear hc_bf0
    clear hc_bf1
    clear hc_coS0
    clear hc_cx0
    clear hc_cx1
    clear hc_coI0
    obtain ⟨_, hc0e, hc1e, hc2e, hc3e⟩ := hOk.out w12 (Below.refl _ _)
    go_region_held3 (fun wx => Below w12.heap.size w12 wx ∧ wx.cell? ⟨W.heap.size + 1, 0, none⟩ = some (.slice A1 n1 c1) ∧ wx.cell? ⟨W.heap.size + 1, 1, none⟩ = some (.slice B1 m1 e1) ∧ wx.cell? ⟨w6.heap.size, 0, none⟩ = some (.slice (some ⟨g6, 0, none⟩) n1 n1) ∧ wx.cell? ⟨w6.heap.size, 1, none⟩ = some (.slice (some ⟨qg6, 0, none⟩) m1 m1)) (first | exact hOk.out _ ((Below.refl _ _).drew) | exact hOk.out _ (Below.refl _ _) | exact hOk.out _ (bt6 (by assumption) hbr) | exact hOk.out _ (bt6 (by assumption) hbq) | exact hOk.out _ (bs6 (by assumption)) | exact hOk.out _ (bd6 (by assumption)) | go_keep) (first | (go_at_call 17; refine (cT.out _ (And.left (by assumption))).mono ?_; rintro e q ⟨g13, qg13, rfl, pl13, hne13, hbq⟩) | (go_at_call 19; refine (eqFactor_same _ _ _ _ n1 n1 m1 m1 n1 n1 m1 m1 F1 _ (hX.out _ (And.left (by assumption))) (FcB.fac pl13.1) hM.out.1 hM.out.2).mono ?_; rintro e w14 ⟨rfl, hbr⟩))
    rename_i hHeld
    have hb14 := hHeld.1
    clear hHeld hOk cT hX hM hc0e hc1e hc2e hc3e hbr hbq pl13 hne13
    have hB14 : Below W.heap.size W w14 := hB12.trans (hb14.mono hB12.size)
    have hz14 := hb14.size
    have hy14 := hB14.size
    have oS0_14 := Lib.hid (oS0_12.out.below hb14)
    clear oS0_12
    have x0_14 := Lib.hid (x0_12.out.below hb14)
    clear x0_12
    have x1_14 := Lib.hid (x1_12.out.below hb14)
    clear x1_12
    have oI0_14 := Lib.hid (oI0_12.out.below hb14)
    clear oI0_12
    have bf0_14 := Lib.hid (Has.kept (by exact bf0_12.out) hb14)
    clear bf0_12
    have bf1_14 := Lib.hid (Has.kept (by exact bf1_12.out) hb14)
    clear bf1_12
    have coS0_14 := Lib.hid (Has.kept (by exact coS0_12.out) hb14)
    clear coS0_12
    have cx0_14 := Lib.hid (Has.kept (by exact cx0_12.out) hb14)
    clear cx0_12
    have cx1_14 := Lib.hid (Has.kept (by exact cx1_12.out) hb14)
    clear cx1_12
    have coI0_14 := Lib.hid (Has.kept (by exact coI0_12.out) hb14)
    clear coI0_12
    have hc_bf0 := bf0_14.out.cell
    have hc_bf1 := bf1_14.out.cell
    have hc_coS0 := coS0_14.out.cell
    have hc_cx0 := cx0_14.out.cell
    have hc_cx1 := cx1_14.out.cell
    have hc_coI0 := coI0_14.out.cell
    clear hb14
    go_wp2_with fail
    refine (markF_pl (some ⟨g4, 0, none⟩) (some ⟨qg4, 0, none⟩) n0 n0 m0 m0 _ _ 1 F0 _ x0_14.out hd_x0.out (by omega) (by omega) (by omega) (by omega)).mono ?_
    rintro e w15 ⟨rfl, hk15, pl15⟩
    have hB15 : Below W.heap.size W w15 := below_but hB14 hk15 (fun k hk => by omega)
    have hz15 := hk15.size
    have hy15 := hB15.size
    have oS0_15 := Lib.hid (oS0_14.out.but hk15 (fun k hk hk2 => by omega))
    clear oS0_14
    have x1_15 := Lib.hid (x1_14.out.but hk15 (fun k hk hk2 => by omega))
    clear x1_14
    have oI0_15 := Lib.hid (oI0_14.out.but hk15 (fun k hk hk2 => by omega))
    clear oI0_14
    have bf0_15 := Lib.hid (bf0_14.out.but hk15 (fun hk2 => by omega))
    clear bf0_14
    have bf1_15 := Lib.hid (bf1_14.out.but hk15 (fun hk2 => by omega))
    clear bf1_14
    have coS0_15 := Lib.hid (coS0_14.out.but hk15 (fun hk2 => by omega))
    clear coS0_14
    have cx0_15 := Lib.hid (cx0_14.out.but hk15 (fun hk2 => by omega))
    clear cx0_14
    have cx1_15 := Lib.hid (cx1_14.out.but hk15 (fun hk2 => by omega))
    clear cx1_14
    have coI0_15 := Lib.hid (coI0_14.out.but hk15 (fun hk2 => by omega))
    clear coI0_14
    clear hc_bf0
    clear hc_bf1
    clear hc_coS0
    clear hc_cx0
    clear hc_cx1
    clear hc_coI0
    have hc_bf0 := bf0_15.out.cell
    have hc_bf1 := bf1_15.out.cell
    have hc_coS0 := coS0_15.out.cell
    have hc_cx0 := cx0_15.out.cell
    have hc_cx1 := cx1_15.out.cell
    have hc_coI0 := coI0_15.out.cell
    clear x0_14
    have x0_15 := Lib.hid pl15
    clear hk15 pl15
    go_wp2_with fail
    refine (markF_pl (some ⟨g6, 0, none⟩) (some ⟨qg6, 0, none⟩) n1 n1 m1 m1 _ _ (1 + (n0 : Int) + (m0 : Int)) F1 _ x1_15.out hd_x1.out (by omega) (by omega) (by omega) (by omega)).mono ?_
    rintro e w16 ⟨rfl, hk16, pl16⟩
    have hB16 : Below W.heap.size W w16 := below_but hB15 hk16 (fun k hk => by omega)
    have hz16 := hk16.size
    have hy16 := hB16.size
    have oS0_16 := Lib.hid (oS0_15.out.but hk16 (fun k hk hk2 => by omega))
    clear oS0_15
    have x0_16 := Lib.hid (x0_15.out.but hk16 (fun k hk hk2 => by omega))
    clear x0_15
    have oI0_16 := Lib.hid (oI0_15.out.but hk16 (fun k hk hk2 => by omega))
    clear oI0_15
    have bf0_16 := Lib.hid (bf0_15.out.but hk16 (fun hk2 => by omega))
    clear bf0_15
    have bf1_16 := Lib.hid (bf1_15.out.but hk16 (fun hk2 => by omega))
    clear bf1_15
    have coS0_16 := Lib.hid (coS0_15.out.but hk16 (fun hk2 => by omega))
    clear coS0_15
    have cx0_16 := Lib.hid (cx0_15.out.but hk16 (fun hk2 => by omega))
    clear cx0_15
    have cx1_16 := Lib.hid (cx1_15.out.but hk16 (fun hk2 => by omega))
    clear cx1_15
    have coI0_16 := Lib.hid (coI0_15.out.but hk16 (fun hk2 => by omega))
    clear coI0_15
    clear hc_bf0
    clear hc_bf1
    clear hc_coS0
    clear hc_cx0
    clear hc_cx1
    clear hc_coI0
    have hc_bf0 := bf0_16.out.cell
    have hc_bf1 := bf1_16.out.cell
    have hc_coS0 := coS0_16.out.cell
    have hc_cx0 := cx0_16.out.cell
    have hc_cx1 := cx1_16.out.cell
    have hc_coI0 := coI0_16.out.cell
    clear x1_15
    have x1_16 := Lib.hid pl16
    clear hk16 pl16
    clear x0_16
    clear x1_16
    go_wp2_with fail
    refine (eqFactor_same AI0 BI0 AS0 BS0 os.vs.length kI0 os.ns.length jI0 _ kS0 _ jS0 os _ (FcB.fac oI0_16.out.1) (FcB.fac oS0_16.out.1) (by unfold maxLen; omega) (by unfold maxLen; omega)).mono ?_
    rintro e w17 ⟨rfl, hb17⟩
    have hB17 : Below W.heap.size W w17 := hB16.trans (hb17.mono hB16.size)
    have hz17 := hb17.size
    have hy17 := hB17.size
    have oS0_17 := Lib.hid (oS0_16.out.below hb17)
    clear oS0_16
    have oI0_17 := Lib.hid (oI0_16.out.below hb17)
    clear oI0_16
    have bf0_17 := Lib.hid (Has.kept (by exact bf0_16.out) hb17)
    clear bf0_16
    have bf1_17 := Lib.hid (Has.kept (by exact bf1_16.out) hb17)
    clear bf1_16
    have coS0_17 := Lib.hid (Has.kept (by exact coS0_16.out) hb17)
    clear coS0_16
    have cx0_17 := Lib.hid (Has.kept (by exact cx0_16.out) hb17)
    clear cx0_16
    have cx1_17 := Lib.hid (Has.kept (by exact cx1_16.out) hb17)
    clear cx1_16
    have coI0_17 := Lib.hid (Has.kept (by exact coI0_16.out) hb17)
    clear coI0_16
    clear hc_bf0
    clear hc_bf1
    clear hc_coS0
    clear hc_cx0
    clear hc_cx1
    clear hc_coI0
    have hc_bf0 := bf0_17.out.cell
    have hc_bf1 := bf1_17.out.cell
    have hc_coS0 := coS0_17.out.cell
    have hc_cx0 := cx0_17.out.cell
    have hc_cx1 := cx1_17.out.cell
    have hc_coI0 := coI0_17.out.cell
    clear hb17
    go_wp2_with fail
    refine (markF_pl AI0 BI0 os.vs.length kI0 os.ns.length jI0 _ _ 1 os _ oI0_17.out hdI0.out (by omega) (by omega) (by omega) (by omega)).mono ?_
    rintro e w18 ⟨rfl, hk18, pl18⟩
    have hB18 : Below W.heap.size W w18 := below_but hB17 hk18 (fun k hk => by omega)
    have hz18 := hk18.size
    have hy18 := hB18.size
    have oS0_18 := Lib.hid (oS0_17.out.but hk18 (fun k hk hk2 => by omega))
    clear oS0_17
    have bf0_18 := Lib.hid (bf0_17.out.but hk18 (fun hk2 => by omega))
    clear bf0_17
    have bf1_18 := Lib.hid (bf1_17.out.but hk18 (fun hk2 => by omega))
    clear bf1_17
    have coS0_18 := Lib.hid (coS0_17.out.but hk18 (fun hk2 => by omega))
    clear coS0_17
    have cx0_18 := Lib.hid (cx0_17.out.but hk18 (fun hk2 => by omega))
    clear cx0_17
    have cx1_18 := Lib.hid (cx1_17.out.but hk18 (fun hk2 => by omega))
    clear cx1_17
    have coI0_18 := Lib.hid (coI0_17.out.but hk18 (fun hk2 => by omega))
    clear coI0_17
    clear hc_bf0
    clear hc_bf1
    clear hc_coS0
    clear hc_cx0
    clear hc_cx1
    clear hc_coI0
    have hc_bf0 := bf0_18.out.cell
    have hc_bf1 := bf1_18.out.cell
    have hc_coS0 := coS0_18.out.cell
    have hc_cx0 := cx0_18.out.cell
    have hc_cx1 := cx1_18.out.cell
    have hc_coI0 := coI0_18.out.cell
    clear oI0_17
    have oI0_18 := Lib.hid pl18
    clear hk18 pl18
    go_wp2_with fail
    refine (heldF_any AI0 BI0 os.vs.length kI0 os.ns.length jI0 _ _ 1 _ oI0_18.out.1 (by omega) (by omega) (by omega) (by omega)).mono ?_
    rintro e w19 ⟨rfl, hb19⟩
    have hB19 : Below W.heap.size W w19 := hB18.trans (hb19.mono hB18.size)
    have hz19 := hb19.size
    have hy19 := hB19.size
    have oS0_19 := Lib.hid (oS0_18.out.below hb19)
    clear oS0_18
    have oI0_19 := Lib.hid (oI0_18.out.below hb19)
    clear oI0_18
    have bf0_19 := Lib.hid (Has.kept (by exact bf0_18.out) hb19)
    clear bf0_18
    have bf1_19 := Lib.hid (Has.kept (by exact bf1_18.out) hb19)
    clear bf1_18
    have coS0_19 := Lib.hid (Has.kept (by exact coS0_18.out) hb19)
    clear coS0_18
    have cx0_19 := Lib.hid (Has.kept (by exact cx0_18.out) hb19)
    clear cx0_18
    have cx1_19 := Lib.hid (Has.kept (by exact cx1_18.out) hb19)
    clear cx1_18
    have coI0_19 := Lib.hid (Has.kept (by exact coI0_18.out) hb19)
    clear coI0_18
    clear hc_bf0
    clear hc_bf1
    clear hc_coS0
    clear hc_cx0
    clear hc_cx1
    clear hc_coI0
    have hc_bf0 := bf0_19.out.cell
    have hc_bf1 := bf1_19.out.cell
    have hc_coS0 := coS0_19.out.cell
    have hc_cx0 := cx0_19.out.cell
    have hc_cx1 := cx1_19.out.cell
    have hc_coI0 := coI0_19.out.cell
    clear hb19
    go_wp2_with fail
    clear hc_bf0
    clear hc_bf1
    clear hc_coS0
    clear hc_cx0
    clear hc_cx1
    clear hc_coI0
    refine wp_region_any (by kernel_rfl) ?_
    change wpAny _ _ _ _ _ _ _ (World.drew _)
    refine wpAny_tailb (n := 10) (c := 0) (I := fun listed aq wx => listed.size = 11 ∧ ∃ v15 v94 v95 v96 v97 v98 v99 v100 v101 : Value, aq = { tmps := #[.agg #[.slice A0 n0 c0, .slice B0 m0 e0], .agg #[.slice A1 n1 c1, .slice B1 m1 e1], .pointer (some ⟨W.heap.size, 0, none⟩), .pointer (some ⟨W.heap.size + 1, 0, none⟩), .bool false, .int .i64 (1048576 - ((n0 : Nat) : Int) - ((m0 : Nat) : Int) - ((n1 : Nat) : Int) - ((m1 : Nat) : Int)), .pointer (some ⟨G9, 0, none⟩), .bool bb, .pointer (some ⟨w4.heap.size, 0, none⟩), .pointer (some ⟨w6.heap.size, 0, none⟩), .pointer (some ⟨w8.heap.size, 0, none⟩), .bool bb, .int .i64 (1 + ((n0 : Nat) : Int) + ((m0 : Nat) : Int) + ((n1 : Nat) : Int) + ((m1 : Nat) : Int)), .int .i64 (1 + ((os.vs.length : Nat) : Int) + ((os.ns.length : Nat) : Int)), .int .i64 (1 + ((os.vs.length : Nat) : Int) + ((os.ns.length : Nat) : Int)), v15, undef, .agg #[.slice A0 n0 c0, .slice B0 m0 e0], .int .i64 1048576, .int .i64 (1048576 - ((n0 : Nat) : Int) - ((m0 : Nat) : Int)), .int .i64 (1048576 - ((n0 : Nat) : Int) - ((m0 : Nat) : Int)), .bool (decide (1048576 - ((n0 : Nat) : Int) - ((m0 : Nat) : Int) < 0)), .agg #[.slice A1 n1 c1, .slice B1 m1 e1], .int .i64 (1048576 - ((n0 : Nat) : Int) - ((m0 : Nat) : Int)), .int .i64 (1048576 - ((n0 : Nat) : Int) - ((m0 : Nat) : Int) - ((n1 : Nat) : Int) - ((m1 : Nat) : Int)), .int .i64 (1048576 - ((n0 : Nat) : Int) - ((m0 : Nat) : Int) - ((n1 : Nat) : Int) - ((m1 : Nat) : Int)), .bool (decide (1048576 - ((n0 : Nat) : Int) - ((m0 : Nat) : Int) - ((n1 : Nat) : Int) - ((m1 : Nat) : Int) < 0)), .tuple #[.agg #[.slice AS2 os.vs.length kS2, .slice BS2 os.ns.length jS2], .bool bb], .agg #[.slice A0 n0 c0, .slice B0 m0 e0], .agg #[.slice (some ⟨zS01, 0, none⟩) n0 n0, .slice (some ⟨zS02, 0, none⟩) m0 m0], .agg #[.slice A1 n1 c1, .slice B1 m1 e1], .agg #[.slice (some ⟨zS11, 0, none⟩) n1 n1, .slice (some ⟨zS12, 0, none⟩) m1 m1], .tuple #[.agg #[.slice AS1 os.vs.length kS1, .slice BS1 os.ns.length jS1], .bool bb], .agg #[.slice AS3 os.vs.length kS3, .slice BS3 os.ns.length jS3], .bool bb, .agg #[.slice A0 n0 c0, .slice B0 m0 e0], .agg #[.slice (some ⟨g4, 0, none⟩) n0 n0, .slice (some ⟨qg4, 0, none⟩) m0 m0], .agg #[.slice A1 n1 c1, .slice B1 m1 e1], .agg #[.slice (some ⟨g6, 0, none⟩) n1 n1, .slice (some ⟨qg6, 0, none⟩) m1 m1], .tuple #[.agg #[.slice AI0 os.vs.length kI0, .slice BI0 os.ns.length jI0], .bool bb], .agg #[.slice (some ⟨g4, 0, none⟩) n0 n0, .slice (some ⟨qg4, 0, none⟩) m0 m0], .agg #[.slice (some ⟨g6, 0, none⟩) n1 n1, .slice (some ⟨qg6, 0, none⟩) m1 m1], .tuple #[.agg #[.slice AI0 os.vs.length kI0, .slice BI0 os.ns.length jI0], .bool bb], .agg #[.slice AI0 os.vs.length kI0, .slice BI0 os.ns.length jI0], .bool bb, .agg #[.slice AI0 os.vs.length kI0, .slice BI0 os.ns.length jI0], .agg #[.slice AS0 os.vs.length kS0, .slice BS0 os.ns.length jS0], .bool true, .bool false, .bool false, .bool bb, .bool bb, .bool false, .bool false, .agg #[.slice (some ⟨g4, 0, none⟩) n0 n0, .slice (some ⟨qg4, 0, none⟩) m0 m0], .agg #[.slice A0 n0 c0, .slice B0 m0 e0], .agg #[.slice (some ⟨g11, 0, none⟩) n0 n0, .slice (some ⟨qg11, 0, none⟩) m0 m0], .bool true, .bool false, .agg #[.slice (some ⟨g6, 0, none⟩) n1 n1, .slice (some ⟨qg6, 0, none⟩) m1 m1], .agg #[.slice A1 n1 c1, .slice B1 m1 e1], .agg #[.slice (some ⟨g13, 0, none⟩) n1 n1, .slice (some ⟨qg13, 0, none⟩) m1 m1], .bool true, .bool false, .agg #[.slice (some ⟨g4, 0, none⟩) n0 n0, .slice (some ⟨qg4, 0, none⟩) m0 m0], .int .i64 1, .int .i64 (1 + ((n0 : Nat) : Int) + ((m0 : Nat) : Int)), .agg #[.slice (some ⟨g6, 0, none⟩) n1 n1, .slice (some ⟨qg6, 0, none⟩) m1 m1], .int .i64 (1 + ((n0 : Nat) : Int) + ((m0 : Nat) : Int)), .int .i64 (1 + ((n0 : Nat) : Int) + ((m0 : Nat) : Int) + ((n1 : Nat) : Int) + ((m1 : Nat) : Int)), .int .i64 (1 + ((n0 : Nat) : Int) + ((m0 : Nat) : Int) + ((n1 : Nat) : Int) + ((m1 : Nat) : Int)), .bool (decide (1 + ((n0 : Nat) : Int) + ((m0 : Nat) : Int) + ((n1 : Nat) : Int) + ((m1 : Nat) : Int) < 0)), .bool (decide (1 + ((n0 : Nat) : Int) + ((m0 : Nat) : Int) + ((n1 : Nat) : Int) + ((m1 : Nat) : Int) < 0)), .agg #[.slice AI0 os.vs.length kI0, .slice BI0 os.ns.length jI0], .agg #[.slice AS0 os.vs.length kS0, .slice BS0 os.ns.length jS0], .bool true, .bool false, .bool (decide (1 + ((n0 : Nat) : Int) + ((m0 : Nat) : Int) + ((n1 : Nat) : Int) + ((m1 : Nat) : Int) < 0)), .bool (decide (1 + ((n0 : Nat) : Int) + ((m0 : Nat) : Int) + ((n1 : Nat) : Int) + ((m1 : Nat) : Int) < 0)), .bool bb, .bool bb, .bool false, .bool (decide (1 + ((n0 : Nat) : Int) + ((m0 : Nat) : Int) + ((n1 : Nat) : Int) + ((m1 : Nat) : Int) < 0)), .agg #[.slice AI0 os.vs.length kI0, .slice BI0 os.ns.length jI0], .int .i64 1, .int .i64 (1 + ((os.vs.length : Nat) : Int) + ((os.ns.length : Nat) : Int)), .agg #[.slice AI0 os.vs.length kI0, .slice BI0 os.ns.length jI0], .int .i64 1, .int .i64 (1 + ((os.vs.length : Nat) : Int) + ((os.ns.length : Nat) : Int)), .int .i64 (1 + ((os.vs.length : Nat) : Int) + ((os.ns.length : Nat) : Int)), .bool (decide (1 + ((os.vs.length : Nat) : Int) + ((os.ns.length : Nat) : Int) < 0)), .int .i64 (1 + ((os.vs.length : Nat) : Int) + ((os.ns.length : Nat) : Int)), .int .i64 (1 + ((os.vs.length : Nat) : Int) + ((os.ns.length : Nat) : Int)), .bool false, v94, v95, v96, v97, v98, v99, v100, v101, undef, undef, undef, undef, undef, undef, undef, undef, undef, undef, undef, undef, undef, undef, undef, undef, undef], defers := [] } ∧ (listed.getD 0 false = true → v95 = .agg #[.slice A0 n0 c0, .slice B0 m0 e0]) ∧ (listed.getD 1 false = true → (∃ zJ01 zJ02 : Nat, v96 = .agg #[.slice (some ⟨zJ01, 0, none⟩) n0 n0, .slice (some ⟨zJ02, 0, none⟩) m0 m0] ∧ (listed.getD 4 false = false → FacW wx wx.heap.size (some ⟨zJ01, 0, none⟩) n0 (some ⟨zJ02, 0, none⟩) m0 F0))) ∧ (listed.getD 2 false = true → v97 = .agg #[.slice A1 n1 c1, .slice B1 m1 e1]) ∧ (listed.getD 3 false = true → (∃ zJ11 zJ12 : Nat, v98 = .agg #[.slice (some ⟨zJ11, 0, none⟩) n1 n1, .slice (some ⟨zJ12, 0, none⟩) m1 m1] ∧ (listed.getD 4 false = false → FacW wx wx.heap.size (some ⟨zJ11, 0, none⟩) n1 (some ⟨zJ12, 0, none⟩) m1 F1))) ∧ (listed.getD 4 false = true → (∃ (AJ0 : Option Addr) (kJ0 : Nat) (BJ0 : Option Addr) (jJ0 : Nat), v99 = .tuple #[.agg #[.slice AJ0 os.vs.length kJ0, .slice BJ0 os.ns.length jJ0], .bool bb] ∧ FcV wx w19.heap.size (.slice AJ0 os.vs.length kJ0) (.slice BJ0 os.ns.length jJ0) os)) ∧ (listed.getD 5 false = true → (∃ (AJ0 : Option Addr) (kJ0 : Nat) (BJ0 : Option Addr) (jJ0 : Nat), v94 = .tuple #[.agg #[.slice AJ0 os.vs.length kJ0, .slice BJ0 os.ns.length jJ0], .bool bb] ∧ FcV wx w19.heap.size (.slice AJ0 os.vs.length kJ0) (.slice BJ0 os.ns.length jJ0) os)) ∧ (listed.getD 6 false = true → (∃ (AJ0 : Option Addr) (kJ0 : Nat) (BJ0 : Option Addr) (jJ0 : Nat), v100 = .agg #[.slice AJ0 os.vs.length kJ0, .slice BJ0 os.ns.length jJ0] ∧ FcV wx w19.heap.size (.slice AJ0 os.vs.length kJ0) (.slice BJ0 os.ns.length jJ0) os)) ∧ (listed.getD 7 false = true → v101 = .bool bb) ∧ (listed.getD 8 false = true → (∃ (G9 : Nat) (cs9 : Array Value), v15 = .pointer (some ⟨G9, 0, none⟩) ∧ w19.heap.size ≤ G9 ∧ Has wx G9 27 cs9 ∧ cs9.size = 2)) ∧ (listed.getD 9 false = true → (listed.getD 8 false = true ∧ ∃ (G9 : Nat) (AJ0 : Option Addr) (kJ0 : Nat) (BJ0 : Option Addr) (jJ0 : Nat), v15 = .pointer (some ⟨G9, 0, none⟩) ∧ w19.heap.size ≤ G9 ∧ Has wx G9 27 #[.slice AJ0 os.vs.length kJ0, .slice BJ0 os.ns.length jJ0] ∧ FcV wx w19.heap.size (.slice AJ0 os.vs.length kJ0) (.slice BJ0 os.ns.length jJ0) os)) ∧ Below w19.heap.size w19 wx) rfl (by kernel_rfl) (by kernel_rfl) (by kernel_rfl) ?hs ?hl _ _ _ ?st rfl (by decide) _ (by decide)
    case st =>
      refine ⟨rfl, undef, undef, undef, undef, undef, undef, undef, undef, undef, rfl, ?_, ?_, ?_, ?_, ?_, ?_, ?_, ?_, ?_, ?_, (Below.refl _ _).drew⟩ <;> (intro e; exact absurd e (by decide))
    case hs =>
      rintro listed aq wx ⟨hz, v15, v94, v95, v96, v97, v98, v99, v100, v101, rfl, hII⟩ i hin hi
      obtain ⟨h0, o, ho, hd⟩ := mem_ready.1 hi
      have K0 := Lib.hid hII.1
      have K1 := Lib.hid hII.2.1
      have K2 := Lib.hid hII.2.2.1
      have K3 := Lib.hid hII.2.2.2.1
      have K4 := Lib.hid hII.2.2.2.2.1
      have K5 := Lib.hid hII.2.2.2.2.2.1
      have K6 := Lib.hid hII.2.2.2.2.2.2.1
      have K7 := Lib.hid hII.2.2.2.2.2.2.2.1
      have K8 := Lib.hid hII.2.2.2.2.2.2.2.2.1
      have K9 := Lib.hid hII.2.2.2.2.2.2.2.2.2.1
      have hB : Below w19.heap.size w19 wx := hII.2.2.2.2.2.2.2.2.2.2
      have hne := Lib.hid (fun k (hk : i ≠ k) => @listed_ne listed i k hk)
      have hx0 := Has.kept (by exact bf0_19.out) hB
      have hx1 := Has.kept (by exact bf1_19.out) hB
      have h0f : listed.getD i false = false := by rw [Array.getD_eq_getD_getElem?, getD_false h0]; rfl
      clear hII hi h0
      rcases (by omega : i = 0 ∨ i = 1 ∨ i = 2 ∨ i = 3 ∨ i = 4 ∨ i = 5 ∨ i = 6 ∨ i = 7 ∨ i = 8 ∨ i = 9) with rfl | rfl | rfl | rfl | rfl | rfl | rfl | rfl | rfl | rfl
      · cases ho
        have hxc0 := hx0.cell
        refine wpOp_step rfl (fun K hK => ?_)
        go_simp
        refine hK _ _ ⟨by simpa using hz, v15, v94, .agg #[.slice A0 n0 c0, .slice B0 m0 e0], v96, v97, v98, v99, v100, v101, rfl, ?_⟩
        exact ⟨fun _ => rfl, fun e => (by obtain ⟨y1, y2, y3, y4⟩ := K1.out (hne.out 1 (by decide) e); exact ⟨y1, y2, y3, fun q => y4 (set_false_getD q)⟩), fun e => K2.out (hne.out 2 (by decide) e), fun e => (by obtain ⟨y1, y2, y3, y4⟩ := K3.out (hne.out 3 (by decide) e); exact ⟨y1, y2, y3, fun q => y4 (set_false_getD q)⟩), fun e => K4.out (hne.out 4 (by decide) e), fun e => K5.out (hne.out 5 (by decide) e), fun e => K6.out (hne.out 6 (by decide) e), fun e => K7.out (hne.out 7 (by decide) e), fun e => K8.out (hne.out 8 (by decide) e), fun e => (by obtain ⟨y0, y1⟩ := K9.out (hne.out 9 (by decide) e); exact ⟨getD_set_true y0, y1⟩), hB⟩
      · cases ho
        have d0 := hd ⟨0, .data⟩ (by simp) rfl
        obtain rfl := K0.out d0
        refine wpOp_step rfl (fun K hK => ?_)
        go_simp
        go_at_call 17
        refine (toFactor_own A0 B0 n0 c0 m0 e0 F0 _ (hH0.out.below (hB19.trans (hB.mono hB19.size))) hbig0 hbgm0).mono ?_
        rintro e wq9 ⟨zJ01, zJ02, rfl, pl0, _, hb3⟩
        refine hK _ _ ⟨by simpa using hz, v15, v94, .agg #[.slice A0 n0 c0, .slice B0 m0 e0], .agg #[.slice (some ⟨zJ01, 0, none⟩) n0 n0, .slice (some ⟨zJ02, 0, none⟩) m0 m0], v97, v98, v99, v100, v101, rfl, ?_⟩
        exact ⟨fun e => K0.out (hne.out 0 (by decide) e), fun _ => ⟨_, _, rfl, fun _ => FcB.fac pl0.1⟩, fun e => K2.out (hne.out 2 (by decide) e), fun e => (by obtain ⟨y1, y2, y3, y4⟩ := K3.out (hne.out 3 (by decide) e); exact ⟨y1, y2, y3, fun q => (y4 (set_false_getD q)).below hb3⟩), fun e => (by obtain ⟨y1, y2, y3, y4, y5, y6⟩ := K4.out (hne.out 4 (by decide) e); exact ⟨y1, y2, y3, y4, y5, y6.below hb3⟩), fun e => (by obtain ⟨y1, y2, y3, y4, y5, y6⟩ := K5.out (hne.out 5 (by decide) e); exact ⟨y1, y2, y3, y4, y5, y6.below hb3⟩), fun e => (by obtain ⟨y1, y2, y3, y4, y5, y6⟩ := K6.out (hne.out 6 (by decide) e); exact ⟨y1, y2, y3, y4, y5, y6.below hb3⟩), fun e => K7.out (hne.out 7 (by decide) e), fun e => (by obtain ⟨y1, y2, y3, y4, y5, y6⟩ := K8.out (hne.out 8 (by decide) e); exact ⟨y1, y2, y3, y4, y5.kept hb3, y6⟩), fun e => (by obtain ⟨y0, y1, y2, y3, y4, y5, y6, y7, y8, y9⟩ := K9.out (hne.out 9 (by decide) e); have hbK := hb3; exact ⟨getD_set_true y0, y1, y2, y3, y4, y5, y6, y7, y8.kept hbK, y9.below hbK⟩), hB.trans (hb3.mono hB.size)⟩
      · cases ho
        have hxc1 := hx1.cell
        refine wpOp_step rfl (fun K hK => ?_)
        go_simp
        refine hK _ _ ⟨by simpa using hz, v15, v94, v95, v96, .agg #[.slice A1 n1 c1, .slice B1 m1 e1], v98, v99, v100, v101, rfl, ?_⟩
        exact ⟨fun e => K0.out (hne.out 0 (by decide) e), fun e => (by obtain ⟨y1, y2, y3, y4⟩ := K1.out (hne.out 1 (by decide) e); exact ⟨y1, y2, y3, fun q => y4 (set_false_getD q)⟩), fun _ => rfl, fun e => (by obtain ⟨y1, y2, y3, y4⟩ := K3.out (hne.out 3 (by decide) e); exact ⟨y1, y2, y3, fun q => y4 (set_false_getD q)⟩), fun e => K4.out (hne.out 4 (by decide) e), fun e => K5.out (hne.out 5 (by decide) e), fun e => K6.out (hne.out 6 (by decide) e), fun e => K7.out (hne.out 7 (by decide) e), fun e => K8.out (hne.out 8 (by decide) e), fun e => (by obtain ⟨y0, y1⟩ := K9.out (hne.out 9 (by decide) e); exact ⟨getD_set_true y0, y1⟩), hB⟩
      · cases ho
        have d2 := hd ⟨2, .data⟩ (by simp) rfl
        obtain rfl := K2.out d2
        refine wpOp_step rfl (fun K hK => ?_)
        go_simp
        go_at_call 17
        refine (toFactor_own A1 B1 n1 c1 m1 e1 F1 _ (hH1.out.below (hB19.trans (hB.mono hB19.size))) hbig1 hbgm1).mono ?_
        rintro e wq9 ⟨zJ11, zJ12, rfl, pl1, _, hb3⟩
        refine hK _ _ ⟨by simpa using hz, v15, v94, v95, v96, .agg #[.slice A1 n1 c1, .slice B1 m1 e1], .agg #[.slice (some ⟨zJ11, 0, none⟩) n1 n1, .slice (some ⟨zJ12, 0, none⟩) m1 m1], v99, v100, v101, rfl, ?_⟩
        exact ⟨fun e => K0.out (hne.out 0 (by decide) e), fun e => (by obtain ⟨y1, y2, y3, y4⟩ := K1.out (hne.out 1 (by decide) e); exact ⟨y1, y2, y3, fun q => (y4 (set_false_getD q)).below hb3⟩), fun e => K2.out (hne.out 2 (by decide) e), fun _ => ⟨_, _, rfl, fun _ => FcB.fac pl1.1⟩, fun e => (by obtain ⟨y1, y2, y3, y4, y5, y6⟩ := K4.out (hne.out 4 (by decide) e); exact ⟨y1, y2, y3, y4, y5, y6.below hb3⟩), fun e => (by obtain ⟨y1, y2, y3, y4, y5, y6⟩ := K5.out (hne.out 5 (by decide) e); exact ⟨y1, y2, y3, y4, y5, y6.below hb3⟩), fun e => (by obtain ⟨y1, y2, y3, y4, y5, y6⟩ := K6.out (hne.out 6 (by decide) e); exact ⟨y1, y2, y3, y4, y5, y6.below hb3⟩), fun e => K7.out (hne.out 7 (by decide) e), fun e => (by obtain ⟨y1, y2, y3, y4, y5, y6⟩ := K8.out (hne.out 8 (by decide) e); exact ⟨y1, y2, y3, y4, y5.kept hb3, y6⟩), fun e => (by obtain ⟨y0, y1, y2, y3, y4, y5, y6, y7, y8, y9⟩ := K9.out (hne.out 9 (by decide) e); have hbK := hb3; exact ⟨getD_set_true y0, y1, y2, y3, y4, y5, y6, y7, y8.kept hbK, y9.below hbK⟩), hB.trans (hb3.mono hB.size)⟩
      · cases ho
        have d1 := hd ⟨1, .data⟩ (by simp) rfl
        have d3 := hd ⟨3, .data⟩ (by simp) rfl
        obtain ⟨zJ01, zJ02, rfl, hfc0⟩ := K1.out d1
        obtain ⟨zJ11, zJ12, rfl, hfc1⟩ := K3.out d3
        refine wpOp_step rfl (fun K hK => ?_)
        go_simp
        go_at_call 23
        refine (cI.out _ _ _ _ _ (hfc0 h0f) (hfc1 h0f)).mono ?_
        rintro e wq9 ⟨u1, u2, rfl, hoJ0, hb3⟩
        obtain ⟨AJ0, kJ0, rfl, _, _⟩ := hoJ0.1.form
        obtain ⟨BJ0, jJ0, rfl, _, _⟩ := hoJ0.2.1.form
        refine hK _ _ ⟨by simpa using hz, v15, v94, v95, .agg #[.slice (some ⟨zJ01, 0, none⟩) n0 n0, .slice (some ⟨zJ02, 0, none⟩) m0 m0], v97, .agg #[.slice (some ⟨zJ11, 0, none⟩) n1 n1, .slice (some ⟨zJ12, 0, none⟩) m1 m1], .tuple #[.agg #[.slice AJ0 os.vs.length kJ0, .slice BJ0 os.ns.length jJ0], .bool bb], v100, v101, rfl, ?_⟩
        exact ⟨fun e => K0.out (hne.out 0 (by decide) e), fun e => (by obtain ⟨y1, y2, y3, y4⟩ := K1.out (hne.out 1 (by decide) e); exact ⟨y1, y2, y3, fun q => (y4 (set_false_getD q)).below hb3⟩), fun e => K2.out (hne.out 2 (by decide) e), fun e => (by obtain ⟨y1, y2, y3, y4⟩ := K3.out (hne.out 3 (by decide) e); exact ⟨y1, y2, y3, fun q => (y4 (set_false_getD q)).below hb3⟩), fun _ => ⟨_, _, _, _, rfl, hoJ0.le hB.size⟩, fun e => (by obtain ⟨y1, y2, y3, y4, y5, y6⟩ := K5.out (hne.out 5 (by decide) e); exact ⟨y1, y2, y3, y4, y5, y6.below hb3⟩), fun e => (by obtain ⟨y1, y2, y3, y4, y5, y6⟩ := K6.out (hne.out 6 (by decide) e); exact ⟨y1, y2, y3, y4, y5, y6.below hb3⟩), fun e => K7.out (hne.out 7 (by decide) e), fun e => (by obtain ⟨y1, y2, y3, y4, y5, y6⟩ := K8.out (hne.out 8 (by decide) e); exact ⟨y1, y2, y3, y4, y5.kept hb3, y6⟩), fun e => (by obtain ⟨y0, y1, y2, y3, y4, y5, y6, y7, y8, y9⟩ := K9.out (hne.out 9 (by decide) e); have hbK := hb3; exact ⟨getD_set_true y0, y1, y2, y3, y4, y5, y6, y7, y8.kept hbK, y9.below hbK⟩), hB.trans (hb3.mono hB.size)⟩
      · cases ho
        have d4 := hd ⟨4, .data⟩ (by simp) rfl
        obtain ⟨AJ1, kJ1, BJ1, jJ1, rfl, hoJ1⟩ := K4.out d4
        refine wpOp_step rfl (fun K hK => ?_)
        go_simp
        refine hK _ _ ⟨by simpa using hz, v15, .tuple #[.agg #[.slice AJ1 os.vs.length kJ1, .slice BJ1 os.ns.length jJ1], .bool bb], v95, v96, v97, v98, .tuple #[.agg #[.slice AJ1 os.vs.length kJ1, .slice BJ1 os.ns.length jJ1], .bool bb], v100, v101, rfl, ?_⟩
        exact ⟨fun e => K0.out (hne.out 0 (by decide) e), fun e => (by obtain ⟨y1, y2, y3, y4⟩ := K1.out (hne.out 1 (by decide) e); exact ⟨y1, y2, y3, fun q => y4 (set_false_getD q)⟩), fun e => K2.out (hne.out 2 (by decide) e), fun e => (by obtain ⟨y1, y2, y3, y4⟩ := K3.out (hne.out 3 (by decide) e); exact ⟨y1, y2, y3, fun q => y4 (set_false_getD q)⟩), fun e => K4.out (hne.out 4 (by decide) e), fun _ => ⟨_, _, _, _, rfl, hoJ1⟩, fun e => K6.out (hne.out 6 (by decide) e), fun e => K7.out (hne.out 7 (by decide) e), fun e => K8.out (hne.out 8 (by decide) e), fun e => (by obtain ⟨y0, y1⟩ := K9.out (hne.out 9 (by decide) e); exact ⟨getD_set_true y0, y1⟩), hB⟩
      · cases ho
        have d5 := hd ⟨5, .data⟩ (by simp) rfl
        obtain ⟨AJ2, kJ2, BJ2, jJ2, rfl, hoJ2⟩ := K5.out d5
        refine wpOp_step rfl (fun K hK => ?_)
        go_simp
        refine hK _ _ ⟨by simpa using hz, v15, .tuple #[.agg #[.slice AJ2 os.vs.length kJ2, .slice BJ2 os.ns.length jJ2], .bool bb], v95, v96, v97, v98, v99, .agg #[.slice AJ2 os.vs.length kJ2, .slice BJ2 os.ns.length jJ2], v101, rfl, ?_⟩
        exact ⟨fun e => K0.out (hne.out 0 (by decide) e), fun e => (by obtain ⟨y1, y2, y3, y4⟩ := K1.out (hne.out 1 (by decide) e); exact ⟨y1, y2, y3, fun q => y4 (set_false_getD q)⟩), fun e => K2.out (hne.out 2 (by decide) e), fun e => (by obtain ⟨y1, y2, y3, y4⟩ := K3.out (hne.out 3 (by decide) e); exact ⟨y1, y2, y3, fun q => y4 (set_false_getD q)⟩), fun e => K4.out (hne.out 4 (by decide) e), fun e => K5.out (hne.out 5 (by decide) e), fun _ => ⟨_, _, _, _, rfl, hoJ2⟩, fun e => K7.out (hne.out 7 (by decide) e), fun e => K8.out (hne.out 8 (by decide) e), fun e => (by obtain ⟨y0, y1⟩ := K9.out (hne.out 9 (by decide) e); exact ⟨getD_set_true y0, y1⟩), hB⟩
      · cases ho
        have d5 := hd ⟨5, .data⟩ (by simp) rfl
        obtain ⟨AJ2, kJ2, BJ2, jJ2, rfl, hoJ2⟩ := K5.out d5
        refine wpOp_step rfl (fun K hK => ?_)
        go_simp
        refine hK _ _ ⟨by simpa using hz, v15, .tuple #[.agg #[.slice AJ2 os.vs.length kJ2, .slice BJ2 os.ns.length jJ2], .bool bb], v95, v96, v97, v98, v99, v100, .bool bb, rfl, ?_⟩
        exact ⟨fun e => K0.out (hne.out 0 (by decide) e), fun e => (by obtain ⟨y1, y2, y3, y4⟩ := K1.out (hne.out 1 (by decide) e); exact ⟨y1, y2, y3, fun q => y4 (set_false_getD q)⟩), fun e => K2.out (hne.out 2 (by decide) e), fun e => (by obtain ⟨y1, y2, y3, y4⟩ := K3.out (hne.out 3 (by decide) e); exact ⟨y1, y2, y3, fun q => y4 (set_false_getD q)⟩), fun e => K4.out (hne.out 4 (by decide) e), fun e => K5.out (hne.out 5 (by decide) e), fun e => K6.out (hne.out 6 (by decide) e), fun _ => rfl, fun e => K8.out (hne.out 8 (by decide) e), fun e => (by obtain ⟨y0, y1⟩ := K9.out (hne.out 9 (by decide) e); exact ⟨getD_set_true y0, y1⟩), hB⟩
      · cases ho
        refine wpOp_step rfl (fun K hK => ?_)
        go_simp
        refine hK _ _ ⟨by simpa using hz, .pointer (some ⟨wx.heap.size, 0, none⟩), v94, v95, v96, v97, v98, v99, v100, v101, rfl, ?_⟩
        exact ⟨fun e => K0.out (hne.out 0 (by decide) e), fun e => (by obtain ⟨y1, y2, y3, y4⟩ := K1.out (hne.out 1 (by decide) e); exact ⟨y1, y2, y3, fun q => (y4 (set_false_getD q)).below ((Below.refl _ _).alloc (Nat.le_refl _) _)⟩), fun e => K2.out (hne.out 2 (by decide) e), fun e => (by obtain ⟨y1, y2, y3, y4⟩ := K3.out (hne.out 3 (by decide) e); exact ⟨y1, y2, y3, fun q => (y4 (set_false_getD q)).below ((Below.refl _ _).alloc (Nat.le_refl _) _)⟩), fun e => (by obtain ⟨y1, y2, y3, y4, y5, y6⟩ := K4.out (hne.out 4 (by decide) e); exact ⟨y1, y2, y3, y4, y5, y6.below ((Below.refl _ _).alloc (Nat.le_refl _) _)⟩), fun e => (by obtain ⟨y1, y2, y3, y4, y5, y6⟩ := K5.out (hne.out 5 (by decide) e); exact ⟨y1, y2, y3, y4, y5, y6.below ((Below.refl _ _).alloc (Nat.le_refl _) _)⟩), fun e => (by obtain ⟨y1, y2, y3, y4, y5, y6⟩ := K6.out (hne.out 6 (by decide) e); exact ⟨y1, y2, y3, y4, y5, y6.below ((Below.refl _ _).alloc (Nat.le_refl _) _)⟩), fun e => K7.out (hne.out 7 (by decide) e), fun _ => ⟨_, _, rfl, hB.size, Has.new _ _ _, rfl⟩, fun e => absurd (K9.out (hne.out 9 (by decide) e)).1 (by rw [h0f]; decide), hB.alloc hB.size _⟩
      · cases ho
        have d4 := hd ⟨4, .chain⟩ (by simp) rfl
        have d8 := hd ⟨8, .data⟩ (by simp) rfl
        have d6 := hd ⟨6, .data⟩ (by simp) rfl
        obtain ⟨G9, cs9, rfl, hG0, hG, hcs9⟩ := K8.out d8
        obtain ⟨AJ3, kJ3, BJ3, jJ3, rfl, hoJ3⟩ := K6.out d6
        have hgc := hG.cell
        have hgf := hG.frozen
        obtain ⟨x0, x1, rfl⟩ := two_cells hcs9
        refine wpOp_step rfl (fun K hK => ?_)
        go_simp
        refine hK _ _ ⟨by simpa using hz, .pointer (some ⟨G9, 0, none⟩), v94, v95, v96, v97, v98, v99, .agg #[.slice AJ3 os.vs.length kJ3, .slice BJ3 os.ns.length jJ3], v101, rfl, ?_⟩
        exact ⟨fun e => K0.out (hne.out 0 (by decide) e), fun e => (by obtain ⟨y1, y2, y3, y4⟩ := K1.out (hne.out 1 (by decide) e); exact ⟨y1, y2, y3, fun q => absurd (set_false_getD q) (by rw [d4]; decide)⟩), fun e => K2.out (hne.out 2 (by decide) e), fun e => (by obtain ⟨y1, y2, y3, y4⟩ := K3.out (hne.out 3 (by decide) e); exact ⟨y1, y2, y3, fun q => absurd (set_false_getD q) (by rw [d4]; decide)⟩), fun e => (by obtain ⟨y1, y2, y3, y4, y5, y6⟩ := K4.out (hne.out 4 (by decide) e); exact ⟨y1, y2, y3, y4, y5, y6.put2 hG (.slice AJ3 os.vs.length kJ3) (.slice BJ3 os.ns.length jJ3)⟩), fun e => (by obtain ⟨y1, y2, y3, y4, y5, y6⟩ := K5.out (hne.out 5 (by decide) e); exact ⟨y1, y2, y3, y4, y5, y6.put2 hG (.slice AJ3 os.vs.length kJ3) (.slice BJ3 os.ns.length jJ3)⟩), fun e => (by obtain ⟨y1, y2, y3, y4, y5, y6⟩ := K6.out (hne.out 6 (by decide) e); exact ⟨y1, y2, y3, y4, y5, y6.put2 hG (.slice AJ3 os.vs.length kJ3) (.slice BJ3 os.ns.length jJ3)⟩), fun e => K7.out (hne.out 7 (by decide) e), fun e => (by obtain ⟨y1, y2, y3, y4, y5, y6⟩ := K8.out (hne.out 8 (by decide) e); injection y3 with y3; injection y3 with y3; injection y3 with y3 _ _; exact ⟨G9, _, rfl, hG0, (hG.put 0 (.slice AJ3 os.vs.length kJ3)).put 1 (.slice BJ3 os.ns.length jJ3), rfl⟩), fun _ => ⟨getD_set_true d8, G9, _, _, _, _, rfl, hG0, (hG.put 0 (.slice AJ3 os.vs.length kJ3)).put 1 (.slice BJ3 os.ns.length jJ3), hoJ3.put2 hG (.slice AJ3 os.vs.length kJ3) (.slice BJ3 os.ns.length jJ3)⟩, (hB.setCell (p := ⟨G9, 0, none⟩) hG0 _).setCell (p := ⟨G9, 1, none⟩) hG0 _⟩
    case hl =>
      rintro listed aq wx ⟨hz, v15, v94, v95, v96, v97, v98, v99, v100, v101, rfl, hII⟩ hall
      have K0 := Lib.hid hII.1
      have K1 := Lib.hid hII.2.1
      have K2 := Lib.hid hII.2.2.1
      have K3 := Lib.hid hII.2.2.2.1
      have K4 := Lib.hid hII.2.2.2.2.1
      have K5 := Lib.hid hII.2.2.2.2.2.1
      have K6 := Lib.hid hII.2.2.2.2.2.2.1
      have K7 := Lib.hid hII.2.2.2.2.2.2.2.1
      have K8 := Lib.hid hII.2.2.2.2.2.2.2.2.1
      have K9 := Lib.hid hII.2.2.2.2.2.2.2.2.2.1
      have hB : Below w19.heap.size w19 wx := hII.2.2.2.2.2.2.2.2.2.2
      have hx0 := Has.kept (by exact bf0_19.out) hB
      have hx1 := Has.kept (by exact bf1_19.out) hB
      clear hII
      obtain rfl := K0.out (hall 0 (by decide))
      obtain ⟨zJ01, zJ02, rfl, hfc0⟩ := K1.out (hall 1 (by decide))
      obtain rfl := K2.out (hall 2 (by decide))
      obtain ⟨zJ11, zJ12, rfl, hfc1⟩ := K3.out (hall 3 (by decide))
      obtain ⟨AJ1, kJ1, BJ1, jJ1, rfl, hoJ1⟩ := K4.out (hall 4 (by decide))
      obtain ⟨AJ2, kJ2, BJ2, jJ2, rfl, hoJ2⟩ := K5.out (hall 5 (by decide))
      obtain ⟨AJ3, kJ3, BJ3, jJ3, rfl, hoJ3⟩ := K6.out (hall 6 (by decide))
      obtain rfl := K7.out (hall 7 (by decide))
      obtain ⟨G9, cs9, rfl, hG0, hG, hcs9⟩ := K8.out (hall 8 (by decide))
      obtain ⟨_, GJ, AJ0, kJ0, BJ0, jJ0, hvE, hGJ0, hGJh, hoJ0⟩ := K9.out (hall 9 (by decide))
      obtain rfl : G9 = GJ := by injection hvE with q; injection q with q; injection q
      clear hvE hG0 hG hcs9
      clear hall K0 K1 K2 K3 K4 K5 K6 K7 K8 K9
      unfold wpSeq
      refine wpOp_step rfl (fun K0 hK0 => ?_)
      go_simp
      refine hK0 _ _ ?_
      clear hK0
      unfold wpSeq
      have hcoE := hGJh
      have hbE : Below w19.heap.size w19 wx := hB
      have hoE := hoJ0
      clear hB hoJ0 hGJh
      generalize wx = w20 at hcoE hbE hoE ⊢
      have hGlJ := Has.lt hcoE
      have hoJ_20 := Lib.hid (FcB.pl hoE)
      have hcoJ_20 := Lib.hid hcoE
      clear hoE hcoE
      have hB20 : Below W.heap.size W w20 := hB19.trans (hbE.mono hB19.size)
      have hz20 := hbE.size
      have hy20 := hB20.size
      have oS0_20 := Lib.hid (oS0_19.out.below hbE)
      clear oS0_19
      have oI0_20 := Lib.hid (oI0_19.out.below hbE)
      clear oI0_19
      have bf0_20 := Lib.hid (Has.kept (by exact bf0_19.out) hbE)
      clear bf0_19
      have bf1_20 := Lib.hid (Has.kept (by exact bf1_19.out) hbE)
      clear bf1_19
      have coS0_20 := Lib.hid (Has.kept (by exact coS0_19.out) hbE)
      clear coS0_19
      have cx0_20 := Lib.hid (Has.kept (by exact cx0_19.out) hbE)
      clear cx0_19
      have cx1_20 := Lib.hid (Has.kept (by exact cx1_19.out) hbE)
      clear cx1_19
      have coI0_20 := Lib.hid (Has.kept (by exact coI0_19.out) hbE)
      clear coI0_19
      have hc_bf0 := bf0_20.out.cell
      have hc_bf1 := bf1_20.out.cell
      have hc_coS0 := coS0_20.out.cell
      have hc_cx0 := cx0_20.out.cell
      have hc_cx1 := cx1_20.out.cell
      have hc_coI0 := coI0_20.out.cell
      clear hbE
      clear hc_bf0
      clear hc_bf1
      clear hc_coS0
      clear hc_cx0
      clear hc_cx1
      clear hc_coI0
      have hc_bf0 := bf0_20.out.cell
      have hc_bf1 := bf1_20.out.cell
      have hc_coS0 := coS0_20.out.cell
      have hc_cx0 := cx0_20.out.cell
      have hc_cx1 := cx1_20.out.cell
      have hc_coI0 := coI0_20.out.cell
      have hc_coJ0 := hcoJ_20.out.cell
      go_wp2_with fail
      refine (eqFactor_same AJ0 BJ0 AS0 BS0 os.vs.length kJ0 os.ns.length jJ0 _ kS0 _ jS0 os _ (FcB.fac hoJ_20.out.1) (FcB.fac oS0_20.out.1) (by unfold maxLen; omega) (by unfold maxLen; omega)).mono ?_
      rintro e w21 ⟨rfl, hb21⟩
      have hB21 : Below W.heap.size W w21 := hB20.trans (hb21.mono hB20.size)
      have hz21 := hb21.size
      have hy21 := hB21.size
      have oS0_21 := Lib.hid (oS0_20.out.below hb21)
      clear oS0_20
      have oI0_21 := Lib.hid (oI0_20.out.below hb21)
      clear oI0_20
      have oJ0_21 := Lib.hid (hoJ_20.out.below hb21)
      clear hoJ_20
      have bf0_21 := Lib.hid (Has.kept (by exact bf0_20.out) hb21)
      clear bf0_20
      have bf1_21 := Lib.hid (Has.kept (by exact bf1_20.out) hb21)
      clear bf1_20
      have coS0_21 := Lib.hid (Has.kept (by exact coS0_20.out) hb21)
      clear coS0_20
      have cx0_21 := Lib.hid (Has.kept (by exact cx0_20.out) hb21)
      clear cx0_20
      have cx1_21 := Lib.hid (Has.kept (by exact cx1_20.out) hb21)
      clear cx1_20
      have coI0_21 := Lib.hid (Has.kept (by exact coI0_20.out) hb21)
      clear coI0_20
      have coJ0_21 := Lib.hid (Has.kept (by exact hcoJ_20.out) hb21)
      clear hcoJ_20
      clear hc_bf0
      clear hc_bf1
      clear hc_coS0
      clear hc_cx0
      clear hc_cx1
      clear hc_coI0
      clear hc_coJ0
      have hc_bf0 := bf0_21.out.cell
      have hc_bf1 := bf1_21.out.cell
      have hc_coS0 := coS0_21.out.cell
      have hc_cx0 := cx0_21.out.cell
      have hc_cx1 := cx1_21.out.cell
      have hc_coI0 := coI0_21.out.cell
      have hc_coJ0 := coJ0_21.out.cell
      clear hb21
      go_wp2_with fail
      refine (heldF_any AI0 BI0 os.vs.length kI0 os.ns.length jI0 _ _ 1 _ oI0_21.out.1 (by omega) (by omega) (by omega) (by omega)).mono ?_
      rintro e w22 ⟨rfl, hb22⟩
      have hB22 : Below W.heap.size W w22 := hB21.trans (hb22.mono hB21.size)
      have hz22 := hb22.size
      have hy22 := hB22.size
      have oS0_22 := Lib.hid (oS0_21.out.below hb22)
      clear oS0_21
      have oI0_22 := Lib.hid (oI0_21.out.below hb22)
      clear oI0_21
      have oJ0_22 := Lib.hid (oJ0_21.out.below hb22)
      clear oJ0_21
      have bf0_22 := Lib.hid (Has.kept (by exact bf0_21.out) hb22)
      clear bf0_21
      have bf1_22 := Lib.hid (Has.kept (by exact bf1_21.out) hb22)
      clear bf1_21
      have coS0_22 := Lib.hid (Has.kept (by exact coS0_21.out) hb22)
      clear coS0_21
      have cx0_22 := Lib.hid (Has.kept (by exact cx0_21.out) hb22)
      clear cx0_21
      have cx1_22 := Lib.hid (Has.kept (by exact cx1_21.out) hb22)
      clear cx1_21
      have coI0_22 := Lib.hid (Has.kept (by exact coI0_21.out) hb22)
      clear coI0_21
      have coJ0_22 := Lib.hid (Has.kept (by exact coJ0_21.out) hb22)
      clear coJ0_21
      clear hc_bf0
      clear hc_bf1
      clear hc_coS0
      clear hc_cx0
      clear hc_cx1
      clear hc_coI0
      clear hc_coJ0
      have hc_bf0 := bf0_22.out.cell
      have hc_bf1 := bf1_22.out.cell
      have hc_coS0 := coS0_22.out.cell
      have hc_cx0 := cx0_22.out.cell
      have hc_cx1 := cx1_22.out.cell
      have hc_coI0 := coI0_22.out.cell
      have hc_coJ0 := coJ0_22.out.cell
      clear hb22
      go_wp2_with fail
      go_ret
      exact ⟨rfl, hB22⟩

set_option maxRecDepth 100000 in
theorem lifted (os : Os) (started : os.Started) (H : Type) (enc : TypeId × Value → H) :
    ReturnsInHanded {} Try.checked os 5 .any (Rows.fnExactFactorTimesSpec.pre6 enc Try.prog Try.f5 Rows.fnExactFactorTimesRow.domain false) (Rows.fnExactFactorTimesSpec.post enc Try.prog Try.f5 false true false false) := by
  refine returnsInHanded_of_change (C := Try.checked) own started (by kernel_rfl) Try.func5
    (ChangeSpec.witness6 (enc := enc) (C := Try.checked) false ⟨#[], #[.agg #[.slice none 0 0, .slice none 0 0], .agg #[.slice none 0 0, .slice none 0 0]], []⟩ 8 (by kernel_rfl) (by kernel_rfl) (by kernel_rfl) (by kernel_rfl)) ?_
  intro W base args ds gs before hval0 hW hcnd _
  have hval : ∀ (j : Nat) t v, Try.f5.params[j]? = some t → args[j]? = some v → Value.okWide Try.prog W .any base t v := hval0
  have hW' := hW
  obtain ⟨p, q, hA0, hV, rfl, hfz, hnd⟩ := hW
  have hA : DataW.TrodAll enc Try.prog W 0 (fun _ => true) true Try.f5.params.toList args.toList ds p := hA0
  rw [Try.params5] at hA hval
  obtain ⟨v0, vs0, d0, ds0, p0, q0, hargs, rfl, rfl, h0, r0⟩ := trodAll_cons hA
  obtain ⟨v1, vs1, d1, ds1, p1, q1, rfl, rfl, rfl, h1, r1⟩ := trodAll_cons r0
  obtain ⟨rfl, rfl, rfl⟩ := trodAll_nil r1
  obtain rfl : args = #[v0, v1] := by cases args; simp_all
  obtain ⟨rfl, rfl⟩ := trodVars_none hV
  have lt0 : ∀ x ∈ p0, x.block < W.heap.size := by
    obtain ⟨m, hm⟩ := h0
    exact DataW.trod_lt m _ _ _ hm
  have lt1 : ∀ x ∈ p1, x.block < W.heap.size := by
    obtain ⟨m, hm⟩ := h1
    exact DataW.trod_lt m _ _ _ hm
  clear hA0 hval0
  refine (walk enc W base v0 d0 p0 (hval 0 24 v0 rfl rfl) h0 lt0 v1 d1 p1 (hval 1 24 v1 rfl rfl) h1 lt1).mono fun e W' ⟨he, bel⟩ => ?_
  subst he
  exact ⟨_, rfl, _, _, _, [], _, [], hW', trodAll_mk1 (shut_bool Try.underlying4 _), (trodAll_cons_mk (Below.trod laidOut (by kernel_rfl) (of_decide_eq_true (by kernel_rfl)) h0 bel lt0) (trodAll_cons_mk (Below.trod laidOut (by kernel_rfl) (of_decide_eq_true (by kernel_rfl)) h1 bel lt1) trodAll_mk0)), rfl, bel.frame _, fun h => by cases h⟩

theorem proved : Rows.FnExactFactorTimesSaid :=
  OpenClaim.holds_of_wide 5 Try.f5 rfl rfl rfl rfl rfl rfl rfl ⟨rfl, rfl, rfl, rfl, rfl⟩ rfl rfl rfl rfl rfl (by kernel_rfl) Try.func5 (by kernel_rfl)
    (of_decide_eq_true (by kernel_rfl)) (by unfold Func.isWrapper; first | (rw [if_pos (by decide +kernel)]; kernel_rfl) | (rw [if_neg (by decide +kernel)]; exact ⟨rfl, rfl⟩))
    (fun os started H enc _ => lifted os started H enc)
end Go.Proofs.Ytdegfbdoeklhnaa.fnExactFactorTimes
