/- For every list of bytes: of the drawn factors the program's FactorTimes and FactorOk return what the model's return; the product is the product at each state, and summing a variable out that the first has not may be done before it. No condition. -/
import Derived.Test.YtdegfbdoeklhnaaRows
import Derived.Test.YtdegfbdoeklhnaaHa
import Derived.Test.YtdegfbdoeklhnaaHb
import Derived.Test.YtdegfbdoeklhnaaGa
import Derived.Test.YtdegfbdoeklhnaaFX
import Derived.Test.YtdegfbdoeklhnaaFO
import Derived.Test.YtdegfbdoeklhnaaFB
import Derived.Test.YtdegfbdoeklhnaaFU
import Derived.Test.YtdegfbdoeklhnaaG3
import Derived.Test.YtdegfbdoeklhnaaNm
import Derived.Test.YtdegfbdoeklhnaaOpB
import Derived.Test.YtdegfbdoeklhnaaKt
import Derived.ProofKit
import Derived.OpenShut
import Derived.ShutString
import Derived.ChangeOld
import Derived.Below
namespace Go.Proofs.Ytdegfbdoeklhnaa.fnFactorTimes
open Go.ChangeShapes Go.WideShapes Go.ChangeAt Go.RowKit 
set_option linter.unusedVariables false
set_option maxRecDepth 100000

theorem own : ownKnob Try.prog.godebug = none := by kernel_rfl
theorem laidOut : laidOutB Try.prog = true := by kernel_rfl

theorem mem_take1 {vs : List Int} {j : Nat} {x v : Int} (h : vs[j]? = some x) : v ∈ vs.take (j + 1) ↔ v ∈ vs.take j ∨ x = v := by
  rw [List.take_add_one, h]
  simp [eq_comm]
set_option maxHeartbeats 4000000 in
theorem walk {H : Type} (enc : TypeId × Value → H) (W : World) (base : Nat) (v0 : Value) (d0 : DataW H) (p0 : List MemPlace) (hv0 : Value.okWide Try.prog W .any base 60 v0)
    (h0 : DataW.Trod enc Try.prog W 0 (fun _ => true) true 60 v0 d0 p0) (_ : ∀ x ∈ p0, x.block < W.heap.size) :
    Calls Try.prog 11 #[v0] W fun e w' => e = .returned (.bool true) ∧ Below W.heap.size W w' := by
  obtain ⟨A, n, c, rfl, hn, hc, hb⟩ := open_bytes hv0 h0
  clear hv0 h0
  have hcM := Lib.hid hc
  have hnn : n ≤ 9223372036854775807 := by unfold maxLen at hc; omega
  clear hc
  by_cases h1 : 1048576 < n
  · go_enter Try.func11, Try.ntmps11
    go_wp2_with fail
    go_ret
    exact ⟨rfl, Below.refl _ _⟩
  go_enter Try.func11, Try.ntmps11
  go_wp2_with fail
  refine (DrawFactorTimes_any A n c _ hb hn hcM.out).mono ?_
  rintro e w1 ⟨a1, a2, b1, b2, F, H, rfl, hV, hU, hl1, hl2, hm1, hm2, hB⟩
  have hB1 := Lib.hid hB
  clear hB hb
  obtain ⟨AX1, cX1, hv, _, _⟩ := hV.1.form
  subst hv
  obtain ⟨AX2, cX2, hv, _, _⟩ := hV.2.1.form
  subst hv
  have hX1 := Lib.hid hV.fac
  clear hV
  obtain ⟨AY1, cY1, hv, _, _⟩ := hU.1.form
  subst hv
  obtain ⟨AY2, cY2, hv, _, _⟩ := hU.2.1.form
  subst hv
  have hY1 := Lib.hid hU.fac
  clear hU
  have hbn : Below w1.heap.size w1 (w1.alloc (.cells #[.slice AX1 F.vs.length cX1, .slice AX2 F.ns.length cX2] 27)) := (Below.refl _ _).alloc (Nat.le_refl _) _
  have hcnX := Lib.hid (Has.new w1 27 #[.slice AX1 F.vs.length cX1, .slice AX2 F.ns.length cX2])
  have hX2 := Lib.hid (hX1.out.below hbn)
  clear hX1
  have hY2 := Lib.hid (hY1.out.below hbn)
  clear hY1
  have hB2 := Lib.hid (hB1.out.trans (hbn.mono hB1.out.size))
  clear hB1
  clear hbn
  have hc_X := hcnX.out.cell
  have hbn : Below (w1.alloc (.cells #[.slice AX1 F.vs.length cX1, .slice AX2 F.ns.length cX2] 27)).heap.size (w1.alloc (.cells #[.slice AX1 F.vs.length cX1, .slice AX2 F.ns.length cX2] 27)) ((w1.alloc (.cells #[.slice AX1 F.vs.length cX1, .slice AX2 F.ns.length cX2] 27)).alloc (.cells #[.slice AY1 H.vs.length cY1, .slice AY2 H.ns.length cY2] 27)) := (Below.refl _ _).alloc (Nat.le_refl _) _
  have hcnY := Lib.hid (Has.new (w1.alloc (.cells #[.slice AX1 F.vs.length cX1, .slice AX2 F.ns.length cX2] 27)) 27 #[.slice AY1 H.vs.length cY1, .slice AY2 H.ns.length cY2])
  have hgn : (w1.alloc (.cells #[.slice AX1 F.vs.length cX1, .slice AX2 F.ns.length cX2] 27)).heap.size = w1.heap.size + 1 := by simp
  rw [hgn] at hcnY
  clear hgn
  clear hc_X
  have hX3 := Lib.hid (hX2.out.below hbn)
  clear hX2
  have hY3 := Lib.hid (hY2.out.below hbn)
  clear hY2
  have hcX3 := Lib.hid (Has.kept (by exact hcnX.out) hbn)
  clear hcnX
  have hB3 := Lib.hid (hB2.out.trans (hbn.mono hB2.out.size))
  clear hB2
  have hc_X := hcX3.out.cell
  clear hbn
  clear hc_X
  have hc_X := hcX3.out.cell
  have hc_Y := hcnY.out.cell
  obtain ⟨T, hT⟩ : ∃ T, T = timesTo F H := ⟨_, rfl⟩
  obtain ⟨ok, hok⟩ : ∃ b, b = okTimes F H := ⟨_, rfl⟩
  have hTl : T.vs.length ≤ 4 ∧ T.ns.length ≤ 81 := by rw [hT]; exact timesTo_len F H
  obtain ⟨hT1, hT2⟩ := hTl
  have hTh := Lib.hid hT
  have hokh := Lib.hid hok
  obtain ⟨fo, hfo⟩ : ∃ b, b = facOk 1000000000 F := ⟨_, rfl⟩
  have hfoh := Lib.hid hfo
  clear hT hok hfo
  go_wp2_with fail
  refine (FactorTimes_any AX1 AX2 AY1 AY2 F.vs.length cX1 F.ns.length cX2 H.vs.length cY1 H.ns.length cY2 F H _ hX3.out hY3.out (by unfold maxLen; omega) (by unfold maxLen; omega) (by unfold maxLen; omega) (by unfold maxLen; omega)).mono ?_
  rw [← hTh.out, ← hokh.out]
  rintro e w4 ⟨p1, p2, rfl, hP, hb⟩
  clear hc_X hc_Y
  have hX4 := Lib.hid (hX3.out.below hb)
  clear hX3
  have hY4 := Lib.hid (hY3.out.below hb)
  clear hY3
  have hcX4 := Lib.hid (Has.kept (by exact hcX3.out) hb)
  clear hcX3
  have hcY4 := Lib.hid (Has.kept (by exact hcnY.out) hb)
  clear hcnY
  have hB4 := Lib.hid (hB3.out.trans (hb.mono hB3.out.size))
  clear hB3
  have hc_X := hcX4.out.cell
  have hc_Y := hcY4.out.cell
  clear hb
  obtain ⟨AP1, cP1, hv, _, _⟩ := hP.1.form
  subst hv
  obtain ⟨AP2, cP2, hv, _, _⟩ := hP.2.1.form
  subst hv
  have hP4 := Lib.hid hP.fac
  clear hP
  have hbn : Below w4.heap.size w4 (w4.alloc (.cells #[.slice AP1 T.vs.length cP1, .slice AP2 T.ns.length cP2] 27)) := (Below.refl _ _).alloc (Nat.le_refl _) _
  have hcnP := Lib.hid (Has.new w4 27 #[.slice AP1 T.vs.length cP1, .slice AP2 T.ns.length cP2])
  clear hc_X hc_Y
  have hX5 := Lib.hid (hX4.out.below hbn)
  clear hX4
  have hY5 := Lib.hid (hY4.out.below hbn)
  clear hY4
  have hP5 := Lib.hid (hP4.out.below hbn)
  clear hP4
  have hcX5 := Lib.hid (Has.kept (by exact hcX4.out) hbn)
  clear hcX4
  have hcY5 := Lib.hid (Has.kept (by exact hcY4.out) hbn)
  clear hcY4
  have hB5 := Lib.hid (hB4.out.trans (hbn.mono hB4.out.size))
  clear hB4
  have hc_X := hcX5.out.cell
  have hc_Y := hcY5.out.cell
  clear hbn
  clear hc_X hc_Y
  have hc_X := hcX5.out.cell
  have hc_Y := hcY5.out.cell
  have hc_P := hcnP.out.cell
  go_wp2_with fail
  refine (specFactorTimes_any AX1 AX2 AY1 AY2 F.vs.length cX1 F.ns.length cX2 H.vs.length cY1 H.ns.length cY2 F H _ hX5.out hY5.out (by unfold maxLen; omega) (by unfold maxLen; omega) (by unfold maxLen; omega) (by unfold maxLen; omega)).mono ?_
  rw [← hTh.out, ← hokh.out]
  rintro e w6 ⟨q1, q2, rfl, hQ, hb⟩
  clear hc_X hc_Y hc_P
  have hX6 := Lib.hid (hX5.out.below hb)
  clear hX5
  have hY6 := Lib.hid (hY5.out.below hb)
  clear hY5
  have hP6 := Lib.hid (hP5.out.below hb)
  clear hP5
  have hcX6 := Lib.hid (Has.kept (by exact hcX5.out) hb)
  clear hcX5
  have hcY6 := Lib.hid (Has.kept (by exact hcY5.out) hb)
  clear hcY5
  have hcP6 := Lib.hid (Has.kept (by exact hcnP.out) hb)
  clear hcnP
  have hB6 := Lib.hid (hB5.out.trans (hb.mono hB5.out.size))
  clear hB5
  have hc_X := hcX6.out.cell
  have hc_Y := hcY6.out.cell
  have hc_P := hcP6.out.cell
  clear hb
  obtain ⟨AQ1, cQ1, hv, _, _⟩ := hQ.1.form
  subst hv
  obtain ⟨AQ2, cQ2, hv, _, _⟩ := hQ.2.1.form
  subst hv
  have hQ6 := Lib.hid hQ.fac
  clear hQ
  have hbn : Below w6.heap.size w6 (w6.alloc (.cells #[.slice AQ1 T.vs.length cQ1, .slice AQ2 T.ns.length cQ2] 27)) := (Below.refl _ _).alloc (Nat.le_refl _) _
  have hcnQ := Lib.hid (Has.new w6 27 #[.slice AQ1 T.vs.length cQ1, .slice AQ2 T.ns.length cQ2])
  clear hc_X hc_Y hc_P
  have hX7 := Lib.hid (hX6.out.below hbn)
  clear hX6
  have hY7 := Lib.hid (hY6.out.below hbn)
  clear hY6
  have hP7 := Lib.hid (hP6.out.below hbn)
  clear hP6
  have hQ7 := Lib.hid (hQ6.out.below hbn)
  clear hQ6
  have hcX7 := Lib.hid (Has.kept (by exact hcX6.out) hbn)
  clear hcX6
  have hcY7 := Lib.hid (Has.kept (by exact hcY6.out) hbn)
  clear hcY6
  have hcP7 := Lib.hid (Has.kept (by exact hcP6.out) hbn)
  clear hcP6
  have hB7 := Lib.hid (hB6.out.trans (hbn.mono hB6.out.size))
  clear hB6
  have hc_X := hcX7.out.cell
  have hc_Y := hcY7.out.cell
  have hc_P := hcP7.out.cell
  clear hbn
  clear hc_X hc_Y hc_P
  have hc_X := hcX7.out.cell
  have hc_Y := hcY7.out.cell
  have hc_P := hcP7.out.cell
  have hc_Q := hcnQ.out.cell
  obtain hW6 : True := trivial
  go_wp2_with fail
  clear hc_X hc_Y hc_P hc_Q
  generalize (w6.alloc (.cells #[.slice AQ1 T.vs.length cQ1, .slice AQ2 T.ns.length cQ2] 27)) = W6 at hX7 hY7 hP7 hQ7 hcX7 hcY7 hcP7 hcnQ hB7 ⊢
  refine wp_region_any (by kernel_rfl) ?_
  change wpAny _ _ _ _ _ _ _ (World.drew _)
  refine wpAny_last (n := 15) (I := fun listed aq wx => listed.size = 16 ∧ ∃ v41 v42 v43 v44 v45 v46 v47 v48 v49 v50 v51 v52 v53 v54 v55 : Value, aq = { tmps := #[.slice A n c, undef, .bool false, .pointer (some ⟨w1.heap.size, 0, none⟩), .pointer (some ⟨w1.heap.size + 1, 0, none⟩), .pointer (some ⟨w4.heap.size, 0, none⟩), .bool ok, .pointer (some ⟨w6.heap.size, 0, none⟩), .bool ok, undef, undef, undef, undef, undef, undef, undef, undef, undef, undef, undef, undef, .slice A n c, .int .i64 ((n : Nat) : Int), .bool (decide (1048576 < ((n : Nat) : Int))), .tuple #[.agg #[.slice AX1 F.vs.length cX1, .slice AX2 F.ns.length cX2], .agg #[.slice AY1 H.vs.length cY1, .slice AY2 H.ns.length cY2]], .slice A n c, .tuple #[.agg #[.slice AX1 F.vs.length cX1, .slice AX2 F.ns.length cX2], .agg #[.slice AY1 H.vs.length cY1, .slice AY2 H.ns.length cY2]], .agg #[.slice AX1 F.vs.length cX1, .slice AX2 F.ns.length cX2], .agg #[.slice AY1 H.vs.length cY1, .slice AY2 H.ns.length cY2], .tuple #[.agg #[.slice AP1 T.vs.length cP1, .slice AP2 T.ns.length cP2], .bool ok], .agg #[.slice AX1 F.vs.length cX1, .slice AX2 F.ns.length cX2], .agg #[.slice AY1 H.vs.length cY1, .slice AY2 H.ns.length cY2], .tuple #[.agg #[.slice AP1 T.vs.length cP1, .slice AP2 T.ns.length cP2], .bool ok], .agg #[.slice AP1 T.vs.length cP1, .slice AP2 T.ns.length cP2], .bool ok, .tuple #[.agg #[.slice AQ1 T.vs.length cQ1, .slice AQ2 T.ns.length cQ2], .bool ok], .agg #[.slice AX1 F.vs.length cX1, .slice AX2 F.ns.length cX2], .agg #[.slice AY1 H.vs.length cY1, .slice AY2 H.ns.length cY2], .tuple #[.agg #[.slice AQ1 T.vs.length cQ1, .slice AQ2 T.ns.length cQ2], .bool ok], .agg #[.slice AQ1 T.vs.length cQ1, .slice AQ2 T.ns.length cQ2], .bool ok, v41, v42, v43, v44, v45, v46, v47, v48, v49, v50, v51, v52, v53, v54, v55, undef, undef, undef, undef, undef, undef, undef, undef, undef, undef, undef, undef, undef, undef, undef, undef, undef, undef, undef, undef, undef, undef, undef, undef, undef, undef, undef, undef, undef, undef, undef, undef, undef, undef, undef, undef, undef, undef, undef, undef, undef, undef, undef, undef, undef, undef, undef, undef, undef, undef, undef, undef, undef, undef, undef, undef, undef, undef, undef, undef, undef, undef, undef, undef, undef, undef, undef, undef, undef, undef, undef, undef, undef, undef, undef, undef, undef, undef, undef], defers := [] } ∧ (listed.getD 0 false = true → v41 = .bool ok) ∧ (listed.getD 1 false = true → v42 = .bool ok) ∧ (listed.getD 2 false = true → v43 = .bool false) ∧ (listed.getD 3 false = true → v44 = .bool false) ∧ (listed.getD 4 false = true → v45 = .agg #[.slice AP1 T.vs.length cP1, .slice AP2 T.ns.length cP2]) ∧ (listed.getD 5 false = true → v46 = .agg #[.slice AQ1 T.vs.length cQ1, .slice AQ2 T.ns.length cQ2]) ∧ (listed.getD 6 false = true → v47 = .bool true) ∧ (listed.getD 7 false = true → v48 = .bool false) ∧ (listed.getD 8 false = true → v49 = .bool false) ∧ (listed.getD 9 false = true → v50 = .bool false) ∧ (listed.getD 10 false = true → v51 = .agg #[.slice AX1 F.vs.length cX1, .slice AX2 F.ns.length cX2]) ∧ (listed.getD 11 false = true → v52 = .bool fo) ∧ (listed.getD 12 false = true → v53 = .agg #[.slice AX1 F.vs.length cX1, .slice AX2 F.ns.length cX2]) ∧ (listed.getD 13 false = true → v54 = .bool fo) ∧ (listed.getD 14 false = true → v55 = .bool false) ∧ Below W6.heap.size W6 wx) rfl (by kernel_rfl) (by kernel_rfl) ?hs ?hl _ _ _ ?st rfl (by decide) _ (by decide)
  case st =>
    refine ⟨rfl, undef, undef, undef, undef, undef, undef, undef, undef, undef, undef, undef, undef, undef, undef, undef, rfl, ?_, ?_, ?_, ?_, ?_, ?_, ?_, ?_, ?_, ?_, ?_, ?_, ?_, ?_, ?_, (Below.refl _ _).drew⟩ <;> (intro e; exact absurd e (by decide))
  case hs =>
    rintro listed aq wx ⟨hz, v41, v42, v43, v44, v45, v46, v47, v48, v49, v50, v51, v52, v53, v54, v55, rfl, hII⟩ i hin hi
    obtain ⟨h0, o, ho, hd⟩ := mem_ready.1 hi
    have K0 := Lib.hid hII.1
    have K1 := Lib.hid hII.2.1
    have K2 := Lib.hid hII.2.2.1
    have K3 := Lib.hid hII.2.2.2.1
    have K4 := Lib.hid hII.2.2.2.2.1
    have K5 := Lib.hid hII.2.2.2.2.2.1
    have K6 := Lib.hid hII.2.2.2.2.2.2.1
    have K7 := Lib.hid hII.2.2.2.2.2.2.2.1
    have K8 := Lib.hid hII.2.2.2.2.2.2.2.2.1
    have K9 := Lib.hid hII.2.2.2.2.2.2.2.2.2.1
    have K10 := Lib.hid hII.2.2.2.2.2.2.2.2.2.2.1
    have K11 := Lib.hid hII.2.2.2.2.2.2.2.2.2.2.2.1
    have K12 := Lib.hid hII.2.2.2.2.2.2.2.2.2.2.2.2.1
    have K13 := Lib.hid hII.2.2.2.2.2.2.2.2.2.2.2.2.2.1
    have K14 := Lib.hid hII.2.2.2.2.2.2.2.2.2.2.2.2.2.2.1
    have hB : Below W6.heap.size W6 wx := hII.2.2.2.2.2.2.2.2.2.2.2.2.2.2.2
    have hne := Lib.hid (fun k (hk : i ≠ k) => @listed_ne listed i k hk)
    have hxX := Has.kept (by exact hcX7.out) hB
    have hxP := Has.kept (by exact hcP7.out) hB
    have hxQ := Has.kept (by exact hcnQ.out) hB
    have h0f : listed.getD i false = false := by rw [Array.getD_eq_getD_getElem?, getD_false h0]; rfl
    clear hII hi h0
    rcases (by omega : i = 0 ∨ i = 1 ∨ i = 2 ∨ i = 3 ∨ i = 4 ∨ i = 5 ∨ i = 6 ∨ i = 7 ∨ i = 8 ∨ i = 9 ∨ i = 10 ∨ i = 11 ∨ i = 12 ∨ i = 13 ∨ i = 14) with rfl | rfl | rfl | rfl | rfl | rfl | rfl | rfl | rfl | rfl | rfl | rfl | rfl | rfl | rfl
    · cases ho
      refine wpOp_step rfl (fun K hK => ?_)
      go_simp
      refine hK _ _ ⟨by simpa using hz, .bool ok, v42, v43, v44, v45, v46, v47, v48, v49, v50, v51, v52, v53, v54, v55, rfl, ?_⟩
      exact ⟨fun _ => rfl, fun e => K1.out (hne.out 1 (by decide) e), fun e => K2.out (hne.out 2 (by decide) e), fun e => K3.out (hne.out 3 (by decide) e), fun e => K4.out (hne.out 4 (by decide) e), fun e => K5.out (hne.out 5 (by decide) e), fun e => K6.out (hne.out 6 (by decide) e), fun e => K7.out (hne.out 7 (by decide) e), fun e => K8.out (hne.out 8 (by decide) e), fun e => K9.out (hne.out 9 (by decide) e), fun e => K10.out (hne.out 10 (by decide) e), fun e => K11.out (hne.out 11 (by decide) e), fun e => K12.out (hne.out 12 (by decide) e), fun e => K13.out (hne.out 13 (by decide) e), fun e => K14.out (hne.out 14 (by decide) e), hB⟩
    · cases ho
      refine wpOp_step rfl (fun K hK => ?_)
      go_simp
      refine hK _ _ ⟨by simpa using hz, v41, .bool ok, v43, v44, v45, v46, v47, v48, v49, v50, v51, v52, v53, v54, v55, rfl, ?_⟩
      exact ⟨fun e => K0.out (hne.out 0 (by decide) e), fun _ => rfl, fun e => K2.out (hne.out 2 (by decide) e), fun e => K3.out (hne.out 3 (by decide) e), fun e => K4.out (hne.out 4 (by decide) e), fun e => K5.out (hne.out 5 (by decide) e), fun e => K6.out (hne.out 6 (by decide) e), fun e => K7.out (hne.out 7 (by decide) e), fun e => K8.out (hne.out 8 (by decide) e), fun e => K9.out (hne.out 9 (by decide) e), fun e => K10.out (hne.out 10 (by decide) e), fun e => K11.out (hne.out 11 (by decide) e), fun e => K12.out (hne.out 12 (by decide) e), fun e => K13.out (hne.out 13 (by decide) e), fun e => K14.out (hne.out 14 (by decide) e), hB⟩
    · cases ho
      have d0 := hd ⟨0, .data⟩ (by simp) rfl
      have d1 := hd ⟨1, .data⟩ (by simp) rfl
      obtain rfl := K0.out d0
      obtain rfl := K1.out d1
      refine wpOp_step rfl (fun K hK => ?_)
      go_simp
      refine hK _ _ ⟨by simpa using hz, .bool ok, .bool ok, .bool false, v44, v45, v46, v47, v48, v49, v50, v51, v52, v53, v54, v55, rfl, ?_⟩
      exact ⟨fun e => K0.out (hne.out 0 (by decide) e), fun e => K1.out (hne.out 1 (by decide) e), fun _ => rfl, fun e => K3.out (hne.out 3 (by decide) e), fun e => K4.out (hne.out 4 (by decide) e), fun e => K5.out (hne.out 5 (by decide) e), fun e => K6.out (hne.out 6 (by decide) e), fun e => K7.out (hne.out 7 (by decide) e), fun e => K8.out (hne.out 8 (by decide) e), fun e => K9.out (hne.out 9 (by decide) e), fun e => K10.out (hne.out 10 (by decide) e), fun e => K11.out (hne.out 11 (by decide) e), fun e => K12.out (hne.out 12 (by decide) e), fun e => K13.out (hne.out 13 (by decide) e), fun e => K14.out (hne.out 14 (by decide) e), hB⟩
    · cases ho
      have d2 := hd ⟨2, .data⟩ (by simp) rfl
      obtain rfl := K2.out d2
      refine wpOp_step rfl (fun K hK => ?_)
      go_simp
      refine hK _ _ ⟨by simpa using hz, v41, v42, .bool false, .bool false, v45, v46, v47, v48, v49, v50, v51, v52, v53, v54, v55, rfl, ?_⟩
      exact ⟨fun e => K0.out (hne.out 0 (by decide) e), fun e => K1.out (hne.out 1 (by decide) e), fun e => K2.out (hne.out 2 (by decide) e), fun _ => rfl, fun e => K4.out (hne.out 4 (by decide) e), fun e => K5.out (hne.out 5 (by decide) e), fun e => K6.out (hne.out 6 (by decide) e), fun e => K7.out (hne.out 7 (by decide) e), fun e => K8.out (hne.out 8 (by decide) e), fun e => K9.out (hne.out 9 (by decide) e), fun e => K10.out (hne.out 10 (by decide) e), fun e => K11.out (hne.out 11 (by decide) e), fun e => K12.out (hne.out 12 (by decide) e), fun e => K13.out (hne.out 13 (by decide) e), fun e => K14.out (hne.out 14 (by decide) e), hB⟩
    · cases ho
      have d3 := hd ⟨3, .guard⟩ (by simp) rfl
      obtain rfl := K3.out d3
      have hxPc := hxP.cell
      refine wpOp_step rfl (fun K hK => ?_)
      go_simp
      refine hK _ _ ⟨by simpa using hz, v41, v42, v43, .bool false, .agg #[.slice AP1 T.vs.length cP1, .slice AP2 T.ns.length cP2], v46, v47, v48, v49, v50, v51, v52, v53, v54, v55, rfl, ?_⟩
      exact ⟨fun e => K0.out (hne.out 0 (by decide) e), fun e => K1.out (hne.out 1 (by decide) e), fun e => K2.out (hne.out 2 (by decide) e), fun e => K3.out (hne.out 3 (by decide) e), fun _ => rfl, fun e => K5.out (hne.out 5 (by decide) e), fun e => K6.out (hne.out 6 (by decide) e), fun e => K7.out (hne.out 7 (by decide) e), fun e => K8.out (hne.out 8 (by decide) e), fun e => K9.out (hne.out 9 (by decide) e), fun e => K10.out (hne.out 10 (by decide) e), fun e => K11.out (hne.out 11 (by decide) e), fun e => K12.out (hne.out 12 (by decide) e), fun e => K13.out (hne.out 13 (by decide) e), fun e => K14.out (hne.out 14 (by decide) e), hB⟩
    · cases ho
      have d3 := hd ⟨3, .guard⟩ (by simp) rfl
      obtain rfl := K3.out d3
      have hxQc := hxQ.cell
      refine wpOp_step rfl (fun K hK => ?_)
      go_simp
      refine hK _ _ ⟨by simpa using hz, v41, v42, v43, .bool false, v45, .agg #[.slice AQ1 T.vs.length cQ1, .slice AQ2 T.ns.length cQ2], v47, v48, v49, v50, v51, v52, v53, v54, v55, rfl, ?_⟩
      exact ⟨fun e => K0.out (hne.out 0 (by decide) e), fun e => K1.out (hne.out 1 (by decide) e), fun e => K2.out (hne.out 2 (by decide) e), fun e => K3.out (hne.out 3 (by decide) e), fun e => K4.out (hne.out 4 (by decide) e), fun _ => rfl, fun e => K6.out (hne.out 6 (by decide) e), fun e => K7.out (hne.out 7 (by decide) e), fun e => K8.out (hne.out 8 (by decide) e), fun e => K9.out (hne.out 9 (by decide) e), fun e => K10.out (hne.out 10 (by decide) e), fun e => K11.out (hne.out 11 (by decide) e), fun e => K12.out (hne.out 12 (by decide) e), fun e => K13.out (hne.out 13 (by decide) e), fun e => K14.out (hne.out 14 (by decide) e), hB⟩
    · cases ho
      have d4 := hd ⟨4, .data⟩ (by simp) rfl
      have d5 := hd ⟨5, .data⟩ (by simp) rfl
      have d3 := hd ⟨3, .guard⟩ (by simp) rfl
      obtain rfl := K4.out d4
      obtain rfl := K5.out d5
      obtain rfl := K3.out d3
      refine wpOp_step rfl (fun K hK => ?_)
      go_simp
      go_at_call 49
      refine (wcFactor_any AP1 AP2 AQ1 AQ2 T.vs.length cP1 T.ns.length cP2 T.vs.length cQ1 T.ns.length cQ2 T _ (hP7.out.below hB) (hQ7.out.below hB) (by unfold maxLen; omega) (by unfold maxLen; omega) (by unfold maxLen; omega) (by unfold maxLen; omega)).mono ?_
      rintro e w3 ⟨rfl, hb3⟩
      refine hK _ _ ⟨by simpa using hz, v41, v42, v43, .bool false, .agg #[.slice AP1 T.vs.length cP1, .slice AP2 T.ns.length cP2], .agg #[.slice AQ1 T.vs.length cQ1, .slice AQ2 T.ns.length cQ2], .bool true, v48, v49, v50, v51, v52, v53, v54, v55, rfl, ?_⟩
      exact ⟨fun e => K0.out (hne.out 0 (by decide) e), fun e => K1.out (hne.out 1 (by decide) e), fun e => K2.out (hne.out 2 (by decide) e), fun e => K3.out (hne.out 3 (by decide) e), fun e => K4.out (hne.out 4 (by decide) e), fun e => K5.out (hne.out 5 (by decide) e), fun _ => rfl, fun e => K7.out (hne.out 7 (by decide) e), fun e => K8.out (hne.out 8 (by decide) e), fun e => K9.out (hne.out 9 (by decide) e), fun e => K10.out (hne.out 10 (by decide) e), fun e => K11.out (hne.out 11 (by decide) e), fun e => K12.out (hne.out 12 (by decide) e), fun e => K13.out (hne.out 13 (by decide) e), fun e => K14.out (hne.out 14 (by decide) e), hB.trans (hb3.mono hB.size)⟩
    · cases ho
      have d6 := hd ⟨6, .data⟩ (by simp) rfl
      have d3 := hd ⟨3, .guard⟩ (by simp) rfl
      obtain rfl := K6.out d6
      obtain rfl := K3.out d3
      refine wpOp_step rfl (fun K hK => ?_)
      go_simp
      refine hK _ _ ⟨by simpa using hz, v41, v42, v43, .bool false, v45, v46, .bool true, .bool false, v49, v50, v51, v52, v53, v54, v55, rfl, ?_⟩
      exact ⟨fun e => K0.out (hne.out 0 (by decide) e), fun e => K1.out (hne.out 1 (by decide) e), fun e => K2.out (hne.out 2 (by decide) e), fun e => K3.out (hne.out 3 (by decide) e), fun e => K4.out (hne.out 4 (by decide) e), fun e => K5.out (hne.out 5 (by decide) e), fun e => K6.out (hne.out 6 (by decide) e), fun _ => rfl, fun e => K8.out (hne.out 8 (by decide) e), fun e => K9.out (hne.out 9 (by decide) e), fun e => K10.out (hne.out 10 (by decide) e), fun e => K11.out (hne.out 11 (by decide) e), fun e => K12.out (hne.out 12 (by decide) e), fun e => K13.out (hne.out 13 (by decide) e), fun e => K14.out (hne.out 14 (by decide) e), hB⟩
    · cases ho
      have d3 := hd ⟨3, .data⟩ (by simp) rfl
      have d7 := hd ⟨7, .data⟩ (by simp) rfl
      obtain rfl := K3.out d3
      obtain rfl := K7.out d7
      refine wpOp_step rfl (fun K hK => ?_)
      go_simp
      refine hK _ _ ⟨by simpa using hz, v41, v42, v43, .bool false, v45, v46, v47, .bool false, .bool false, v50, v51, v52, v53, v54, v55, rfl, ?_⟩
      exact ⟨fun e => K0.out (hne.out 0 (by decide) e), fun e => K1.out (hne.out 1 (by decide) e), fun e => K2.out (hne.out 2 (by decide) e), fun e => K3.out (hne.out 3 (by decide) e), fun e => K4.out (hne.out 4 (by decide) e), fun e => K5.out (hne.out 5 (by decide) e), fun e => K6.out (hne.out 6 (by decide) e), fun e => K7.out (hne.out 7 (by decide) e), fun _ => rfl, fun e => K9.out (hne.out 9 (by decide) e), fun e => K10.out (hne.out 10 (by decide) e), fun e => K11.out (hne.out 11 (by decide) e), fun e => K12.out (hne.out 12 (by decide) e), fun e => K13.out (hne.out 13 (by decide) e), fun e => K14.out (hne.out 14 (by decide) e), hB⟩
    · cases ho
      have d8 := hd ⟨8, .data⟩ (by simp) rfl
      obtain rfl := K8.out d8
      refine wpOp_step rfl (fun K hK => ?_)
      go_simp
      refine hK _ _ ⟨by simpa using hz, v41, v42, v43, v44, v45, v46, v47, v48, .bool false, .bool false, v51, v52, v53, v54, v55, rfl, ?_⟩
      exact ⟨fun e => K0.out (hne.out 0 (by decide) e), fun e => K1.out (hne.out 1 (by decide) e), fun e => K2.out (hne.out 2 (by decide) e), fun e => K3.out (hne.out 3 (by decide) e), fun e => K4.out (hne.out 4 (by decide) e), fun e => K5.out (hne.out 5 (by decide) e), fun e => K6.out (hne.out 6 (by decide) e), fun e => K7.out (hne.out 7 (by decide) e), fun e => K8.out (hne.out 8 (by decide) e), fun _ => rfl, fun e => K10.out (hne.out 10 (by decide) e), fun e => K11.out (hne.out 11 (by decide) e), fun e => K12.out (hne.out 12 (by decide) e), fun e => K13.out (hne.out 13 (by decide) e), fun e => K14.out (hne.out 14 (by decide) e), hB⟩
    · cases ho
      have d9 := hd ⟨9, .guard⟩ (by simp) rfl
      obtain rfl := K9.out d9
      have hxXc := hxX.cell
      refine wpOp_step rfl (fun K hK => ?_)
      go_simp
      refine hK _ _ ⟨by simpa using hz, v41, v42, v43, v44, v45, v46, v47, v48, v49, .bool false, .agg #[.slice AX1 F.vs.length cX1, .slice AX2 F.ns.length cX2], v52, v53, v54, v55, rfl, ?_⟩
      exact ⟨fun e => K0.out (hne.out 0 (by decide) e), fun e => K1.out (hne.out 1 (by decide) e), fun e => K2.out (hne.out 2 (by decide) e), fun e => K3.out (hne.out 3 (by decide) e), fun e => K4.out (hne.out 4 (by decide) e), fun e => K5.out (hne.out 5 (by decide) e), fun e => K6.out (hne.out 6 (by decide) e), fun e => K7.out (hne.out 7 (by decide) e), fun e => K8.out (hne.out 8 (by decide) e), fun e => K9.out (hne.out 9 (by decide) e), fun _ => rfl, fun e => K11.out (hne.out 11 (by decide) e), fun e => K12.out (hne.out 12 (by decide) e), fun e => K13.out (hne.out 13 (by decide) e), fun e => K14.out (hne.out 14 (by decide) e), hB⟩
    · cases ho
      have d10 := hd ⟨10, .data⟩ (by simp) rfl
      have d9 := hd ⟨9, .guard⟩ (by simp) rfl
      obtain rfl := K10.out d10
      obtain rfl := K9.out d9
      refine wpOp_step rfl (fun K hK => ?_)
      go_simp
      go_at_call 18
      refine (FactorOk_any AX1 AX2 F.vs.length cX1 F.ns.length cX2 F _ (hX7.out.below hB) (by unfold maxLen; omega) (by unfold maxLen; omega)).mono ?_
      rw [← hfoh.out]
      rintro e w3 ⟨rfl, hb3⟩
      refine hK _ _ ⟨by simpa using hz, v41, v42, v43, v44, v45, v46, v47, v48, v49, .bool false, .agg #[.slice AX1 F.vs.length cX1, .slice AX2 F.ns.length cX2], .bool fo, v53, v54, v55, rfl, ?_⟩
      exact ⟨fun e => K0.out (hne.out 0 (by decide) e), fun e => K1.out (hne.out 1 (by decide) e), fun e => K2.out (hne.out 2 (by decide) e), fun e => K3.out (hne.out 3 (by decide) e), fun e => K4.out (hne.out 4 (by decide) e), fun e => K5.out (hne.out 5 (by decide) e), fun e => K6.out (hne.out 6 (by decide) e), fun e => K7.out (hne.out 7 (by decide) e), fun e => K8.out (hne.out 8 (by decide) e), fun e => K9.out (hne.out 9 (by decide) e), fun e => K10.out (hne.out 10 (by decide) e), fun _ => rfl, fun e => K12.out (hne.out 12 (by decide) e), fun e => K13.out (hne.out 13 (by decide) e), fun e => K14.out (hne.out 14 (by decide) e), hB.trans (hb3.mono hB.size)⟩
    · cases ho
      have d9 := hd ⟨9, .guard⟩ (by simp) rfl
      obtain rfl := K9.out d9
      have hxXc := hxX.cell
      refine wpOp_step rfl (fun K hK => ?_)
      go_simp
      refine hK _ _ ⟨by simpa using hz, v41, v42, v43, v44, v45, v46, v47, v48, v49, .bool false, v51, v52, .agg #[.slice AX1 F.vs.length cX1, .slice AX2 F.ns.length cX2], v54, v55, rfl, ?_⟩
      exact ⟨fun e => K0.out (hne.out 0 (by decide) e), fun e => K1.out (hne.out 1 (by decide) e), fun e => K2.out (hne.out 2 (by decide) e), fun e => K3.out (hne.out 3 (by decide) e), fun e => K4.out (hne.out 4 (by decide) e), fun e => K5.out (hne.out 5 (by decide) e), fun e => K6.out (hne.out 6 (by decide) e), fun e => K7.out (hne.out 7 (by decide) e), fun e => K8.out (hne.out 8 (by decide) e), fun e => K9.out (hne.out 9 (by decide) e), fun e => K10.out (hne.out 10 (by decide) e), fun e => K11.out (hne.out 11 (by decide) e), fun _ => rfl, fun e => K13.out (hne.out 13 (by decide) e), fun e => K14.out (hne.out 14 (by decide) e), hB⟩
    · cases ho
      have d12 := hd ⟨12, .data⟩ (by simp) rfl
      have d9 := hd ⟨9, .guard⟩ (by simp) rfl
      obtain rfl := K12.out d12
      obtain rfl := K9.out d9
      refine wpOp_step rfl (fun K hK => ?_)
      go_simp
      go_at_call 16
      refine (specFactorOk_any AX1 AX2 F.vs.length cX1 F.ns.length cX2 F _ (hX7.out.below hB) (by unfold maxLen; omega) (by unfold maxLen; omega)).mono ?_
      rw [← hfoh.out]
      rintro e w3 ⟨rfl, hb3⟩
      refine hK _ _ ⟨by simpa using hz, v41, v42, v43, v44, v45, v46, v47, v48, v49, .bool false, v51, v52, .agg #[.slice AX1 F.vs.length cX1, .slice AX2 F.ns.length cX2], .bool fo, v55, rfl, ?_⟩
      exact ⟨fun e => K0.out (hne.out 0 (by decide) e), fun e => K1.out (hne.out 1 (by decide) e), fun e => K2.out (hne.out 2 (by decide) e), fun e => K3.out (hne.out 3 (by decide) e), fun e => K4.out (hne.out 4 (by decide) e), fun e => K5.out (hne.out 5 (by decide) e), fun e => K6.out (hne.out 6 (by decide) e), fun e => K7.out (hne.out 7 (by decide) e), fun e => K8.out (hne.out 8 (by decide) e), fun e => K9.out (hne.out 9 (by decide) e), fun e => K10.out (hne.out 10 (by decide) e), fun e => K11.out (hne.out 11 (by decide) e), fun e => K12.out (hne.out 12 (by decide) e), fun _ => rfl, fun e => K14.out (hne.out 14 (by decide) e), hB.trans (hb3.mono hB.size)⟩
    · cases ho
      have d11 := hd ⟨11, .data⟩ (by simp) rfl
      have d13 := hd ⟨13, .data⟩ (by simp) rfl
      have d9 := hd ⟨9, .guard⟩ (by simp) rfl
      obtain rfl := K11.out d11
      obtain rfl := K13.out d13
      obtain rfl := K9.out d9
      refine wpOp_step rfl (fun K hK => ?_)
      go_simp
      refine hK _ _ ⟨by simpa using hz, v41, v42, v43, v44, v45, v46, v47, v48, v49, .bool false, v51, .bool fo, v53, .bool fo, .bool false, rfl, ?_⟩
      exact ⟨fun e => K0.out (hne.out 0 (by decide) e), fun e => K1.out (hne.out 1 (by decide) e), fun e => K2.out (hne.out 2 (by decide) e), fun e => K3.out (hne.out 3 (by decide) e), fun e => K4.out (hne.out 4 (by decide) e), fun e => K5.out (hne.out 5 (by decide) e), fun e => K6.out (hne.out 6 (by decide) e), fun e => K7.out (hne.out 7 (by decide) e), fun e => K8.out (hne.out 8 (by decide) e), fun e => K9.out (hne.out 9 (by decide) e), fun e => K10.out (hne.out 10 (by decide) e), fun e => K11.out (hne.out 11 (by decide) e), fun e => K12.out (hne.out 12 (by decide) e), fun e => K13.out (hne.out 13 (by decide) e), fun _ => rfl, hB⟩
  case hl =>
    rintro listed aq wx ⟨hz, v41, v42, v43, v44, v45, v46, v47, v48, v49, v50, v51, v52, v53, v54, v55, rfl, hII⟩ hall
    have K0 := Lib.hid hII.1
    have K1 := Lib.hid hII.2.1
    have K2 := Lib.hid hII.2.2.1
    have K3 := Lib.hid hII.2.2.2.1
    have K4 := Lib.hid hII.2.2.2.2.1
    have K5 := Lib.hid hII.2.2.2.2.2.1
    have K6 := Lib.hid hII.2.2.2.2.2.2.1
    have K7 := Lib.hid hII.2.2.2.2.2.2.2.1
    have K8 := Lib.hid hII.2.2.2.2.2.2.2.2.1
    have K9 := Lib.hid hII.2.2.2.2.2.2.2.2.2.1
    have K10 := Lib.hid hII.2.2.2.2.2.2.2.2.2.2.1
    have K11 := Lib.hid hII.2.2.2.2.2.2.2.2.2.2.2.1
    have K12 := Lib.hid hII.2.2.2.2.2.2.2.2.2.2.2.2.1
    have K13 := Lib.hid hII.2.2.2.2.2.2.2.2.2.2.2.2.2.1
    have K14 := Lib.hid hII.2.2.2.2.2.2.2.2.2.2.2.2.2.2.1
    have hB : Below W6.heap.size W6 wx := hII.2.2.2.2.2.2.2.2.2.2.2.2.2.2.2
    have hxX := Has.kept (by exact hcX7.out) hB
    have hxP := Has.kept (by exact hcP7.out) hB
    have hxQ := Has.kept (by exact hcnQ.out) hB
    clear hII
    obtain rfl := K0.out (hall 0 (by decide))
    obtain rfl := K1.out (hall 1 (by decide))
    obtain rfl := K2.out (hall 2 (by decide))
    obtain rfl := K3.out (hall 3 (by decide))
    obtain rfl := K4.out (hall 4 (by decide))
    obtain rfl := K5.out (hall 5 (by decide))
    obtain rfl := K6.out (hall 6 (by decide))
    obtain rfl := K7.out (hall 7 (by decide))
    obtain rfl := K8.out (hall 8 (by decide))
    obtain rfl := K9.out (hall 9 (by decide))
    obtain rfl := K10.out (hall 10 (by decide))
    obtain rfl := K11.out (hall 11 (by decide))
    obtain rfl := K12.out (hall 12 (by decide))
    obtain rfl := K13.out (hall 13 (by decide))
    obtain rfl := K14.out (hall 14 (by decide))
    clear hall K0 K1 K2 K3 K4 K5 K6 K7 K8 K9 K10 K11 K12 K13 K14
    refine wpOp_step rfl (fun K0 hK0 => ?_)
    go_simp
    refine hK0 _ _ ?_
    clear hK0
    have hbx : Below W6.heap.size W6 wx := hB
    clear hB hxX hxP hxQ
    have hbx9 := Lib.hid hbx
    have hX8 := Lib.hid (hX7.out.below hbx)
    clear hX7
    have hY8 := Lib.hid (hY7.out.below hbx)
    clear hY7
    have hP8 := Lib.hid (hP7.out.below hbx)
    clear hP7
    have hQ8 := Lib.hid (hQ7.out.below hbx)
    clear hQ7
    have hcX8 := Lib.hid (Has.kept (by exact hcX7.out) hbx)
    clear hcX7
    have hcY8 := Lib.hid (Has.kept (by exact hcY7.out) hbx)
    clear hcY7
    have hcP8 := Lib.hid (Has.kept (by exact hcP7.out) hbx)
    clear hcP7
    have hcQ8 := Lib.hid (Has.kept (by exact hcnQ.out) hbx)
    clear hcnQ
    have hB8 := Lib.hid (hB7.out.trans (hbx.mono hB7.out.size))
    clear hB7
    have hc_X := hcX8.out.cell
    have hc_Y := hcY8.out.cell
    have hc_P := hcP8.out.cell
    have hc_Q := hcQ8.out.cell
    clear hbx
    cases ok
    · have hn0 : T.ns.length = 0 := by rw [hTh.out]; unfold timesTo; rw [← hokh.out]; rfl
      go_wp2_with fail
      go_ret
      exact ⟨rfl, hB8.out⟩
    · have hoT := hokh.out
      unfold okTimes at hoT
      have hoT' := hoT.symm
      rw [Bool.and_eq_true, Bool.and_eq_true] at hoT'
      obtain ⟨⟨hF, hH⟩, hFT⟩ := hoT'
      have hTe : T = fTimes F H := by rw [hTh.out]; unfold timesTo; rw [if_pos hokh.out.symm]
      have hFh := Lib.hid hF
      have hHh := Lib.hid hH
      have hTh2 := Lib.hid (show facOk 1000000000 T = true by rw [hTe]; exact hFT)
      have hTeh := Lib.hid hTe
      clear hoT hF hH hFT hTe
      go_wp2_with fail
      go_loopg [9] 81 (fun gn y wr => ∃ k : Nat, k ≤ 81 ∧ gn = 81 - k ∧ y = .int .i64 k ∧ Below wx.heap.size wx wr)
      case atStart => exact ⟨0, Nat.zero_le _, rfl, rfl, Below.refl _ _⟩
      case round =>
        obtain ⟨k, hk, hgn, rfl, hbr⟩ := hrel
        have hgk : gk = 81 - k := hgn
        have hbrh := Lib.hid hbr
        clear hgn
        clear hc_X hc_Y hc_P hc_Q
        have hX9 := Lib.hid (hX8.out.below hbr)
        clear hX8
        have hY9 := Lib.hid (hY8.out.below hbr)
        clear hY8
        have hP9 := Lib.hid (hP8.out.below hbr)
        clear hP8
        have hQ9 := Lib.hid (hQ8.out.below hbr)
        clear hQ8
        have hcX9 := Lib.hid (Has.kept (by exact hcX8.out) hbr)
        clear hcX8
        have hcY9 := Lib.hid (Has.kept (by exact hcY8.out) hbr)
        clear hcY8
        have hcP9 := Lib.hid (Has.kept (by exact hcP8.out) hbr)
        clear hcP8
        have hcQ9 := Lib.hid (Has.kept (by exact hcQ8.out) hbr)
        clear hcQ8
        have hB9 := Lib.hid (hB8.out.trans (hbr.mono hB8.out.size))
        clear hB8
        have hc_X := hcX9.out.cell
        have hc_Y := hcY9.out.cell
        have hc_P := hcP9.out.cell
        have hc_Q := hcQ9.out.cell
        clear hbr
        by_cases hk81 : k < 81
        · have hk0 : (0 : Int) ≤ (k : Int) := by omega
          have hk1 : (k : Int) < 81 := by omega
          obtain ⟨x, hx⟩ : ∃ x, x = fAtTo F (k : Int) := ⟨_, rfl⟩
          obtain ⟨y, hy⟩ : ∃ y, y = fAtTo H (k : Int) := ⟨_, rfl⟩
          have hin : inB (k : Int) 0 80 = true := inB_iff.2 ⟨by omega, by omega⟩
          have hxf : x = fAt F (k : Int) := by rw [hx]; unfold fAtTo; rw [if_pos ⟨hFh.out, hin⟩]
          have hyf : y = fAt H (k : Int) := by rw [hy]; unfold fAtTo; rw [if_pos ⟨hHh.out, hin⟩]
          have hz : fAtTo T (k : Int) = x * y := by unfold fAtTo; rw [if_pos ⟨hTh2.out, hin⟩, hTeh.out, fTimes_at hFh.out hHh.out ⟨hk0, by omega⟩, ← hxf, ← hyf]
          have hzb := fAt_bd hTh2.out (by decide) (k : Int)
          have hzf : fAt T (k : Int) = x * y := by rw [hTeh.out, fTimes_at hFh.out hHh.out ⟨hk0, by omega⟩, ← hxf, ← hyf]
          rw [hzf] at hzb
          have hwm : IntKind.i64.wrap (x * y) = x * y := by rw [IntKind.wrap_i64]; omega
          have hxh := Lib.hid hx
          have hyh := Lib.hid hy
          have hzh := Lib.hid hz
          clear hx hy hxf hyf hz hzf hzb hin
          go_wp2_with fail
          clear hc_X hc_Y hc_P hc_Q
          have hW13 : True := trivial
          refine wp_region_any (by kernel_rfl) ?_
          change wpAny _ _ _ _ _ _ _ (World.drew _)
          refine wpAny_last (n := 10) (I := fun listed aq wx => listed.size = 11 ∧ ∃ v67 v68 v69 v70 v71 v72 v73 v74 v75 v76 : Value, aq = { tmps := #[.slice A n c, undef, u2, .pointer (some ⟨w1.heap.size, 0, none⟩), .pointer (some ⟨w1.heap.size + 1, 0, none⟩), .pointer (some ⟨w4.heap.size, 0, none⟩), .bool true, .pointer (some ⟨w6.heap.size, 0, none⟩), .bool true, .int .i64 ((k : Nat) : Int), undef, undef, undef, undef, undef, undef, undef, undef, undef, undef, undef, .slice A n c, .int .i64 ((n : Nat) : Int), .bool (decide (1048576 < ((n : Nat) : Int))), .tuple #[.agg #[.slice AX1 F.vs.length cX1, .slice AX2 F.ns.length cX2], .agg #[.slice AY1 H.vs.length cY1, .slice AY2 H.ns.length cY2]], .slice A n c, .tuple #[.agg #[.slice AX1 F.vs.length cX1, .slice AX2 F.ns.length cX2], .agg #[.slice AY1 H.vs.length cY1, .slice AY2 H.ns.length cY2]], .agg #[.slice AX1 F.vs.length cX1, .slice AX2 F.ns.length cX2], .agg #[.slice AY1 H.vs.length cY1, .slice AY2 H.ns.length cY2], .tuple #[.agg #[.slice AP1 T.vs.length cP1, .slice AP2 T.ns.length cP2], .bool true], .agg #[.slice AX1 F.vs.length cX1, .slice AX2 F.ns.length cX2], .agg #[.slice AY1 H.vs.length cY1, .slice AY2 H.ns.length cY2], .tuple #[.agg #[.slice AP1 T.vs.length cP1, .slice AP2 T.ns.length cP2], .bool true], .agg #[.slice AP1 T.vs.length cP1, .slice AP2 T.ns.length cP2], .bool true, .tuple #[.agg #[.slice AQ1 T.vs.length cQ1, .slice AQ2 T.ns.length cQ2], .bool true], .agg #[.slice AX1 F.vs.length cX1, .slice AX2 F.ns.length cX2], .agg #[.slice AY1 H.vs.length cY1, .slice AY2 H.ns.length cY2], .tuple #[.agg #[.slice AQ1 T.vs.length cQ1, .slice AQ2 T.ns.length cQ2], .bool true], .agg #[.slice AQ1 T.vs.length cQ1, .slice AQ2 T.ns.length cQ2], .bool true, .bool true, .bool true, .bool false, .bool false, .agg #[.slice AP1 T.vs.length cP1, .slice AP2 T.ns.length cP2], .agg #[.slice AQ1 T.vs.length cQ1, .slice AQ2 T.ns.length cQ2], .bool true, .bool false, .bool false, .bool false, .agg #[.slice AX1 F.vs.length cX1, .slice AX2 F.ns.length cX2], .bool fo, .agg #[.slice AX1 F.vs.length cX1, .slice AX2 F.ns.length cX2], .bool fo, .bool false, .bool false, .bool true, .bool false, undef, undef, undef, undef, .int .i64 ((k : Nat) : Int), .bool true, u65, u66, v67, v68, v69, v70, v71, v72, v73, v74, v75, v76, u77, undef, undef, undef, undef, undef, undef, undef, undef, undef, undef, undef, undef, undef, undef, undef, undef, undef, undef, undef, undef, undef, undef, undef, undef, undef, undef, undef, undef, undef, undef, undef, undef, undef, undef, undef, undef, undef, undef, undef, undef, undef, undef, undef, undef, undef, undef, undef, undef, undef, undef, undef, undef, undef, undef, undef, undef, undef], defers := [] } ∧ (listed.getD 0 false = true → v67 = .agg #[.slice AP1 T.vs.length cP1, .slice AP2 T.ns.length cP2]) ∧ (listed.getD 1 false = true → v68 = .int .i64 ((k : Nat) : Int)) ∧ (listed.getD 2 false = true → v69 = .int .i64 (x * y)) ∧ (listed.getD 3 false = true → v70 = .agg #[.slice AX1 F.vs.length cX1, .slice AX2 F.ns.length cX2]) ∧ (listed.getD 4 false = true → v71 = .int .i64 ((k : Nat) : Int)) ∧ (listed.getD 5 false = true → v72 = .int .i64 x) ∧ (listed.getD 6 false = true → v73 = .agg #[.slice AY1 H.vs.length cY1, .slice AY2 H.ns.length cY2]) ∧ (listed.getD 7 false = true → v74 = .int .i64 ((k : Nat) : Int)) ∧ (listed.getD 8 false = true → v75 = .int .i64 y) ∧ (listed.getD 9 false = true → v76 = .int .i64 (x * y)) ∧ Below wr.heap.size wr wx) rfl (by kernel_rfl) (by kernel_rfl) ?hs ?hl _ _ _ ?st rfl (by decide) _ (by decide)
          case st =>
            refine ⟨rfl, u67, u68, u69, u70, u71, u72, u73, u74, u75, u76, rfl, ?_, ?_, ?_, ?_, ?_, ?_, ?_, ?_, ?_, ?_, (Below.refl _ _).drew⟩ <;> (intro e; exact absurd e (by decide))
          case hs =>
            rintro listed aq wx ⟨hz, v67, v68, v69, v70, v71, v72, v73, v74, v75, v76, rfl, hII⟩ i hin hi
            obtain ⟨h0, o, ho, hd⟩ := mem_ready.1 hi
            have K0 := Lib.hid hII.1
            have K1 := Lib.hid hII.2.1
            have K2 := Lib.hid hII.2.2.1
            have K3 := Lib.hid hII.2.2.2.1
            have K4 := Lib.hid hII.2.2.2.2.1
            have K5 := Lib.hid hII.2.2.2.2.2.1
            have K6 := Lib.hid hII.2.2.2.2.2.2.1
            have K7 := Lib.hid hII.2.2.2.2.2.2.2.1
            have K8 := Lib.hid hII.2.2.2.2.2.2.2.2.1
            have K9 := Lib.hid hII.2.2.2.2.2.2.2.2.2.1
            have hB : Below wr.heap.size wr wx := hII.2.2.2.2.2.2.2.2.2.2
            have hne := Lib.hid (fun k (hk : i ≠ k) => @listed_ne listed i k hk)
            have hxP := Has.kept (by exact hcP9.out) hB
            have hxX := Has.kept (by exact hcX9.out) hB
            have hxY := Has.kept (by exact hcY9.out) hB
            have h0f : listed.getD i false = false := by rw [Array.getD_eq_getD_getElem?, getD_false h0]; rfl
            clear hII hi h0
            rcases (by omega : i = 0 ∨ i = 1 ∨ i = 2 ∨ i = 3 ∨ i = 4 ∨ i = 5 ∨ i = 6 ∨ i = 7 ∨ i = 8 ∨ i = 9) with rfl | rfl | rfl | rfl | rfl | rfl | rfl | rfl | rfl | rfl
            · cases ho
              have hxPc := hxP.cell
              refine wpOp_step rfl (fun K hK => ?_)
              go_simp
              refine hK _ _ ⟨by simpa using hz, .agg #[.slice AP1 T.vs.length cP1, .slice AP2 T.ns.length cP2], v68, v69, v70, v71, v72, v73, v74, v75, v76, rfl, ?_⟩
              exact ⟨fun _ => rfl, fun e => K1.out (hne.out 1 (by decide) e), fun e => K2.out (hne.out 2 (by decide) e), fun e => K3.out (hne.out 3 (by decide) e), fun e => K4.out (hne.out 4 (by decide) e), fun e => K5.out (hne.out 5 (by decide) e), fun e => K6.out (hne.out 6 (by decide) e), fun e => K7.out (hne.out 7 (by decide) e), fun e => K8.out (hne.out 8 (by decide) e), fun e => K9.out (hne.out 9 (by decide) e), hB⟩
            · cases ho
              refine wpOp_step rfl (fun K hK => ?_)
              go_simp
              refine hK _ _ ⟨by simpa using hz, v67, .int .i64 ((k : Nat) : Int), v69, v70, v71, v72, v73, v74, v75, v76, rfl, ?_⟩
              exact ⟨fun e => K0.out (hne.out 0 (by decide) e), fun _ => rfl, fun e => K2.out (hne.out 2 (by decide) e), fun e => K3.out (hne.out 3 (by decide) e), fun e => K4.out (hne.out 4 (by decide) e), fun e => K5.out (hne.out 5 (by decide) e), fun e => K6.out (hne.out 6 (by decide) e), fun e => K7.out (hne.out 7 (by decide) e), fun e => K8.out (hne.out 8 (by decide) e), fun e => K9.out (hne.out 9 (by decide) e), hB⟩
            · cases ho
              have d0 := hd ⟨0, .data⟩ (by simp) rfl
              have d1 := hd ⟨1, .data⟩ (by simp) rfl
              obtain rfl := K0.out d0
              obtain rfl := K1.out d1
              refine wpOp_step rfl (fun K hK => ?_)
              go_simp
              go_at_call 21
              refine (FactorAt_any AP1 AP2 T.vs.length cP1 T.ns.length cP2 T (k : Int) _ (hP9.out.below hB) (by unfold maxLen; omega) (by unfold maxLen; omega)).mono ?_
              rw [hzh.out]
              rintro e w3 ⟨rfl, hb3⟩
              refine hK _ _ ⟨by simpa using hz, .agg #[.slice AP1 T.vs.length cP1, .slice AP2 T.ns.length cP2], .int .i64 ((k : Nat) : Int), .int .i64 (x * y), v70, v71, v72, v73, v74, v75, v76, rfl, ?_⟩
              exact ⟨fun e => K0.out (hne.out 0 (by decide) e), fun e => K1.out (hne.out 1 (by decide) e), fun _ => rfl, fun e => K3.out (hne.out 3 (by decide) e), fun e => K4.out (hne.out 4 (by decide) e), fun e => K5.out (hne.out 5 (by decide) e), fun e => K6.out (hne.out 6 (by decide) e), fun e => K7.out (hne.out 7 (by decide) e), fun e => K8.out (hne.out 8 (by decide) e), fun e => K9.out (hne.out 9 (by decide) e), hB.trans (hb3.mono hB.size)⟩
            · cases ho
              have hxXc := hxX.cell
              refine wpOp_step rfl (fun K hK => ?_)
              go_simp
              refine hK _ _ ⟨by simpa using hz, v67, v68, v69, .agg #[.slice AX1 F.vs.length cX1, .slice AX2 F.ns.length cX2], v71, v72, v73, v74, v75, v76, rfl, ?_⟩
              exact ⟨fun e => K0.out (hne.out 0 (by decide) e), fun e => K1.out (hne.out 1 (by decide) e), fun e => K2.out (hne.out 2 (by decide) e), fun _ => rfl, fun e => K4.out (hne.out 4 (by decide) e), fun e => K5.out (hne.out 5 (by decide) e), fun e => K6.out (hne.out 6 (by decide) e), fun e => K7.out (hne.out 7 (by decide) e), fun e => K8.out (hne.out 8 (by decide) e), fun e => K9.out (hne.out 9 (by decide) e), hB⟩
            · cases ho
              refine wpOp_step rfl (fun K hK => ?_)
              go_simp
              refine hK _ _ ⟨by simpa using hz, v67, v68, v69, v70, .int .i64 ((k : Nat) : Int), v72, v73, v74, v75, v76, rfl, ?_⟩
              exact ⟨fun e => K0.out (hne.out 0 (by decide) e), fun e => K1.out (hne.out 1 (by decide) e), fun e => K2.out (hne.out 2 (by decide) e), fun e => K3.out (hne.out 3 (by decide) e), fun _ => rfl, fun e => K5.out (hne.out 5 (by decide) e), fun e => K6.out (hne.out 6 (by decide) e), fun e => K7.out (hne.out 7 (by decide) e), fun e => K8.out (hne.out 8 (by decide) e), fun e => K9.out (hne.out 9 (by decide) e), hB⟩
            · cases ho
              have d3 := hd ⟨3, .data⟩ (by simp) rfl
              have d4 := hd ⟨4, .data⟩ (by simp) rfl
              obtain rfl := K3.out d3
              obtain rfl := K4.out d4
              refine wpOp_step rfl (fun K hK => ?_)
              go_simp
              go_at_call 21
              refine (FactorAt_any AX1 AX2 F.vs.length cX1 F.ns.length cX2 F (k : Int) _ (hX9.out.below hB) (by unfold maxLen; omega) (by unfold maxLen; omega)).mono ?_
              rw [← hxh.out]
              rintro e w3 ⟨rfl, hb3⟩
              refine hK _ _ ⟨by simpa using hz, v67, v68, v69, .agg #[.slice AX1 F.vs.length cX1, .slice AX2 F.ns.length cX2], .int .i64 ((k : Nat) : Int), .int .i64 x, v73, v74, v75, v76, rfl, ?_⟩
              exact ⟨fun e => K0.out (hne.out 0 (by decide) e), fun e => K1.out (hne.out 1 (by decide) e), fun e => K2.out (hne.out 2 (by decide) e), fun e => K3.out (hne.out 3 (by decide) e), fun e => K4.out (hne.out 4 (by decide) e), fun _ => rfl, fun e => K6.out (hne.out 6 (by decide) e), fun e => K7.out (hne.out 7 (by decide) e), fun e => K8.out (hne.out 8 (by decide) e), fun e => K9.out (hne.out 9 (by decide) e), hB.trans (hb3.mono hB.size)⟩
            · cases ho
              have hxYc := hxY.cell
              refine wpOp_step rfl (fun K hK => ?_)
              go_simp
              refine hK _ _ ⟨by simpa using hz, v67, v68, v69, v70, v71, v72, .agg #[.slice AY1 H.vs.length cY1, .slice AY2 H.ns.length cY2], v74, v75, v76, rfl, ?_⟩
              exact ⟨fun e => K0.out (hne.out 0 (by decide) e), fun e => K1.out (hne.out 1 (by decide) e), fun e => K2.out (hne.out 2 (by decide) e), fun e => K3.out (hne.out 3 (by decide) e), fun e => K4.out (hne.out 4 (by decide) e), fun e => K5.out (hne.out 5 (by decide) e), fun _ => rfl, fun e => K7.out (hne.out 7 (by decide) e), fun e => K8.out (hne.out 8 (by decide) e), fun e => K9.out (hne.out 9 (by decide) e), hB⟩
            · cases ho
              refine wpOp_step rfl (fun K hK => ?_)
              go_simp
              refine hK _ _ ⟨by simpa using hz, v67, v68, v69, v70, v71, v72, v73, .int .i64 ((k : Nat) : Int), v75, v76, rfl, ?_⟩
              exact ⟨fun e => K0.out (hne.out 0 (by decide) e), fun e => K1.out (hne.out 1 (by decide) e), fun e => K2.out (hne.out 2 (by decide) e), fun e => K3.out (hne.out 3 (by decide) e), fun e => K4.out (hne.out 4 (by decide) e), fun e => K5.out (hne.out 5 (by decide) e), fun e => K6.out (hne.out 6 (by decide) e), fun _ => rfl, fun e => K8.out (hne.out 8 (by decide) e), fun e => K9.out (hne.out 9 (by decide) e), hB⟩
            · cases ho
              have d6 := hd ⟨6, .data⟩ (by simp) rfl
              have d7 := hd ⟨7, .data⟩ (by simp) rfl
              obtain rfl := K6.out d6
              obtain rfl := K7.out d7
              refine wpOp_step rfl (fun K hK => ?_)
              go_simp
              go_at_call 21
              refine (FactorAt_any AY1 AY2 H.vs.length cY1 H.ns.length cY2 H (k : Int) _ (hY9.out.below hB) (by unfold maxLen; omega) (by unfold maxLen; omega)).mono ?_
              rw [← hyh.out]
              rintro e w3 ⟨rfl, hb3⟩
              refine hK _ _ ⟨by simpa using hz, v67, v68, v69, v70, v71, v72, .agg #[.slice AY1 H.vs.length cY1, .slice AY2 H.ns.length cY2], .int .i64 ((k : Nat) : Int), .int .i64 y, v76, rfl, ?_⟩
              exact ⟨fun e => K0.out (hne.out 0 (by decide) e), fun e => K1.out (hne.out 1 (by decide) e), fun e => K2.out (hne.out 2 (by decide) e), fun e => K3.out (hne.out 3 (by decide) e), fun e => K4.out (hne.out 4 (by decide) e), fun e => K5.out (hne.out 5 (by decide) e), fun e => K6.out (hne.out 6 (by decide) e), fun e => K7.out (hne.out 7 (by decide) e), fun _ => rfl, fun e => K9.out (hne.out 9 (by decide) e), hB.trans (hb3.mono hB.size)⟩
            · cases ho
              have d5 := hd ⟨5, .data⟩ (by simp) rfl
              have d8 := hd ⟨8, .data⟩ (by simp) rfl
              obtain rfl := K5.out d5
              obtain rfl := K8.out d8
              refine wpOp_step rfl (fun K hK => ?_)
              go_simp
              refine hK _ _ ⟨by simpa using hz, v67, v68, v69, v70, v71, .int .i64 x, v73, v74, .int .i64 y, .int .i64 (x * y), rfl, ?_⟩
              exact ⟨fun e => K0.out (hne.out 0 (by decide) e), fun e => K1.out (hne.out 1 (by decide) e), fun e => K2.out (hne.out 2 (by decide) e), fun e => K3.out (hne.out 3 (by decide) e), fun e => K4.out (hne.out 4 (by decide) e), fun e => K5.out (hne.out 5 (by decide) e), fun e => K6.out (hne.out 6 (by decide) e), fun e => K7.out (hne.out 7 (by decide) e), fun e => K8.out (hne.out 8 (by decide) e), fun _ => rfl, hB⟩
          case hl =>
            rintro listed aq wx ⟨hz, v67, v68, v69, v70, v71, v72, v73, v74, v75, v76, rfl, hII⟩ hall
            have K0 := Lib.hid hII.1
            have K1 := Lib.hid hII.2.1
            have K2 := Lib.hid hII.2.2.1
            have K3 := Lib.hid hII.2.2.2.1
            have K4 := Lib.hid hII.2.2.2.2.1
            have K5 := Lib.hid hII.2.2.2.2.2.1
            have K6 := Lib.hid hII.2.2.2.2.2.2.1
            have K7 := Lib.hid hII.2.2.2.2.2.2.2.1
            have K8 := Lib.hid hII.2.2.2.2.2.2.2.2.1
            have K9 := Lib.hid hII.2.2.2.2.2.2.2.2.2.1
            have hB : Below wr.heap.size wr wx := hII.2.2.2.2.2.2.2.2.2.2
            have hxP := Has.kept (by exact hcP9.out) hB
            have hxX := Has.kept (by exact hcX9.out) hB
            have hxY := Has.kept (by exact hcY9.out) hB
            clear hII
            obtain rfl := K0.out (hall 0 (by decide))
            obtain rfl := K1.out (hall 1 (by decide))
            obtain rfl := K2.out (hall 2 (by decide))
            obtain rfl := K3.out (hall 3 (by decide))
            obtain rfl := K4.out (hall 4 (by decide))
            obtain rfl := K5.out (hall 5 (by decide))
            obtain rfl := K6.out (hall 6 (by decide))
            obtain rfl := K7.out (hall 7 (by decide))
            obtain rfl := K8.out (hall 8 (by decide))
            obtain rfl := K9.out (hall 9 (by decide))
            clear hall K0 K1 K2 K3 K4 K5 K6 K7 K8 K9
            refine wpOp_step rfl (fun K0 hK0 => ?_)
            go_simp
            refine hK0 _ _ ?_
            clear hK0
            have hbx : Below wr.heap.size wr wx := hB
            clear hB hxP hxX hxY
            have hbx9 := Lib.hid hbx
            have hX10 := Lib.hid (hX9.out.below hbx)
            clear hX9
            have hY10 := Lib.hid (hY9.out.below hbx)
            clear hY9
            have hP10 := Lib.hid (hP9.out.below hbx)
            clear hP9
            have hQ10 := Lib.hid (hQ9.out.below hbx)
            clear hQ9
            have hcX10 := Lib.hid (Has.kept (by exact hcX9.out) hbx)
            clear hcX9
            have hcY10 := Lib.hid (Has.kept (by exact hcY9.out) hbx)
            clear hcY9
            have hcP10 := Lib.hid (Has.kept (by exact hcP9.out) hbx)
            clear hcP9
            have hcQ10 := Lib.hid (Has.kept (by exact hcQ9.out) hbx)
            clear hcQ9
            have hB10 := Lib.hid (hB9.out.trans (hbx.mono hB9.out.size))
            clear hB9
            have hc_X := hcX10.out.cell
            have hc_Y := hcY10.out.cell
            have hc_P := hcP10.out.cell
            have hc_Q := hcQ10.out.cell
            clear hbx
            have hB9 := Lib.hid (hbrh.out.trans (hbx9.out.mono hbrh.out.size))
            go_wp2_with fail
            go_roundg (81 - (k + 1))
            case measure => omega
            case rel => exact ⟨k + 1, by omega, rfl, by go_num, hB9.out⟩
        · have hk82 : ¬ ((k : Int) < 81) := by omega
          obtain ⟨w80, rfl⟩ : ∃ x : World, x = wr := ⟨_, rfl⟩
          obtain ⟨g80, rfl⟩ : ∃ x : Nat, x = gk := ⟨_, rfl⟩
          obtain ⟨k80, rfl⟩ : ∃ x : Nat, x = k := ⟨_, rfl⟩
          clear hgk hbrh
          go_wp2_with fail
          have hY5 := Lib.hid (fac_parts hHh.out).2.2.2.2
          go_loopg [81] H.vs.length (fun gn y wr => ∃ k : Nat, k ≤ H.vs.length ∧ gn = H.vs.length - k ∧ y = .int .i64 k ∧ Below w80.heap.size w80 wr)
          case atStart => exact ⟨0, Nat.zero_le _, rfl, rfl, Below.refl _ _⟩
          case round =>
            obtain ⟨k, hk, hgn, rfl, hbr⟩ := hrel
            have hgk := Lib.hid (show gk = H.vs.length - k from hgn)
            have hTk0 := Lib.hid hbr
            clear hgn
            clear hc_X hc_Y hc_P hc_Q
            have hX10 := Lib.hid (hX9.out.below hbr)
            clear hX9
            have hY10 := Lib.hid (hY9.out.below hbr)
            clear hY9
            have hP10 := Lib.hid (hP9.out.below hbr)
            clear hP9
            have hQ10 := Lib.hid (hQ9.out.below hbr)
            clear hQ9
            have hcX10 := Lib.hid (Has.kept (by exact hcX9.out) hbr)
            clear hcX9
            have hcY10 := Lib.hid (Has.kept (by exact hcY9.out) hbr)
            clear hcY9
            have hcP10 := Lib.hid (Has.kept (by exact hcP9.out) hbr)
            clear hcP9
            have hcQ10 := Lib.hid (Has.kept (by exact hcQ9.out) hbr)
            clear hcQ9
            have hB10 := Lib.hid (hB9.out.trans (hbr.mono hB9.out.size))
            clear hB9
            have hc_X := hcX10.out.cell
            have hc_Y := hcY10.out.cell
            have hc_P := hcP10.out.cell
            have hc_Q := hcQ10.out.cell
            clear hbr
            by_cases hkn : k < H.vs.length
            · obtain ⟨gY, oY, v, rfl, hgY, hv, cv⟩ := hY10.out.1.at_ hkn
              have hvb := hY5.out v (List.mem_of_getElem? hv)
              have hk0 : (0 : Int) ≤ (k : Int) := by omega
              have hk1 : (k : Int) < (H.vs.length : Int) := by omega
              clear hv
              obtain ⟨w82, rfl⟩ : ∃ x : World, x = wr := ⟨_, rfl⟩
              obtain ⟨g82, rfl⟩ : ∃ x : Nat, x = gk := ⟨_, rfl⟩
              go_wp2_with fail
              go_loopg [12, 88] F.vs.length (fun gn h y wz => ∃ (j : Nat) (b : Bool), j ≤ F.vs.length ∧ gn = F.vs.length - j ∧ y = .int .i64 j ∧ h = .bool b ∧ (b = true ↔ v ∈ F.vs.take j) ∧ Below w82.heap.size w82 wz)
              case atStart => exact ⟨0, false, Nat.zero_le _, rfl, rfl, rfl, by simp, Below.refl _ _⟩
              case round =>
                obtain ⟨j, b, hj, hgn, rfl, rfl, hbv, hbr⟩ := hrel
                have hgj := Lib.hid (show gk = F.vs.length - j from hgn)
                have hbrj := Lib.hid hbr
                have hbvh := Lib.hid hbv
                clear hgn hbv
                clear hc_X hc_Y hc_P hc_Q
                have hX11 := Lib.hid (hX10.out.below hbr)
                clear hX10
                have hY11 := Lib.hid (hY10.out.below hbr)
                clear hY10
                have hP11 := Lib.hid (hP10.out.below hbr)
                clear hP10
                have hQ11 := Lib.hid (hQ10.out.below hbr)
                clear hQ10
                have hcX11 := Lib.hid (Has.kept (by exact hcX10.out) hbr)
                clear hcX10
                have hcY11 := Lib.hid (Has.kept (by exact hcY10.out) hbr)
                clear hcY10
                have hcP11 := Lib.hid (Has.kept (by exact hcP10.out) hbr)
                clear hcP10
                have hcQ11 := Lib.hid (Has.kept (by exact hcQ10.out) hbr)
                clear hcQ10
                have hTk11 := Lib.hid (hTk0.out.trans (hbr.mono hTk0.out.size))
                clear hTk0
                have hB11 := Lib.hid (hB10.out.trans (hbr.mono hB10.out.size))
                clear hB10
                have hc_X := hcX11.out.cell
                have hc_Y := hcY11.out.cell
                have hc_P := hcP11.out.cell
                have hc_Q := hcQ11.out.cell
                clear hbr
                by_cases hjn : j < F.vs.length
                · obtain ⟨gX, oX, x, rfl, hgX, hx, cx⟩ := hX11.out.1.at_ hjn
                  have hj0 : (0 : Int) ≤ (j : Int) := by omega
                  have hj1 : (j : Int) < (F.vs.length : Int) := by omega
                  have hxh := Lib.hid hx
                  clear hx
                  cases b
                  · go_wp2_with fail
                    go_roundg (F.vs.length - (j + 1))
                    case measure => have := hgj.out; omega
                    case rel => exact ⟨j + 1, (x == v), by omega, rfl, by go_num, rfl, by rw [mem_take1 hxh.out, ← hbvh.out]; simp, hbrj.out⟩
                  · go_wp2_with fail
                    go_roundg (F.vs.length - (j + 1))
                    case measure => have := hgj.out; omega
                    case rel => exact ⟨j + 1, true, by omega, rfl, by go_num, rfl, by rw [mem_take1 hxh.out, ← hbvh.out]; simp, hbrj.out⟩
                · have hjn2 : ¬ ((j : Int) < (F.vs.length : Int)) := by omega
                  have hbw : b = true ↔ v ∈ F.vs := by have := hbvh.out; rwa [List.take_of_length_le (by omega)] at this
                  have hbwh := Lib.hid hbw
                  obtain ⟨S1, hS1⟩ : ∃ s, s = outTo T v := ⟨_, rfl⟩
                  obtain ⟨o1, ho1⟩ : ∃ s, s = okOut T v := ⟨_, rfl⟩
                  obtain ⟨S2, hS2⟩ : ∃ s, s = outTo H v := ⟨_, rfl⟩
                  obtain ⟨o2, ho2⟩ : ∃ s, s = okOut H v := ⟨_, rfl⟩
                  obtain ⟨S3, hS3⟩ : ∃ s, s = timesTo F S2 := ⟨_, rfl⟩
                  obtain ⟨o3, ho3⟩ : ∃ s, s = okTimes F S2 := ⟨_, rfl⟩
                  have hSa := outTo_len T v
                  have hSb := outTo_len H v
                  have hSc := timesTo_len F S2
                  rw [← hS1] at hSa
                  rw [← hS2] at hSb
                  rw [← hS3] at hSc
                  obtain ⟨hSa1, hSa2⟩ := hSa
                  obtain ⟨hSb1, hSb2⟩ := hSb
                  obtain ⟨hSc1, hSc2⟩ := hSc
                  have hS1h := Lib.hid hS1
                  have ho1h := Lib.hid ho1
                  have hS2h := Lib.hid hS2
                  have ho2h := Lib.hid ho2
                  have hS3h := Lib.hid hS3
                  have ho3h := Lib.hid ho3
                  clear hbw hS1 ho1 hS2 ho2 hS3 ho3 hbvh
                  go_wp2_with fail
                  refine (SumOut_any AP1 AP2 T.vs.length cP1 T.ns.length cP2 T v _ hP11.out (by unfold maxLen; omega) (by unfold maxLen; omega)).mono ?_
                  rw [← hS1h.out, ← ho1h.out]
                  rintro e w12 ⟨r1, r2, rfl, hR, hb⟩
                  clear hc_X hc_Y hc_P hc_Q
                  have hX12 := Lib.hid (hX11.out.below hb)
                  clear hX11
                  have hY12 := Lib.hid (hY11.out.below hb)
                  clear hY11
                  have hP12 := Lib.hid (hP11.out.below hb)
                  clear hP11
                  have hQ12 := Lib.hid (hQ11.out.below hb)
                  clear hQ11
                  have hcX12 := Lib.hid (Has.kept (by exact hcX11.out) hb)
                  clear hcX11
                  have hcY12 := Lib.hid (Has.kept (by exact hcY11.out) hb)
                  clear hcY11
                  have hcP12 := Lib.hid (Has.kept (by exact hcP11.out) hb)
                  clear hcP11
                  have hcQ12 := Lib.hid (Has.kept (by exact hcQ11.out) hb)
                  clear hcQ11
                  have hTk12 := Lib.hid (hTk11.out.trans (hb.mono hTk11.out.size))
                  clear hTk11
                  have hB12 := Lib.hid (hB11.out.trans (hb.mono hB11.out.size))
                  clear hB11
                  have hc_X := hcX12.out.cell
                  have hc_Y := hcY12.out.cell
                  have hc_P := hcP12.out.cell
                  have hc_Q := hcQ12.out.cell
                  clear hb
                  obtain ⟨AR1, cR1, hv, _, _⟩ := hR.1.form
                  subst hv
                  obtain ⟨AR2, cR2, hv, _, _⟩ := hR.2.1.form
                  subst hv
                  have hR12 := Lib.hid hR.fac
                  clear hR
                  have hbn : Below w12.heap.size w12 (w12.alloc (.cells #[.slice AR1 S1.vs.length cR1, .slice AR2 S1.ns.length cR2] 27)) := (Below.refl _ _).alloc (Nat.le_refl _) _
                  have hcnR := Lib.hid (Has.new w12 27 #[.slice AR1 S1.vs.length cR1, .slice AR2 S1.ns.length cR2])
                  clear hc_X hc_Y hc_P hc_Q
                  have hX13 := Lib.hid (hX12.out.below hbn)
                  clear hX12
                  have hY13 := Lib.hid (hY12.out.below hbn)
                  clear hY12
                  have hP13 := Lib.hid (hP12.out.below hbn)
                  clear hP12
                  have hQ13 := Lib.hid (hQ12.out.below hbn)
                  clear hQ12
                  have hR13 := Lib.hid (hR12.out.below hbn)
                  clear hR12
                  have hcX13 := Lib.hid (Has.kept (by exact hcX12.out) hbn)
                  clear hcX12
                  have hcY13 := Lib.hid (Has.kept (by exact hcY12.out) hbn)
                  clear hcY12
                  have hcP13 := Lib.hid (Has.kept (by exact hcP12.out) hbn)
                  clear hcP12
                  have hcQ13 := Lib.hid (Has.kept (by exact hcQ12.out) hbn)
                  clear hcQ12
                  have hTk13 := Lib.hid (hTk12.out.trans (hbn.mono hTk12.out.size))
                  clear hTk12
                  have hB13 := Lib.hid (hB12.out.trans (hbn.mono hB12.out.size))
                  clear hB12
                  have hc_X := hcX13.out.cell
                  have hc_Y := hcY13.out.cell
                  have hc_P := hcP13.out.cell
                  have hc_Q := hcQ13.out.cell
                  clear hbn
                  clear hc_X hc_Y hc_P hc_Q
                  have hc_X := hcX13.out.cell
                  have hc_Y := hcY13.out.cell
                  have hc_P := hcP13.out.cell
                  have hc_Q := hcQ13.out.cell
                  have hc_R := hcnR.out.cell
                  go_wp2_with fail
                  refine (SumOut_any (some ⟨gY, oY, none⟩) AY2 H.vs.length cY1 H.ns.length cY2 H v _ hY13.out (by unfold maxLen; omega) (by unfold maxLen; omega)).mono ?_
                  rw [← hS2h.out, ← ho2h.out]
                  rintro e w14 ⟨s1, s2, rfl, hS, hb⟩
                  clear hc_X hc_Y hc_P hc_Q hc_R
                  have hX14 := Lib.hid (hX13.out.below hb)
                  clear hX13
                  have hY14 := Lib.hid (hY13.out.below hb)
                  clear hY13
                  have hP14 := Lib.hid (hP13.out.below hb)
                  clear hP13
                  have hQ14 := Lib.hid (hQ13.out.below hb)
                  clear hQ13
                  have hR14 := Lib.hid (hR13.out.below hb)
                  clear hR13
                  have hcX14 := Lib.hid (Has.kept (by exact hcX13.out) hb)
                  clear hcX13
                  have hcY14 := Lib.hid (Has.kept (by exact hcY13.out) hb)
                  clear hcY13
                  have hcP14 := Lib.hid (Has.kept (by exact hcP13.out) hb)
                  clear hcP13
                  have hcQ14 := Lib.hid (Has.kept (by exact hcQ13.out) hb)
                  clear hcQ13
                  have hcR14 := Lib.hid (Has.kept (by exact hcnR.out) hb)
                  clear hcnR
                  have hTk14 := Lib.hid (hTk13.out.trans (hb.mono hTk13.out.size))
                  clear hTk13
                  have hB14 := Lib.hid (hB13.out.trans (hb.mono hB13.out.size))
                  clear hB13
                  have hc_X := hcX14.out.cell
                  have hc_Y := hcY14.out.cell
                  have hc_P := hcP14.out.cell
                  have hc_Q := hcQ14.out.cell
                  have hc_R := hcR14.out.cell
                  clear hb
                  obtain ⟨AS1, cS1, hv, _, _⟩ := hS.1.form
                  subst hv
                  obtain ⟨AS2, cS2, hv, _, _⟩ := hS.2.1.form
                  subst hv
                  have hS14 := Lib.hid hS.fac
                  clear hS
                  have hbn : Below w14.heap.size w14 (w14.alloc (.cells #[.slice AS1 S2.vs.length cS1, .slice AS2 S2.ns.length cS2] 27)) := (Below.refl _ _).alloc (Nat.le_refl _) _
                  have hcnS := Lib.hid (Has.new w14 27 #[.slice AS1 S2.vs.length cS1, .slice AS2 S2.ns.length cS2])
                  clear hc_X hc_Y hc_P hc_Q hc_R
                  have hX15 := Lib.hid (hX14.out.below hbn)
                  clear hX14
                  have hY15 := Lib.hid (hY14.out.below hbn)
                  clear hY14
                  have hP15 := Lib.hid (hP14.out.below hbn)
                  clear hP14
                  have hQ15 := Lib.hid (hQ14.out.below hbn)
                  clear hQ14
                  have hR15 := Lib.hid (hR14.out.below hbn)
                  clear hR14
                  have hS15 := Lib.hid (hS14.out.below hbn)
                  clear hS14
                  have hcX15 := Lib.hid (Has.kept (by exact hcX14.out) hbn)
                  clear hcX14
                  have hcY15 := Lib.hid (Has.kept (by exact hcY14.out) hbn)
                  clear hcY14
                  have hcP15 := Lib.hid (Has.kept (by exact hcP14.out) hbn)
                  clear hcP14
                  have hcQ15 := Lib.hid (Has.kept (by exact hcQ14.out) hbn)
                  clear hcQ14
                  have hcR15 := Lib.hid (Has.kept (by exact hcR14.out) hbn)
                  clear hcR14
                  have hTk15 := Lib.hid (hTk14.out.trans (hbn.mono hTk14.out.size))
                  clear hTk14
                  have hB15 := Lib.hid (hB14.out.trans (hbn.mono hB14.out.size))
                  clear hB14
                  have hc_X := hcX15.out.cell
                  have hc_Y := hcY15.out.cell
                  have hc_P := hcP15.out.cell
                  have hc_Q := hcQ15.out.cell
                  have hc_R := hcR15.out.cell
                  clear hbn
                  clear hc_X hc_Y hc_P hc_Q hc_R
                  have hc_X := hcX15.out.cell
                  have hc_Y := hcY15.out.cell
                  have hc_P := hcP15.out.cell
                  have hc_Q := hcQ15.out.cell
                  have hc_R := hcR15.out.cell
                  have hc_S := hcnS.out.cell
                  go_wp2_with fail
                  refine (FactorTimes_any AX1 AX2 AS1 AS2 F.vs.length cX1 F.ns.length cX2 S2.vs.length cS1 S2.ns.length cS2 F S2 _ hX15.out hS15.out (by unfold maxLen; omega) (by unfold maxLen; omega) (by unfold maxLen; omega) (by unfold maxLen; omega)).mono ?_
                  rw [← hS3h.out, ← ho3h.out]
                  rintro e w16 ⟨t1, t2, rfl, hU, hb⟩
                  clear hc_X hc_Y hc_P hc_Q hc_R hc_S
                  have hX16 := Lib.hid (hX15.out.below hb)
                  clear hX15
                  have hY16 := Lib.hid (hY15.out.below hb)
                  clear hY15
                  have hP16 := Lib.hid (hP15.out.below hb)
                  clear hP15
                  have hQ16 := Lib.hid (hQ15.out.below hb)
                  clear hQ15
                  have hR16 := Lib.hid (hR15.out.below hb)
                  clear hR15
                  have hS16 := Lib.hid (hS15.out.below hb)
                  clear hS15
                  have hcX16 := Lib.hid (Has.kept (by exact hcX15.out) hb)
                  clear hcX15
                  have hcY16 := Lib.hid (Has.kept (by exact hcY15.out) hb)
                  clear hcY15
                  have hcP16 := Lib.hid (Has.kept (by exact hcP15.out) hb)
                  clear hcP15
                  have hcQ16 := Lib.hid (Has.kept (by exact hcQ15.out) hb)
                  clear hcQ15
                  have hcR16 := Lib.hid (Has.kept (by exact hcR15.out) hb)
                  clear hcR15
                  have hcS16 := Lib.hid (Has.kept (by exact hcnS.out) hb)
                  clear hcnS
                  have hTk16 := Lib.hid (hTk15.out.trans (hb.mono hTk15.out.size))
                  clear hTk15
                  have hB16 := Lib.hid (hB15.out.trans (hb.mono hB15.out.size))
                  clear hB15
                  have hc_X := hcX16.out.cell
                  have hc_Y := hcY16.out.cell
                  have hc_P := hcP16.out.cell
                  have hc_Q := hcQ16.out.cell
                  have hc_R := hcR16.out.cell
                  have hc_S := hcS16.out.cell
                  clear hb
                  obtain ⟨AU1, cU1, hv, _, _⟩ := hU.1.form
                  subst hv
                  obtain ⟨AU2, cU2, hv, _, _⟩ := hU.2.1.form
                  subst hv
                  have hU16 := Lib.hid hU.fac
                  clear hU
                  have hbn : Below w16.heap.size w16 (w16.alloc (.cells #[.slice AU1 S3.vs.length cU1, .slice AU2 S3.ns.length cU2] 27)) := (Below.refl _ _).alloc (Nat.le_refl _) _
                  have hcnU := Lib.hid (Has.new w16 27 #[.slice AU1 S3.vs.length cU1, .slice AU2 S3.ns.length cU2])
                  clear hc_X hc_Y hc_P hc_Q hc_R hc_S
                  have hX17 := Lib.hid (hX16.out.below hbn)
                  clear hX16
                  have hY17 := Lib.hid (hY16.out.below hbn)
                  clear hY16
                  have hP17 := Lib.hid (hP16.out.below hbn)
                  clear hP16
                  have hQ17 := Lib.hid (hQ16.out.below hbn)
                  clear hQ16
                  have hR17 := Lib.hid (hR16.out.below hbn)
                  clear hR16
                  have hS17 := Lib.hid (hS16.out.below hbn)
                  clear hS16
                  have hU17 := Lib.hid (hU16.out.below hbn)
                  clear hU16
                  have hcX17 := Lib.hid (Has.kept (by exact hcX16.out) hbn)
                  clear hcX16
                  have hcY17 := Lib.hid (Has.kept (by exact hcY16.out) hbn)
                  clear hcY16
                  have hcP17 := Lib.hid (Has.kept (by exact hcP16.out) hbn)
                  clear hcP16
                  have hcQ17 := Lib.hid (Has.kept (by exact hcQ16.out) hbn)
                  clear hcQ16
                  have hcR17 := Lib.hid (Has.kept (by exact hcR16.out) hbn)
                  clear hcR16
                  have hcS17 := Lib.hid (Has.kept (by exact hcS16.out) hbn)
                  clear hcS16
                  have hTk17 := Lib.hid (hTk16.out.trans (hbn.mono hTk16.out.size))
                  clear hTk16
                  have hB17 := Lib.hid (hB16.out.trans (hbn.mono hB16.out.size))
                  clear hB16
                  have hc_X := hcX17.out.cell
                  have hc_Y := hcY17.out.cell
                  have hc_P := hcP17.out.cell
                  have hc_Q := hcQ17.out.cell
                  have hc_R := hcR17.out.cell
                  have hc_S := hcS17.out.cell
                  clear hbn
                  clear hc_X hc_Y hc_P hc_Q hc_R hc_S
                  have hc_X := hcX17.out.cell
                  have hc_Y := hcY17.out.cell
                  have hc_P := hcP17.out.cell
                  have hc_Q := hcQ17.out.cell
                  have hc_R := hcR17.out.cell
                  have hc_S := hcS17.out.cell
                  have hc_U := hcnU.out.cell
                  by_cases hall : o1 = true ∧ o2 = true ∧ o3 = true ∧ b = false
                  · obtain ⟨rfl, rfl, rfl, rfl⟩ := hall
                    obtain rfl : S3 = S1 := by
                      have hno : v ∉ F.vs := fun h => absurd (hbwh.out.2 h) (by decide)
                      have e1 : S1 = fOut T v (-1) := by rw [hS1h.out]; unfold outTo; rw [if_pos ho1h.out.symm]
                      have e2 : S2 = fOut H v (-1) := by rw [hS2h.out]; unfold outTo; rw [if_pos ho2h.out.symm]
                      have e3 : S3 = fTimes F S2 := by rw [hS3h.out]; unfold timesTo; rw [if_pos ho3h.out.symm]
                      rw [e3, e2, e1, hTeh.out, fOut_times hFh.out hHh.out hvb hno]
                    go_wp2_with fail
                    refine (wcFactor_any AR1 AR2 AU1 AU2 S3.vs.length cR1 S3.ns.length cR2 S3.vs.length cU1 S3.ns.length cU2 S3 _ hR17.out hU17.out (by unfold maxLen; omega) (by unfold maxLen; omega) (by unfold maxLen; omega) (by unfold maxLen; omega)).mono ?_
                    rintro e w18 ⟨rfl, hb⟩
                    clear hc_X hc_Y hc_P hc_Q hc_R hc_S hc_U
                    have hX18 := Lib.hid (hX17.out.below hb)
                    clear hX17
                    have hY18 := Lib.hid (hY17.out.below hb)
                    clear hY17
                    have hP18 := Lib.hid (hP17.out.below hb)
                    clear hP17
                    have hQ18 := Lib.hid (hQ17.out.below hb)
                    clear hQ17
                    have hR18 := Lib.hid (hR17.out.below hb)
                    clear hR17
                    have hS18 := Lib.hid (hS17.out.below hb)
                    clear hS17
                    have hU18 := Lib.hid (hU17.out.below hb)
                    clear hU17
                    have hcX18 := Lib.hid (Has.kept (by exact hcX17.out) hb)
                    clear hcX17
                    have hcY18 := Lib.hid (Has.kept (by exact hcY17.out) hb)
                    clear hcY17
                    have hcP18 := Lib.hid (Has.kept (by exact hcP17.out) hb)
                    clear hcP17
                    have hcQ18 := Lib.hid (Has.kept (by exact hcQ17.out) hb)
                    clear hcQ17
                    have hcR18 := Lib.hid (Has.kept (by exact hcR17.out) hb)
                    clear hcR17
                    have hcS18 := Lib.hid (Has.kept (by exact hcS17.out) hb)
                    clear hcS17
                    have hcU18 := Lib.hid (Has.kept (by exact hcnU.out) hb)
                    clear hcnU
                    have hTk18 := Lib.hid (hTk17.out.trans (hb.mono hTk17.out.size))
                    clear hTk17
                    have hB18 := Lib.hid (hB17.out.trans (hb.mono hB17.out.size))
                    clear hB17
                    have hc_X := hcX18.out.cell
                    have hc_Y := hcY18.out.cell
                    have hc_P := hcP18.out.cell
                    have hc_Q := hcQ18.out.cell
                    have hc_R := hcR18.out.cell
                    have hc_S := hcS18.out.cell
                    have hc_U := hcU18.out.cell
                    clear hb
                    go_wp2_with fail
                    go_roundg (H.vs.length - (k + 1))
                    case measure => have := hgk.out; omega
                    case rel => exact ⟨k + 1, by omega, rfl, by go_num, hTk18.out⟩
                  · cases o1
                    · have hBy := hTk17
                      go_wp2_with fail
                      go_roundg (H.vs.length - (k + 1))
                      case measure => have := hgk.out; omega
                      case rel => exact ⟨k + 1, by omega, rfl, by go_num, hTk17.out⟩
                    · cases o2
                      · have hBy := hTk17
                        go_wp2_with fail
                        go_roundg (H.vs.length - (k + 1))
                        case measure => have := hgk.out; omega
                        case rel => exact ⟨k + 1, by omega, rfl, by go_num, hTk17.out⟩
                      · cases o3
                        · have hBy := hTk17
                          go_wp2_with fail
                          go_roundg (H.vs.length - (k + 1))
                          case measure => have := hgk.out; omega
                          case rel => exact ⟨k + 1, by omega, rfl, by go_num, hTk17.out⟩
                        · cases b
                          · exact absurd ⟨rfl, rfl, rfl, rfl⟩ hall
                          · have hBy := hTk17
                            go_wp2_with fail
                            go_roundg (H.vs.length - (k + 1))
                            case measure => have := hgk.out; omega
                            case rel => exact ⟨k + 1, by omega, rfl, by go_num, hTk17.out⟩
            · have hkn2 : ¬ ((k : Int) < (H.vs.length : Int)) := by omega
              go_wp2_with fail
              go_ret
              exact ⟨rfl, hB10.out⟩

set_option maxRecDepth 100000 in
theorem lifted (os : Os) (started : os.Started) (H : Type) (enc : TypeId × Value → H) :
    ReturnsInHanded {} Try.checked os 11 .any (Rows.fnFactorTimesSpec.pre6 enc Try.prog Try.f11 Rows.fnFactorTimesRow.domain false) (Rows.fnFactorTimesSpec.post enc Try.prog Try.f11 false true false false) := by
  refine returnsInHanded_of_change (C := Try.checked) own started (by kernel_rfl) Try.func11
    (ChangeSpec.witness6 (enc := enc) (C := Try.checked) false ⟨#[], #[.slice none 0 0], []⟩ 8 (by kernel_rfl) (by kernel_rfl) (by kernel_rfl) (by kernel_rfl)) ?_
  intro W base args ds gs before hval0 hW hcnd _
  have hval : ∀ (j : Nat) t v, Try.f11.params[j]? = some t → args[j]? = some v → Value.okWide Try.prog W .any base t v := hval0
  have hW' := hW
  obtain ⟨p, q, hA0, hV, rfl, hfz, hnd⟩ := hW
  have hA : DataW.TrodAll enc Try.prog W 0 (fun _ => true) true Try.f11.params.toList args.toList ds p := hA0
  rw [Try.params11] at hA hval
  obtain ⟨v0, vs0, d0, ds0, p0, q0, hargs, rfl, rfl, h0, r0⟩ := trodAll_cons hA
  obtain ⟨rfl, rfl, rfl⟩ := trodAll_nil r0
  obtain rfl : args = #[v0] := by cases args; simp_all
  obtain ⟨rfl, rfl⟩ := trodVars_none hV
  have lt0 : ∀ x ∈ p0, x.block < W.heap.size := by
    obtain ⟨m, hm⟩ := h0
    exact DataW.trod_lt m _ _ _ hm
  clear hA0 hval0
  refine (walk enc W base v0 d0 p0 (hval 0 60 v0 rfl rfl) h0 lt0).mono fun e W' ⟨he, bel⟩ => ?_
  subst he
  exact ⟨_, rfl, _, _, _, [], _, [], hW', trodAll_mk1 (shut_bool Try.underlying4 _), (trodAll_cons_mk (Below.trod laidOut (by kernel_rfl) (of_decide_eq_true (by kernel_rfl)) h0 bel lt0) trodAll_mk0), rfl, bel.frame _, fun h => by cases h⟩

theorem proved : Rows.FnFactorTimesSaid :=
  OpenClaim.holds_of_wide 11 Try.f11 rfl rfl rfl rfl rfl rfl rfl ⟨rfl, rfl, rfl, rfl, rfl⟩ rfl rfl rfl rfl rfl (by kernel_rfl) Try.func11 (by kernel_rfl)
    (of_decide_eq_true (by kernel_rfl)) (by unfold Func.isWrapper; first | (rw [if_pos (by decide +kernel)]; kernel_rfl) | (rw [if_neg (by decide +kernel)]; exact ⟨rfl, rfl⟩))
    (fun os started H enc _ => lifted os started H enc)
end Go.Proofs.Ytdegfbdoeklhnaa.fnFactorTimes
