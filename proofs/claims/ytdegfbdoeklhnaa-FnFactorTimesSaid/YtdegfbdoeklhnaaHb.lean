/- Factors: one held against itself: wcFactor. -/
import Derived.Test.YtdegfbdoeklhnaaNm
import Derived.Test.YtdegfbdoeklhnaaFB
import Derived.Test.YtdegfbdoeklhnaaFk
namespace Go.Proofs.Ytdegfbdoeklhnaa
set_option maxRecDepth 100000
set_option linter.unusedVariables false
open Go.RowKit

set_option maxHeartbeats 2000000 in
theorem wcFactor_any (A1 A2 B1 B2 : Option Addr) (n1 c1 n2 c2 m1 k1 m2 k2 : Nat) (F : Fac) (w : World) (h : FacW w w.heap.size A1 n1 A2 n2 F) (g : FacW w w.heap.size B1 m1 B2 m2 F) (hn1 : n1 ≤ maxLen) (hn2 : n2 ≤ maxLen) (hm1 : m1 ≤ maxLen) (hm2 : m2 ≤ maxLen) :
    Calls Try.prog 49 #[.agg #[.slice A1 n1 c1, .slice A2 n2 c2], .agg #[.slice B1 m1 k1, .slice B2 m2 k2]] w fun e w' => e = .returned (.bool true) ∧ Below w.heap.size w w' := by
  have hB0 : Below w.heap.size w ((w.alloc (.cells #[.slice A1 n1 c1, .slice A2 n2 c2] 27)).alloc (.cells #[.slice B1 m1 k1, .slice B2 m2 k2] 27)) := ((Below.refl _ _).alloc (Nat.le_refl _) _).alloc (by simp) _
  have hf := Lib.hid ((Has.new w 27 #[.slice A1 n1 c1, .slice A2 n2 c2]).alloc (.cells #[.slice B1 m1 k1, .slice B2 m2 k2] 27))
  have hg := Lib.hid (Has.newAt (w := w.alloc (.cells #[.slice A1 n1 c1, .slice A2 n2 c2] 27)) (n := w.heap.size + 1) (t := 27) (cs := #[.slice B1 m1 k1, .slice B2 m2 k2]) (by simp))
  have hF0 := Lib.hid (h.below hB0)
  have hH0 := Lib.hid (g.below hB0)
  have hB := Lib.hid hB0
  have c0 := hf.out.cell
  have c1' := hg.out.cell
  clear h g hB0
  go_enter Try.func49, Try.ntmps49
  go_wp2_with fail
  generalize (w.alloc (.cells #[.slice A1 n1 c1, .slice A2 n2 c2] 27)).alloc (.cells #[.slice B1 m1 k1, .slice B2 m2 k2] 27) = W0 at hf hg hF0 hH0 hB c0 c1' ⊢
  refine (wcInts_any A1 B1 n1 m1 c1 k1 F.vs F.vs _ hF0.out.1 hH0.out.1 hn1 hm1).mono ?_
  rw [decide_eq_true rfl]
  rintro e w1 ⟨rfl, q1, rfl⟩
  have hb1 : Below W0.heap.size W0 (W0.drewN q1) := below_drewN (Below.refl _ _) q1
  have d0 := (hf.out.kept hb1).cell
  have d1 := (hg.out.kept hb1).cell
  have hF1 := Lib.hid (hF0.out.below hb1)
  have hH1 := Lib.hid (hH0.out.below hb1)
  have hB1 := hB.out.trans (hb1.mono hB.out.size)
  clear hf hg hF0 hH0 hB c0 c1' hb1
  generalize W0.drewN q1 = W1 at d0 d1 hF1 hH1 hB1 ⊢
  go_wp2_with fail
  refine (wcInts_any A2 B2 n2 m2 c2 k2 F.ns F.ns _ hF1.out.2 hH1.out.2 hn2 hm2).mono ?_
  rw [decide_eq_true rfl]
  rintro e w2 ⟨rfl, q2, rfl⟩
  have hB2 : Below w.heap.size w (W1.drewN q2) := below_drewN hB1 q2
  go_wp2_with fail
  go_ret
  exact ⟨rfl, hB2⟩
end Go.Proofs.Ytdegfbdoeklhnaa
