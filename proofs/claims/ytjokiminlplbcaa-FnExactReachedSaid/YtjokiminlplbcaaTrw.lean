/- What stands in a state behind a change; the factor of a draw, reckoned ahead of it. -/
import Derived.Test.YtjokiminlplbcaaTrl
namespace Go.Proofs.Ytjokiminlplbcaa
set_option maxRecDepth 100000

theorem valueAt_with {s v x : Int} (hs : 0 ≤ s ∧ s ≤ 80) (hv : 0 ≤ v ∧ v ≤ 3) (hx : 0 ≤ x ∧ x ≤ 2) :
    valueAt (withValue s v x) v = x ∧ ∀ i, 0 ≤ i → i ≤ 3 → i ≠ v → valueAt (withValue s v x) i = valueAt s i := by
  have hr := with_bd hs hv hx
  have e1 : ∀ {s : Int}, 0 ≤ s ∧ s ≤ 80 → ∀ k : Nat, k ≤ 3 → valueAt s k = s / p3 k % 3 := fun h k hk => valueAt_yes h.1 h.2 rfl hk
  obtain ⟨k, rfl, hk⟩ := nat4 hv.1 hv.2
  have e2 := withValue_yes hs.1 hs.2 (rfl : (k : Int) = k) hk hx.1 hx.2
  rw [e2] at hr ⊢
  constructor
  · rw [e1 hr k hk]
    obtain rfl | rfl | rfl | rfl : k = 0 ∨ k = 1 ∨ k = 2 ∨ k = 3 := by omega
    all_goals simp only [p3]; omega
  · intro i h0 h3 hne
    obtain ⟨j, rfl, hj⟩ := nat4 h0 h3
    rw [e1 hr j hj, e1 hs j hj]
    obtain rfl | rfl | rfl | rfl : k = 0 ∨ k = 1 ∨ k = 2 ∨ k = 3 := by omega
    all_goals
      obtain rfl | rfl | rfl | rfl : j = 0 ∨ j = 1 ∨ j = 2 ∨ j = 3 := by omega
      all_goals first | (exact absurd rfl hne) | (simp only [p3]; omega)

theorem fac_2 {a b c u v y st x : Int} (hs : 0 ≤ st ∧ st ≤ 80) (ha : 0 ≤ a ∧ a ≤ 3) (hx : 0 ≤ x ∧ x ≤ 2) :
    (St.mk 2 a b c u v y).fac ((St.mk 2 a b c u v y).next st x) = (St.mk 2 a b c u v y).wgt x := by
  have e : (St.mk 2 a b c u v y).next st x = withValue st a x := by simp [St.next]
  rw [e]
  simp [St.fac, (valueAt_with hs ha hx).1]
theorem fac_3 {a b c u v y st x : Int} (hs : 0 ≤ st ∧ st ≤ 80) (ha : 0 ≤ a ∧ a ≤ 3) (hb : 0 ≤ b ∧ b ≤ 3) (hne : a ≠ b) (hx : 0 ≤ x ∧ x ≤ 2) :
    (St.mk 3 a b c u v y).fac ((St.mk 3 a b c u v y).next st x) = (St.mk 3 a b c u v y).wgt ((x + valueAt st b) % 3) := by
  have e : (St.mk 3 a b c u v y).next st x = withValue st a x := by simp [St.next]
  rw [e]
  simp [St.fac, (valueAt_with hs ha hx).1, (valueAt_with hs ha hx).2 b hb.1 hb.2 (Ne.symm hne)]

end Go.Proofs.Ytjokiminlplbcaa
