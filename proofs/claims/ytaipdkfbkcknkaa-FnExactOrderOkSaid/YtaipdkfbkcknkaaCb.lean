/- Weights as one number: the program's rowOf, weightsOfRow, turnedRow and foldedWeights. -/
import Derived.Test.YtaipdkfbkcknkaaCa
import Derived.Test.YtaipdkfbkcknkaaSwx
import Derived.Test.YtaipdkfbkcknkaaAa
namespace Go.Proofs.Ytaipdkfbkcknkaa
set_option maxRecDepth 100000
set_option linter.unusedVariables false
open Go.RowKit

/-- Weights, or products of them, as one number. -/
def rowN (u v x : Int) : Int := u + 100 * (v + 100 * x)
/-- Weights turned: what each value has is what the value that is greater by k had. -/
def turnR (u v x : Int) : Nat → Int
  | 0 => rowN u v x
  | 1 => rowN v x u
  | _ => rowN x u v
theorem turn_step (u v x : Int) (hu : 0 ≤ u ∧ u ≤ 99) (hv : 0 ≤ v ∧ v ≤ 99) (hx : 0 ≤ x ∧ x ≤ 99) {k : Nat} (hk : k < 2) :
    ∃ q r, turnR u v x k / 100 = q ∧ turnR u v x k % 100 = r ∧ q + r * 10000 = turnR u v x (k + 1) ∧ 0 ≤ q ∧ q ≤ 9999 ∧ 0 ≤ r ∧ r ≤ 99 ∧ 0 ≤ turnR u v x k ∧ turnR u v x k ≤ 999999 := by
  obtain rfl | rfl : k = 0 ∨ k = 1 := by omega
  · exact ⟨v + 100 * x, u, by show rowN u v x / 100 = _; unfold rowN; omega, by show rowN u v x % 100 = _; unfold rowN; omega, by show _ = rowN v x u; unfold rowN; omega, by omega, by omega, by omega, by omega, by show 0 ≤ rowN u v x; unfold rowN; omega, by show rowN u v x ≤ _; unfold rowN; omega⟩
  · exact ⟨x + 100 * u, v, by show rowN v x u / 100 = _; unfold rowN; omega, by show rowN v x u % 100 = _; unfold rowN; omega, by show _ = rowN x u v; unfold rowN; omega, by omega, by omega, by omega, by omega, by show 0 ≤ rowN v x u; unfold rowN; omega, by show rowN v x u ≤ _; unfold rowN; omega⟩
theorem fold_bd {a b : Int} (ha : 0 ≤ a ∧ a ≤ 9) (hb : 0 ≤ b ∧ b ≤ 9) : 0 ≤ a * b ∧ a * b ≤ 81 := by
  have h1 := Int.mul_nonneg ha.1 hb.1
  have h2 := Int.mul_le_mul ha.2 hb.2 hb.1 (by decide)
  omega
/-- The products so far of two rows as one number. -/
def foldR (s t : St) : Nat → Int
  | 0 => 0
  | 1 => s.u * t.u
  | 2 => s.u * t.u + 100 * (s.v * t.v)
  | _ => rowN (s.u * t.u) (s.v * t.v) (s.x * t.x)
theorem fold_step (s t : St) (hs : (0 ≤ s.u ∧ s.u ≤ 9) ∧ (0 ≤ s.v ∧ s.v ≤ 9) ∧ (0 ≤ s.x ∧ s.x ≤ 9)) (ht : (0 ≤ t.u ∧ t.u ≤ 9) ∧ (0 ≤ t.v ∧ t.v ≤ 9) ∧ (0 ≤ t.x ∧ t.x ≤ 9)) {k : Nat} (hk : k < 3) :
    ∃ p q q' r r' : Int, (100 ^ k : Nat) = p ∧ rowN s.u s.v s.x / p = q ∧ rowN t.u t.v t.x / p = q' ∧ q % 100 = r ∧ q' % 100 = r' ∧ foldR s t k + r * r' * p = foldR s t (k + 1) ∧ (0 ≤ q ∧ q ≤ 99999) ∧ (0 ≤ q' ∧ q' ≤ 99999) ∧ (0 ≤ r * r' ∧ r * r' ≤ 81) ∧ (0 ≤ r * r' * p ∧ r * r' * p ≤ 810000) ∧ (0 ≤ foldR s t k ∧ foldR s t k ≤ 9999) ∧ p * 100 = (100 ^ (k + 1) : Nat) ∧ 1 ≤ p ∧ p ≤ 10000 := by
  have b1 := fold_bd hs.1 ht.1
  have b2 := fold_bd hs.2.1 ht.2.1
  have b3 := fold_bd hs.2.2 ht.2.2
  obtain rfl | rfl | rfl : k = 0 ∨ k = 1 ∨ k = 2 := by omega
  · exact ⟨1, rowN s.u s.v s.x, rowN t.u t.v t.x, s.u, t.u, rfl, by omega, by omega, by unfold rowN; omega, by unfold rowN; omega, by show 0 + s.u * t.u * 1 = s.u * t.u; omega, by unfold rowN; omega, by unfold rowN; omega, b1, by omega, by show 0 ≤ (0 : Int) ∧ (0 : Int) ≤ 9999; decide, rfl, by decide, by decide⟩
  · exact ⟨100, s.v + 100 * s.x, t.v + 100 * t.x, s.v, t.v, rfl, by unfold rowN; omega, by unfold rowN; omega, by omega, by omega, by show s.u * t.u + s.v * t.v * 100 = s.u * t.u + 100 * (s.v * t.v); omega, by omega, by omega, b2, by omega, by show 0 ≤ s.u * t.u ∧ s.u * t.u ≤ 9999; omega, rfl, by decide, by decide⟩
  · exact ⟨10000, s.x, t.x, s.x, t.x, rfl, by unfold rowN; omega, by unfold rowN; omega, by omega, by omega, by show s.u * t.u + 100 * (s.v * t.v) + s.x * t.x * 10000 = rowN (s.u * t.u) (s.v * t.v) (s.x * t.x); unfold rowN; omega, by omega, by omega, b3, by omega, by show 0 ≤ s.u * t.u + 100 * (s.v * t.v) ∧ s.u * t.u + 100 * (s.v * t.v) ≤ 9999; omega, rfl, by decide, by decide⟩

theorem w64 {x : Int} (h : -9223372036854775808 ≤ x ∧ x ≤ 9223372036854775807) : wrap64 x = x := by unfold wrap64; omega
theorem Has.newAt {w : World} {n : Nat} {t : TypeId} {cs : Array Value} (h : w.heap.size = n) : Has (w.alloc (.cells cs t)) n t cs := h ▸ Has.new w t cs
theorem bc6 {a q r : World} (h1 : Below a.heap.size a q) (h2 : Below q.heap.size q r) (o : Obj) : Below a.heap.size a (r.alloc o) := (h1.trans (h2.mono h1.size)).alloc (Nat.le_trans h1.size h2.size) o
theorem bal {a q : World} (o : Obj) (h : Below (a.alloc o).heap.size (a.alloc o) q) : Below a.heap.size a q := (((Below.refl _ _).alloc (Nat.le_refl _) o)).trans (h.mono (by simp))
end Go.Proofs.Ytaipdkfbkcknkaa
