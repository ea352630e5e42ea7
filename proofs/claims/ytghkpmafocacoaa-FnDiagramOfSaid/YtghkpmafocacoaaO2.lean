/- Diagrams: the program's levelOf, sumFrom, kidFor, cellOk, DiagramOk. -/
import Derived.Test.YtghkpmafocacoaaO0
import Derived.Test.YtghkpmafocacoaaMem
namespace Go.Proofs.Ytghkpmafocacoaa
set_option maxRecDepth 100000
set_option linter.unusedVariables false
open Go.RowKit

theorem ce_leaf (s : Ce) : (s.v == -1) = true ∨ (s.v == -1) = false := by cases s.v == -1 <;> simp
theorem lev_leaf {s : Ce} (h : (s.v == -1) = true) : s.lev = 4 := if_pos (by simpa using h)
theorem lev_var {s : Ce} (h : (s.v == -1) = false) : s.lev = s.v := if_neg (by simpa using h)
theorem levelOf_any (s : Ce) (w : World) :
    Calls Try.prog 81 #[.agg #[.int .i64 s.v, .int .i64 s.n, .int .i64 s.a, .int .i64 s.b, .int .i64 s.c]] w fun e w' => e = .returned (.int .i64 s.lev) ∧ Below w.heap.size w w' := by
  have hB := Lib.hid (show Below w.heap.size w (w.alloc (.cells #[.int .i64 s.v, .int .i64 s.n, .int .i64 s.a, .int .i64 s.b, .int .i64 s.c] 47)) from (Below.refl _ _).alloc (Nat.le_refl _) _)
  rcases ce_leaf s with h | h
  · have hR := Lib.hid (lev_leaf h)
    go_enter Try.func81, Try.ntmps81
    go_wp2
    go_ret
    exact ⟨ret_int hR.out, hB.out⟩
  · have hR := Lib.hid (lev_var h)
    go_enter Try.func81, Try.ntmps81
    go_wp2
    go_ret
    exact ⟨ret_int hR.out, hB.out⟩

/-- 3 to the power of the difference. -/
theorem pow_step {s : Int} {f k : Nat} : s * 3 ^ (k + 1 - f) * 3 = s * 3 ^ (k + 1 + 1 - f) ∨ k + 1 < f := by
  by_cases h : k + 1 < f
  · exact .inr h
  · refine .inl ?_
    rw [show k + 1 + 1 - f = k + 1 - f + 1 by omega, Int.pow_succ, Int.mul_assoc]
theorem sumFrom_any (s : Int) (f l : Nat) (w : World) (hf : f ≤ l) (hl : l ≤ 4) (h0 : 0 ≤ s) (h1 : s * 3 ^ (l - f) ≤ 1000000000000) :
    Calls Try.prog 80 #[.int .i64 s, .int .i64 f, .int .i64 l] w fun e w' => e = .returned (.int .i64 (s * 3 ^ (l - f))) ∧ w = w' := by
  have hb : Hid (∀ k, f ≤ k → k ≤ l → 0 ≤ s * 3 ^ (k - f) ∧ s * 3 ^ (k - f) ≤ 1000000000000) := Lib.hid (fun k hk1 hk2 => by
    have hp : (3 : Int) ^ (k - f) ≤ 3 ^ (l - f) := by
      obtain ⟨m, hm⟩ : ∃ m, l - f = k - f + m := ⟨l - k, by omega⟩
      rw [hm, Int.pow_add]
      have h3 : (1 : Int) ≤ 3 ^ m := by
        have : 0 < (3 : Int) ^ m := Int.pow_pos (by decide)
        omega
      have h4 : (0 : Int) < 3 ^ (k - f) := Int.pow_pos (by decide)
      have := Int.mul_le_mul_of_nonneg_left h3 (Int.le_of_lt h4)
      omega
    have h4 : (0 : Int) < 3 ^ (k - f) := Int.pow_pos (by decide)
    have := Int.mul_le_mul_of_nonneg_left hp h0
    exact ⟨Int.mul_nonneg h0 (Int.le_of_lt h4), by omega⟩)
  clear h1
  go_enter Try.func80, Try.ntmps80
  go_wp2
  go_loop [0, 7] (fun o i => ∃ k : Nat, f ≤ k ∧ k ≤ l ∧ i = .int .i64 k ∧ o = .int .i64 (s * 3 ^ (k - f))) (fun _ i => l - (intOf i).toNat)
  case atStart => exact ⟨f, Nat.le_refl _, hf, rfl, by rw [Nat.sub_self, Int.pow_zero, Int.mul_one]⟩
  case round =>
    obtain ⟨k, hk1, hk2, rfl, rfl⟩ := hrel
    have hbk := hb.out k hk1 hk2
    by_cases hlt : k < l
    · have hE := Lib.hid (show s * 3 ^ (k + 1 - f) = s * 3 ^ (k - f) * 3 by rw [show k + 1 - f = k - f + 1 by omega, Int.pow_succ, Int.mul_assoc])
      generalize s * 3 ^ (k - f) = x at *
      go_wp2
      go_round
      case rel => exact ⟨k + 1, by omega, by omega, by go_num, by rw [hE.out]⟩
      case measure => simp [intOf]; omega
    · obtain rfl : k = l := by omega
      clear hbk
      go_wp2
      go_ret
      exact ⟨rfl, rfl⟩
end Go.Proofs.Ytghkpmafocacoaa
