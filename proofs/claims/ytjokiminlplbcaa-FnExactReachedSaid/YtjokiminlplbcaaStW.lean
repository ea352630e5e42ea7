/- Contracts of the functions of chapter 1 over one statement. -/
import Derived.Test.YtjokiminlplbcaaSt
import Derived.WalkLawsBesides
import Derived.Laws.StructEq
namespace Go.Proofs.Ytjokiminlplbcaa
set_option maxRecDepth 100000
open Go.RowKit

/-- Two arrays of three numbers are one if their numbers are. -/
def eq3 (u v x a b c : Int) : Bool := u == a && v == b && x == c
theorem eqW (u v x a b c : Int) (w : World) : (Op.equalIn 10000 81 (.agg #[.int .i64 u, .int .i64 v, .int .i64 x]) (.agg #[.int .i64 a, .int .i64 b, .int .i64 c])).run Try.prog w = .ok (eq3 u v x a b c) w := by
  have u3 := Try.underlying3
  have a3 := Try.isAgg3
  have z3 := Try.sizeOf3
  rw [show (10000 : Nat) = 9999 + 1 from rfl, Op.equalIn]
  simp only [Sem.run_bind, run_underlying Try.underlying81, Result.andThen_ok]
  simp only [Std.Legacy.Range.forIn_eq_forIn_range', Std.Legacy.Range.size, Nat.sub_zero, Nat.add_sub_cancel, Nat.div_one, List.range'_succ, List.range'_zero, List.forIn_cons, List.forIn_nil]
  go_simp
  by_cases h1 : u = a <;> by_cases h2 : v = b <;> by_cases h3 : x = c <;> simp [h1, h2, h3, eq3]

set_option maxHeartbeats 400000 in
theorem l1Weights_any (u v x : Int) (w : World) :
    Calls Try.prog 110 #[.agg #[.int .i64 u, .int .i64 v, .int .i64 x]] w fun e w' => e = .returned (.bool (wOk u v x)) ∧ Below w.heap.size w w' := by
  go_enter Try.func110, Try.ntmps110
  go_wp2
  go_loop [3] (fun i => i = .int .i64 0 ∨ (i = .int .i64 1 ∧ inB u 0 9 = true) ∨ (i = .int .i64 2 ∧ inB u 0 9 = true ∧ inB v 0 9 = true) ∨ (i = .int .i64 3 ∧ inB u 0 9 = true ∧ inB v 0 9 = true ∧ inB x 0 9 = true)) (fun i => 3 - (intOf i).toNat)
  case atStart => exact .inl rfl
  case round =>
    rcases hrel with rfl | ⟨rfl, hu⟩ | ⟨rfl, hu, hv⟩ | ⟨rfl, hu, hv, hx⟩
    · rcases inB_cases u 0 9 with ⟨h1, h2, hr⟩ | ⟨h1, hr⟩
      · go_wp2_with (go_at_call 72; refine (l1In_any _ _ _ _).mono ?_; rintro e w' ⟨rfl, rfl⟩)
        go_round
        case rel => exact .inr (.inl ⟨rfl, hr⟩)
        case measure => simp [intOf]
      · go_wp2_with (go_at_call 72; refine (l1In_any _ _ _ _).mono ?_; rintro e w' ⟨rfl, rfl⟩)
        go_ret
        exact ⟨ret_bool (by simp [wOk, hr]), (Below.refl _ _).alloc (Nat.le_refl _) _⟩
    · rcases inB_cases v 0 9 with ⟨h1, h2, hr⟩ | ⟨h1, hr⟩
      · go_wp2_with (go_at_call 72; refine (l1In_any _ _ _ _).mono ?_; rintro e w' ⟨rfl, rfl⟩)
        go_round
        case rel => exact .inr (.inr (.inl ⟨rfl, hu, hr⟩))
        case measure => simp [intOf]
      · go_wp2_with (go_at_call 72; refine (l1In_any _ _ _ _).mono ?_; rintro e w' ⟨rfl, rfl⟩)
        go_ret
        exact ⟨ret_bool (by simp [wOk, hr]), (Below.refl _ _).alloc (Nat.le_refl _) _⟩
    · rcases inB_cases x 0 9 with ⟨h1, h2, hr⟩ | ⟨h1, hr⟩
      · go_wp2_with (go_at_call 72; refine (l1In_any _ _ _ _).mono ?_; rintro e w' ⟨rfl, rfl⟩)
        go_round
        case rel => exact .inr (.inr (.inr ⟨rfl, hu, hv, hr⟩))
        case measure => simp [intOf]
      · go_wp2_with (go_at_call 72; refine (l1In_any _ _ _ _).mono ?_; rintro e w' ⟨rfl, rfl⟩)
        go_ret
        exact ⟨ret_bool (by simp [wOk, hr]), (Below.refl _ _).alloc (Nat.le_refl _) _⟩
    · have ⟨a1, a2⟩ := inB_iff.1 hu
      have ⟨b1, b2⟩ := inB_iff.1 hv
      have ⟨c1, c2⟩ := inB_iff.1 hx
      have hR := Lib.hid (show wOk u v x = decide (0 < u + v + x) by simp [wOk, hu, hv, hx])
      go_wp2
      go_ret
      exact ⟨ret_bool hR.out, (Below.refl _ _).alloc (Nat.le_refl _) _⟩

def WRel (u v x : Int) (k : Nat) (b : Bool) : Prop :=
  (k = 0 ∧ b = false) ∨ (k = 1 ∧ inB u 0 9 = true ∧ b = decide (0 < u)) ∨ (k = 2 ∧ inB u 0 9 = true ∧ inB v 0 9 = true ∧ b = (decide (0 < u) || decide (0 < v))) ∨
  (k = 3 ∧ inB u 0 9 = true ∧ inB v 0 9 = true ∧ inB x 0 9 = true ∧ b = (decide (0 < u) || decide (0 < v) || decide (0 < x)))

theorem weightsOk_any (u v x : Int) (w : World) :
    Calls Try.prog 124 #[.agg #[.int .i64 u, .int .i64 v, .int .i64 x]] w fun e w' => e = .returned (.bool (wOk u v x)) ∧ Below w.heap.size w w' := by
  have i0 : ∀ w, (Instr.index 81 (.agg #[.int .i64 u, .int .i64 v, .int .i64 x]) (.int .i64 0)).run Try.prog w = .ok (.int .i64 u) w := fun _ => by kernel_rfl
  have i1 : ∀ w, (Instr.index 81 (.agg #[.int .i64 u, .int .i64 v, .int .i64 x]) (.int .i64 1)).run Try.prog w = .ok (.int .i64 v) w := fun _ => by kernel_rfl
  have i2 : ∀ w, (Instr.index 81 (.agg #[.int .i64 u, .int .i64 v, .int .i64 x]) (.int .i64 2)).run Try.prog w = .ok (.int .i64 x) w := fun _ => by kernel_rfl
  go_enter Try.func124, Try.ntmps124
  go_wp2
  go_loop [3, 7] (fun o i => ∃ (k : Nat) (b : Bool), i = .int .i64 k ∧ o = .bool b ∧ WRel u v x k b) (fun _ i => 3 - (intOf i).toNat)
  case atStart => exact ⟨0, false, rfl, rfl, .inl ⟨rfl, rfl⟩⟩
  case round =>
    obtain ⟨k, b, rfl, rfl, hrel⟩ := hrel
    rcases hrel with ⟨rfl, hb⟩ | ⟨rfl, hu, hb⟩ | ⟨rfl, hu, hv, hb⟩ | ⟨rfl, hu, hv, hx, hb⟩
    · have hB := Lib.hid hb
      clear hb
      rcases inB_cases u 0 9 with ⟨h1, h2, hr⟩ | ⟨h1, hr⟩
      · cases b
        all_goals
          go_wp2_with (go_at_call 81; refine (within_any _ _ _ _).mono ?_; rintro e w' ⟨rfl, rfl⟩)
          go_round
          case rel => exact ⟨1, _, rfl, rfl, .inr (.inl ⟨rfl, hr, by first | rfl | (have := hB.out; cases this)⟩)⟩
          case measure => simp [intOf]
      · go_wp2_with (go_at_call 81; refine (within_any _ _ _ _).mono ?_; rintro e w' ⟨rfl, rfl⟩)
        go_ret
        exact ⟨ret_bool (by simp [wOk, hr]), (Below.refl _ _).alloc (Nat.le_refl _) _⟩
    · have hB := Lib.hid hb
      clear hb
      rcases inB_cases v 0 9 with ⟨h1, h2, hr⟩ | ⟨h1, hr⟩
      · cases b
        all_goals
          go_wp2_with (go_at_call 81; refine (within_any _ _ _ _).mono ?_; rintro e w' ⟨rfl, rfl⟩)
          go_round
          case rel => exact ⟨2, _, rfl, rfl, .inr (.inr (.inl ⟨rfl, hu, hr, by rw [← hB.out]; rfl⟩))⟩
          case measure => simp [intOf]
      · go_wp2_with (go_at_call 81; refine (within_any _ _ _ _).mono ?_; rintro e w' ⟨rfl, rfl⟩)
        go_ret
        exact ⟨ret_bool (by simp [wOk, hr]), (Below.refl _ _).alloc (Nat.le_refl _) _⟩
    · have hB := Lib.hid hb
      clear hb
      rcases inB_cases x 0 9 with ⟨h1, h2, hr⟩ | ⟨h1, hr⟩
      · cases b
        all_goals
          go_wp2_with (go_at_call 81; refine (within_any _ _ _ _).mono ?_; rintro e w' ⟨rfl, rfl⟩)
          go_round
          case rel => exact ⟨3, _, rfl, rfl, .inr (.inr (.inr ⟨rfl, hu, hv, hr, by rw [← hB.out]; rfl⟩))⟩
          case measure => simp [intOf]
      · go_wp2_with (go_at_call 81; refine (within_any _ _ _ _).mono ?_; rintro e w' ⟨rfl, rfl⟩)
        go_ret
        exact ⟨ret_bool (by simp [wOk, hr]), (Below.refl _ _).alloc (Nat.le_refl _) _⟩
    · have ⟨a1, a2⟩ := inB_iff.1 hu
      have ⟨b1, b2⟩ := inB_iff.1 hv
      have ⟨c1, c2⟩ := inB_iff.1 hx
      have hR := Lib.hid (show wOk u v x = b by
        rw [hb, Bool.eq_iff_iff]; simp [wOk, hu, hv, hx]; omega)
      clear hb
      go_wp2
      go_ret
      exact ⟨ret_bool hR.out, (Below.refl _ _).alloc (Nat.le_refl _) _⟩

end Go.Proofs.Ytjokiminlplbcaa
