/- Which kinds may be where in a change: the program's mayStand. -/
import Derived.Test.YtkggejmamhakaaaCa
namespace Go.Proofs.Ytkggejmamhakaaa
set_option maxRecDepth 100000
set_option linter.unusedVariables false
open Go.RowKit

theorem mayStand_1 (c k : Int) (hc : 0 ≤ c ∧ c ≤ 4) (hk : 0 ≤ k ∧ k ≤ 6) (w : World) :
    Calls Try.prog 77 #[.int .i64 c, .int .i64 k, .int .u8 102] w fun e w' => e = .returned (.bool (may1 c k)) ∧ w = w' := by
  obtain rfl | rfl | rfl | rfl | rfl : c = 0 ∨ c = 1 ∨ c = 2 ∨ c = 3 ∨ c = 4 := by omega
  all_goals
    obtain rfl | rfl | rfl | rfl | rfl | rfl | rfl : k = 0 ∨ k = 1 ∨ k = 2 ∨ k = 3 ∨ k = 4 ∨ k = 5 ∨ k = 6 := by omega
    all_goals
      go_enter Try.func77, Try.ntmps77
      go_wp2
      all_goals first
        | (go_ret; exact ⟨rfl, rfl⟩)
        | (rename_i h; exact absurd h (by decide +revert))
theorem mayStand_2 (c k : Int) (hc : 0 ≤ c ∧ c ≤ 4) (hk : 0 ≤ k ∧ k ≤ 6) (w : World) :
    Calls Try.prog 77 #[.int .i64 c, .int .i64 k, .int .u8 115] w fun e w' => e = .returned (.bool (may2 c k)) ∧ w = w' := by
  obtain rfl | rfl | rfl | rfl | rfl : c = 0 ∨ c = 1 ∨ c = 2 ∨ c = 3 ∨ c = 4 := by omega
  all_goals
    obtain rfl | rfl | rfl | rfl | rfl | rfl | rfl : k = 0 ∨ k = 1 ∨ k = 2 ∨ k = 3 ∨ k = 4 ∨ k = 5 ∨ k = 6 := by omega
    all_goals
      go_enter Try.func77, Try.ntmps77
      go_wp2
      all_goals first
        | (go_ret; exact ⟨rfl, rfl⟩)
        | (rename_i h; exact absurd h (by decide +revert))

end Go.Proofs.Ytkggejmamhakaaa
