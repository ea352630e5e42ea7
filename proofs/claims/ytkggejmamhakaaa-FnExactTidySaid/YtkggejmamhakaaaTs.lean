/- The model's steps of a run: a struct behind a pointer. The model's steps of a run, for each statement: what draws nothing, and a draw. -/
import Derived.Test.YtkggejmamhakaaaSp
import Derived.Test.YtkggejmamhakaaaTrv
import Derived.Test.YtkggejmamhakaaaRd
import Derived.StillTailTactics
import Derived.Deep.RegionLaw
import Derived.Test.YtkggejmamhakaaaUnP
namespace Go.Proofs.Ytkggejmamhakaaa
set_option maxRecDepth 100000
set_option linter.unusedVariables false
open Go.RowKit

end Go.Proofs.Ytkggejmamhakaaa

namespace Go.Proofs.Ytkggejmamhakaaa
set_option maxRecDepth 100000
set_option linter.unusedVariables false
open Go.RowKit

theorem wok_bd {u v y : Int} (h : wOk u v y = true) : (0 ≤ u ∧ u ≤ 9) ∧ (0 ≤ v ∧ v ≤ 9) ∧ 0 ≤ y ∧ y ≤ 9 := by
  unfold wOk at h
  simp [inB_iff] at h
  omega

theorem l2Draws_any (s : St) (w : World) :
    Calls Try.prog 67 #[.agg #[.int .i64 s.k, .int .i64 s.a, .int .i64 s.b, .int .i64 s.c, .int .i64 s.u, .int .i64 s.v, .int .i64 s.x]] w fun e w' => e = .returned (.bool s.draws) ∧ Below w.heap.size w w' := by
  cases hd : s.draws
  · obtain ⟨h2, h3⟩ := draws_no hd
    clear hd
    go_enter Try.func67, Try.ntmps67
    go_wp2
    go_ret
    exact ⟨rfl, (Below.refl _ _).alloc (Nat.le_refl _) _⟩
  · rcases draws_yes hd with h2 | ⟨h2, h3⟩
    all_goals
      clear hd
      go_enter Try.func67, Try.ntmps67
      go_wp2
      go_ret
      exact ⟨rfl, (Below.refl _ _).alloc (Nat.le_refl _) _⟩

theorem next_draw {s : St} (hd : s.draws = true) (st x : Int) : s.next st x = withValue st s.a x := by
  obtain ⟨k, a, b, c, u, v, y⟩ := s
  obtain rfl | rfl : k = 2 ∨ k = 3 := by simpa [St.draws] using hd
  · simp [St.next]
  · simp [St.next]

end Go.Proofs.Ytkggejmamhakaaa
