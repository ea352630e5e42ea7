/- The model's steps of a run: a struct behind a pointer. The model's steps of a run, for each statement: what draws nothing, and a draw. -/
import Derived.Test.YtaipdkfbkcknkaaSp
import Derived.Test.YtaipdkfbkcknkaaTrv
import Derived.Test.YtaipdkfbkcknkaaRd
import Derived.StillTailTactics
import Derived.Deep.RegionLaw
import Derived.Test.YtaipdkfbkcknkaaUnP
namespace Go.Proofs.Ytaipdkfbkcknkaa
set_option maxRecDepth 100000
set_option linter.unusedVariables false
open Go.RowKit

theorem l1At_v (st a : Int) (w : World) (hs : 0 ≤ st ∧ st ≤ 80) (ha : 0 ≤ a ∧ a ≤ 3) :
    Calls Try.prog 145 #[.int .i64 st, .int .i64 a] w fun e w' => e = .returned (.int .i64 (valueAt st a)) ∧ w' = w := by
  obtain ⟨k, rfl, hk⟩ := nat4 ha.1 ha.2
  rw [valueAt_yes hs.1 hs.2 rfl hk]
  exact (l1At_any st k hs.1 hs.2 hk w).mono fun _ _ h => ⟨h.1, h.2.symm⟩
theorem l1With_v (st a x : Int) (w : World) (hs : 0 ≤ st ∧ st ≤ 80) (ha : 0 ≤ a ∧ a ≤ 3) (hx : 0 ≤ x ∧ x ≤ 2) :
    Calls Try.prog 127 #[.int .i64 st, .int .i64 a, .int .i64 x] w fun e w' => e = .returned (.int .i64 (withValue st a x)) ∧ w' = w := by
  obtain ⟨k, rfl, hk⟩ := nat4 ha.1 ha.2
  rw [withValue_yes hs.1 hs.2 rfl hk hx.1 hx.2]
  exact (l1With_any st x k hs.1 hs.2 hk hx.1 hx.2 w).mono fun _ _ h => ⟨h.1, h.2.symm⟩

end Go.Proofs.Ytaipdkfbkcknkaa

namespace Go.Proofs.Ytaipdkfbkcknkaa
set_option maxRecDepth 100000
set_option linter.unusedVariables false
open Go.RowKit

theorem wok_bd {u v y : Int} (h : wOk u v y = true) : (0 ≤ u ∧ u ≤ 9) ∧ (0 ≤ v ∧ v ≤ 9) ∧ 0 ≤ y ∧ y ≤ 9 := by
  unfold wOk at h
  simp [inB_iff] at h
  omega

theorem l2Draws_any (s : St) (w : World) :
    Calls Try.prog 102 #[.agg #[.int .i64 s.k, .int .i64 s.a, .int .i64 s.b, .int .i64 s.c, .int .i64 s.u, .int .i64 s.v, .int .i64 s.x]] w fun e w' => e = .returned (.bool s.draws) ∧ Below w.heap.size w w' := by
  cases hd : s.draws
  · obtain ⟨h2, h3⟩ := draws_no hd
    clear hd
    go_enter Try.func102, Try.ntmps102
    go_wp2
    go_ret
    exact ⟨rfl, (Below.refl _ _).alloc (Nat.le_refl _) _⟩
  · rcases draws_yes hd with h2 | ⟨h2, h3⟩
    all_goals
      clear hd
      go_enter Try.func102, Try.ntmps102
      go_wp2
      go_ret
      exact ⟨rfl, (Below.refl _ _).alloc (Nat.le_refl _) _⟩

theorem next_draw {s : St} (hd : s.draws = true) (st x : Int) : s.next st x = withValue st s.a x := by
  obtain ⟨k, a, b, c, u, v, y⟩ := s
  obtain rfl | rfl : k = 2 ∨ k = 3 := by simpa [St.draws] using hd
  · simp [St.next]
  · simp [St.next]

end Go.Proofs.Ytaipdkfbkcknkaa
