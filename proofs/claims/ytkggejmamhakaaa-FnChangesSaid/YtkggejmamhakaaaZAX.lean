/- Parts of the proof: Ts, Rt, Fm. -/
import Derived.StillTailTactics
import Derived.Deep.RegionLaw
import Derived.Test.YtkggejmamhakaaaZAW
import Derived.Test.YtkggejmamhakaaaZAN
import Derived.Test.YtkggejmamhakaaaZAC
import Derived.Test.YtkggejmamhakaaaZAH
import Derived.Test.YtkggejmamhakaaaZAJ
import Derived.Deep.AppendLies
import Derived.Test.YtkggejmamhakaaaZAS
namespace Go.Proofs.Ytkggejmamhakaaa
set_option maxRecDepth 100000
set_option linter.unusedVariables false
open Go.RowKit
end Go.Proofs.Ytkggejmamhakaaa
namespace Go.Proofs.Ytkggejmamhakaaa
set_option maxRecDepth 100000
set_option linter.unusedVariables false
open Go.RowKit
theorem l2Draws_any (s : St) (w : World) :
    Calls Try.prog 67 #[.agg #[.int .i64 s.k, .int .i64 s.a, .int .i64 s.b, .int .i64 s.c, .int .i64 s.u, .int .i64 s.v, .int .i64 s.x]] w fun e w' => e = .returned (.bool s.draws) ∧ Below w.heap.size w w' := by
  cases hd : s.draws
  · obtain ⟨h2, h3⟩ := draws_no hd
    clear hd
    go_enter Try.func67, Try.ntmps67
    go_wp2
    go_ret
    exact ⟨rfl, (Below.refl _ _).alloc (Nat.le_refl _) _⟩
  · rcases draws_yes hd with h2 | ⟨h2, h3⟩
    all_goals
      clear hd
      go_enter Try.func67, Try.ntmps67
      go_wp2
      go_ret
      exact ⟨rfl, (Below.refl _ _).alloc (Nat.le_refl _) _⟩
end Go.Proofs.Ytkggejmamhakaaa

namespace Go.Proofs.Ytkggejmamhakaaa
set_option maxRecDepth 100000
set_option linter.unusedVariables false
open Go.RowKit
/-- How a run ends that is told. -/
def RTd (w : World) (o : Option (Int × Int)) (e : Ending) (w' : World) : Prop :=
  e = .returned (.tuple #[.int .i64 (o.getD (0, 0)).1, .int .i64 (o.getD (0, 0)).2, .bool o.isSome]) ∧ Below w.heap.size w w'
theorem RTd.no {w w' : World} {o : Option (Int × Int)} (h : o = none) (hb : Below w.heap.size w w') : RTd w o (.returned (.tuple #[.int .i64 0, .int .i64 0, .bool false])) w' := by
  subst h; exact ⟨rfl, hb⟩
theorem RTd.yes {w w' : World} {o : Option (Int × Int)} {a b : Int} (h : o = some (a, b)) (hb : Below w.heap.size w w') : RTd w o (.returned (.tuple #[.int .i64 a, .int .i64 b, .bool true])) w' := by
  subst h; exact ⟨rfl, hb⟩
end Go.Proofs.Ytkggejmamhakaaa
namespace Go.Proofs.Ytkggejmamhakaaa
set_option maxRecDepth 100000
set_option linter.unusedVariables false
open Go.RowKit
end Go.Proofs.Ytkggejmamhakaaa

namespace Go.Proofs.Ytkggejmamhakaaa
set_option maxRecDepth 100000
set_option linter.unusedVariables false
open Go.RowKit
theorem info_row : (Try.prog.info? 31).map (fun i => (i.zero, i.size, i.bytes)) = some (some (.slice none 0 0), 1, 24) := by kernel_rfl
end Go.Proofs.Ytkggejmamhakaaa
namespace Go.Proofs.Ytkggejmamhakaaa
set_option maxRecDepth 100000
set_option linter.unusedVariables false
open Go.RowKit
/-- The rows of a program's traces. -/
def rowsT (o : Option (List Leaf)) : List (List Int) := (o.getD []).map fun l => l.1
/-- How telling all traces ends. -/
def TrOd (w : World) (o : Option (List Leaf)) (e : Ending) (w' : World) : Prop :=
  ∃ v vs, e = .returned (.tuple #[v, .bool o.isSome]) ∧ RowsV w' w.heap.size v (rowsT o) vs ∧ Below w.heap.size w w'
theorem TrOd.no {w w' : World} {o : Option (List Leaf)} (h : o = none) (hb : Below w.heap.size w w') : TrOd w o (.returned (.tuple #[.slice none 0 0, .bool false])) w' := by
  subst h; exact ⟨_, [], rfl, RowsV.nil _ _, hb⟩
end Go.Proofs.Ytkggejmamhakaaa
