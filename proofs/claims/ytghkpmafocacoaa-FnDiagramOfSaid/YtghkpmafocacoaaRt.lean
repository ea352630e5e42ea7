/- The program's RunTrace. The model's RunTrace. -/
import Derived.Test.YtghkpmafocacoaaSp
import Derived.Test.YtghkpmafocacoaaTrv
import Derived.Test.YtghkpmafocacoaaNm
import Derived.Test.YtghkpmafocacoaaRd
import Derived.StillTailTactics
import Derived.Test.YtghkpmafocacoaaTs
namespace Go.Proofs.Ytghkpmafocacoaa
set_option maxRecDepth 100000
set_option linter.unusedVariables false
open Go.RowKit

/-- How a run ends that is told. -/
def RTd (w : World) (o : Option (Int × Int)) (e : Ending) (w' : World) : Prop :=
  e = .returned (.tuple #[.int .i64 (o.getD (0, 0)).1, .int .i64 (o.getD (0, 0)).2, .bool o.isSome]) ∧ Below w.heap.size w w'
theorem RTd.no {w w' : World} {o : Option (Int × Int)} (h : o = none) (hb : Below w.heap.size w w') : RTd w o (.returned (.tuple #[.int .i64 0, .int .i64 0, .bool false])) w' := by
  subst h; exact ⟨rfl, hb⟩
theorem RTd.yes {w w' : World} {o : Option (Int × Int)} {a b : Int} (h : o = some (a, b)) (hb : Below w.heap.size w w') : RTd w o (.returned (.tuple #[.int .i64 a, .int .i64 b, .bool true])) w' := by
  subst h; exact ⟨rfl, hb⟩

/-- How far a run in memory has come. -/
def posAt (w : World) (g : Nat) : Nat := (intOf (cellOr w ⟨g, 0, none⟩)).toNat
theorem posAt_of {w : World} {g p : Nat} {t : TypeId} {a b : Value} (h : Has w g t #[.int .i64 p, a, b]) : posAt w g = p := by
  unfold posAt cellOr
  rw [h.cell 0]
  simp [intOf]
theorem Rn.pos_lt (s : St) (r : Rn) (x : Int) : r.pos < (Rn.step s r x).pos := by
  show r.pos < r.pos + 1 + s.jump r.st
  omega
theorem drop_i {ds : List Int} {u : Nat} {d : Int} (h : ds[u]? = some d) : ds.drop u = d :: ds.drop (u + 1) := by
  have hl : u < ds.length := (List.getElem?_eq_some_iff.1 h).1
  rw [List.drop_eq_getElem_cons hl, (List.getElem?_eq_some_iff.1 h).2]

end Go.Proofs.Ytghkpmafocacoaa

namespace Go.Proofs.Ytghkpmafocacoaa
set_option maxRecDepth 100000
set_option linter.unusedVariables false
open Go.RowKit

end Go.Proofs.Ytghkpmafocacoaa
