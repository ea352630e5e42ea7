/- What goes over unrolled statements backward in memory; what is worth in a state ahead of a statement: the program's worthIn. -/
import Derived.Test.YtkggejmamhakaaaBc
import Derived.Deep.QuietTactic
import Derived.BigQuiet
import Derived.Deep.RegionLaw
namespace Go.Proofs.Ytkggejmamhakaaa
set_option maxRecDepth 100000
set_option linter.unusedVariables false
open Go.RowKit

theorem tbk_c : (3 : TypeId) ≠ 31 := by decide

/-- What a part of a run is worth. -/
def Xw (G : Int → Int) (R : Nat → Int → Int) (i1 : Nat) (p : Nat) (st : Int) : Int := if i1 < p then R p st else G st

end Go.Proofs.Ytkggejmamhakaaa
