/- Parts of the proof: JJ. -/
import Derived.Laws.AppendOwnNone
import Derived.Deep.LoopGhost
import Derived.StillTailTactics
import Derived.Deep.RegionLaw
import Derived.Deep.RegionHeld3
import Derived.Test.YtkggejmamhakaaaZAJ
import Derived.Test.YtkggejmamhakaaaZAF
import Derived.Test.YtkggejmamhakaaaZAH
namespace Go.Proofs.Ytkggejmamhakaaa
set_option maxRecDepth 100000
set_option linter.unusedVariables false
open Go.RowKit
end Go.Proofs.Ytkggejmamhakaaa
namespace Go.Proofs.Ytkggejmamhakaaa
set_option maxRecDepth 100000
set_option linter.unusedVariables false
open Go.RowKit
theorem Own.len {w : World} {base : Nat} {v : Value} {os : List St} (h : Own w base v os) : w.ownsRow base 63 7 v os.length (flat os) := h
end Go.Proofs.Ytkggejmamhakaaa
namespace Go.Proofs.Ytkggejmamhakaaa
set_option maxRecDepth 100000
set_option linter.unusedVariables false
open Go.RowKit
end Go.Proofs.Ytkggejmamhakaaa
