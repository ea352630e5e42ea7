/-
  No cell of these rows narrows 'for every input' (looked for: loops, veiled, ifaces, maps, wideKeys, modest, calm, conditions, laid).
  DERIVED. THE GIVEN ROWS OF THIS SEAT. 11 by the template 'for every input the law returns true; each argument reads behind the call as it read before'; 0 by the template 'total and deterministic' (their statements: YtbndonfpdioibaaTotals.lean).
  GIVEN WITH THE SEED: the statements are not yours to turn. If you find one false, say at which input.
  Laid BY PROGRAM, IN A SANDBOX (cutbox-rows.mjs): the forced cells as the released guide's own fill.sh prints them over the translation 654cb639ff3005ae… (all of the seat's roots in one cut). By AI agents, Wed Nov 11 2026. No macro, syntax, notation, axiom, sorry.
-/
import Derived.Test.YtbndonfpdioibaaChecked
import GoSem.Claim
import GoSem.ClaimJoined
import GoSem.ClaimMapViews
import Derived.JoinedTies
import Derived.KernelRfl
namespace Go.Proofs.Ytbndonfpdioibaa
/- THE CELL 'sum', in the pinned program and in every row, IS THE sha256 OF THE DUMP (.gsa) THAT YtbndonfpdioibaaProg.lean LOADS. Nothing in Lean hashes anything: it is a label: what it is worth is what the hold of that sum in a sandbox is worth. -/
noncomputable def Try.pinned : Pinned := { name := "ytbndonfpdioibaa", sum := "654cb639ff3005ae2d2d03335d702f106b877c3865691621d2bdd2f07485b4d7", checked := Try.checked }
namespace Rows
def none {H : Type} : Left H := { results := [], args := [] }

/-- 'laws.FnExactSlopeOf': WHATEVER THE INPUT: true; the input reads as it did. -/
def fnExactSlopeOfSpec : ChangeSpec := { name := "fnExactSlopeOf", fn := fun _ => fun
  | [d1, d2, d3] => { results := [.lit (.bool true)], args := [d1, d2, d3] }
  | _ => none }
def fnExactSlopeOfRow : OpenClaim := { program := "ytbndonfpdioibaa", sum := "654cb639ff3005ae2d2d03335d702f106b877c3865691621d2bdd2f07485b4d7", func := "loop.example/wholechance/laws.FnExactSlopeOf", spec := "fnExactSlopeOf", apart := false }
def FnExactSlopeOfSaid : Prop := fnExactSlopeOfRow.holds Try.pinned (OpenSpec.ofChange fnExactSlopeOfSpec)

/-- ITS FALSE NEIGHBOUR: 'it returns false'. Refute it at one input. -/
def fnExactSlopeOfWrong : ChangeSpec := { name := "fnExactSlopeOf", fn := fun _ => fun
  | [d1, d2, d3] => { results := [.lit (.bool false)], args := [d1, d2, d3] }
  | _ => none }
def FnExactSlopeOfWrongFalsely : Prop := fnExactSlopeOfRow.holds Try.pinned (OpenSpec.ofChange fnExactSlopeOfWrong)

/-- 'laws.FnExactWithMore': WHATEVER THE INPUT: true; the input reads as it did. -/
def fnExactWithMoreSpec : ChangeSpec := { name := "fnExactWithMore", fn := fun _ => fun
  | [d1, d2, d3] => { results := [.lit (.bool true)], args := [d1, d2, d3] }
  | _ => none }
def fnExactWithMoreRow : OpenClaim := { program := "ytbndonfpdioibaa", sum := "654cb639ff3005ae2d2d03335d702f106b877c3865691621d2bdd2f07485b4d7", func := "loop.example/wholechance/laws.FnExactWithMore", spec := "fnExactWithMore", apart := false }
def FnExactWithMoreSaid : Prop := fnExactWithMoreRow.holds Try.pinned (OpenSpec.ofChange fnExactWithMoreSpec)

/-- ITS FALSE NEIGHBOUR: 'it returns false'. Refute it at one input. -/
def fnExactWithMoreWrong : ChangeSpec := { name := "fnExactWithMore", fn := fun _ => fun
  | [d1, d2, d3] => { results := [.lit (.bool false)], args := [d1, d2, d3] }
  | _ => none }
def FnExactWithMoreWrongFalsely : Prop := fnExactWithMoreRow.holds Try.pinned (OpenSpec.ofChange fnExactWithMoreWrong)

/-- 'laws.FnExactUsesOf': WHATEVER THE INPUT: true; the input reads as it did. -/
def fnExactUsesOfSpec : ChangeSpec := { name := "fnExactUsesOf", fn := fun _ => fun
  | [d1, d2] => { results := [.lit (.bool true)], args := [d1, d2] }
  | _ => none }
def fnExactUsesOfRow : OpenClaim := { program := "ytbndonfpdioibaa", sum := "654cb639ff3005ae2d2d03335d702f106b877c3865691621d2bdd2f07485b4d7", func := "loop.example/wholechance/laws.FnExactUsesOf", spec := "fnExactUsesOf", apart := false }
def FnExactUsesOfSaid : Prop := fnExactUsesOfRow.holds Try.pinned (OpenSpec.ofChange fnExactUsesOfSpec)

/-- ITS FALSE NEIGHBOUR: 'it returns false'. Refute it at one input. -/
def fnExactUsesOfWrong : ChangeSpec := { name := "fnExactUsesOf", fn := fun _ => fun
  | [d1, d2] => { results := [.lit (.bool false)], args := [d1, d2] }
  | _ => none }
def FnExactUsesOfWrongFalsely : Prop := fnExactUsesOfRow.holds Try.pinned (OpenSpec.ofChange fnExactUsesOfWrong)

/-- 'laws.FnExactPassedOver': WHATEVER THE INPUT: true; the input reads as it did. -/
def fnExactPassedOverSpec : ChangeSpec := { name := "fnExactPassedOver", fn := fun _ => fun
  | [d1, d2] => { results := [.lit (.bool true)], args := [d1, d2] }
  | _ => none }
def fnExactPassedOverRow : OpenClaim := { program := "ytbndonfpdioibaa", sum := "654cb639ff3005ae2d2d03335d702f106b877c3865691621d2bdd2f07485b4d7", func := "loop.example/wholechance/laws.FnExactPassedOver", spec := "fnExactPassedOver", apart := false }
def FnExactPassedOverSaid : Prop := fnExactPassedOverRow.holds Try.pinned (OpenSpec.ofChange fnExactPassedOverSpec)

/-- ITS FALSE NEIGHBOUR: 'it returns false'. Refute it at one input. -/
def fnExactPassedOverWrong : ChangeSpec := { name := "fnExactPassedOver", fn := fun _ => fun
  | [d1, d2] => { results := [.lit (.bool false)], args := [d1, d2] }
  | _ => none }
def FnExactPassedOverWrongFalsely : Prop := fnExactPassedOverRow.holds Try.pinned (OpenSpec.ofChange fnExactPassedOverWrong)

/-- 'laws.FnExactSteepest': WHATEVER THE INPUT: true; the input reads as it did. -/
def fnExactSteepestSpec : ChangeSpec := { name := "fnExactSteepest", fn := fun _ => fun
  | [d] => { results := [.lit (.bool true)], args := [d] }
  | _ => none }
def fnExactSteepestRow : OpenClaim := { program := "ytbndonfpdioibaa", sum := "654cb639ff3005ae2d2d03335d702f106b877c3865691621d2bdd2f07485b4d7", func := "loop.example/wholechance/laws.FnExactSteepest", spec := "fnExactSteepest", apart := false }
def FnExactSteepestSaid : Prop := fnExactSteepestRow.holds Try.pinned (OpenSpec.ofChange fnExactSteepestSpec)

/-- ITS FALSE NEIGHBOUR: 'it returns false'. Refute it at one input. -/
def fnExactSteepestWrong : ChangeSpec := { name := "fnExactSteepest", fn := fun _ => fun
  | [d] => { results := [.lit (.bool false)], args := [d] }
  | _ => none }
def FnExactSteepestWrongFalsely : Prop := fnExactSteepestRow.holds Try.pinned (OpenSpec.ofChange fnExactSteepestWrong)

/-- 'laws.FnSlopes': WHATEVER THE INPUT: true; the input reads as it did. -/
def fnSlopesSpec : ChangeSpec := { name := "fnSlopes", fn := fun _ => fun
  | [d] => { results := [.lit (.bool true)], args := [d] }
  | _ => none }
def fnSlopesRow : OpenClaim := { program := "ytbndonfpdioibaa", sum := "654cb639ff3005ae2d2d03335d702f106b877c3865691621d2bdd2f07485b4d7", func := "loop.example/wholechance/laws.FnSlopes", spec := "fnSlopes", apart := false }
def FnSlopesSaid : Prop := fnSlopesRow.holds Try.pinned (OpenSpec.ofChange fnSlopesSpec)

/-- ITS FALSE NEIGHBOUR: 'it returns false'. Refute it at one input. -/
def fnSlopesWrong : ChangeSpec := { name := "fnSlopes", fn := fun _ => fun
  | [d] => { results := [.lit (.bool false)], args := [d] }
  | _ => none }
def FnSlopesWrongFalsely : Prop := fnSlopesRow.holds Try.pinned (OpenSpec.ofChange fnSlopesWrong)

/-- 'laws.FnUses': WHATEVER THE INPUT: true; the input reads as it did. -/
def fnUsesSpec : ChangeSpec := { name := "fnUses", fn := fun _ => fun
  | [d] => { results := [.lit (.bool true)], args := [d] }
  | _ => none }
def fnUsesRow : OpenClaim := { program := "ytbndonfpdioibaa", sum := "654cb639ff3005ae2d2d03335d702f106b877c3865691621d2bdd2f07485b4d7", func := "loop.example/wholechance/laws.FnUses", spec := "fnUses", apart := false }
def FnUsesSaid : Prop := fnUsesRow.holds Try.pinned (OpenSpec.ofChange fnUsesSpec)

/-- ITS FALSE NEIGHBOUR: 'it returns false'. Refute it at one input. -/
def fnUsesWrong : ChangeSpec := { name := "fnUses", fn := fun _ => fun
  | [d] => { results := [.lit (.bool false)], args := [d] }
  | _ => none }
def FnUsesWrongFalsely : Prop := fnUsesRow.holds Try.pinned (OpenSpec.ofChange fnUsesWrong)

/-- 'laws.FnSteepest': WHATEVER THE INPUT: true; the input reads as it did. -/
def fnSteepestSpec : ChangeSpec := { name := "fnSteepest", fn := fun _ => fun
  | [d] => { results := [.lit (.bool true)], args := [d] }
  | _ => none }
def fnSteepestRow : OpenClaim := { program := "ytbndonfpdioibaa", sum := "654cb639ff3005ae2d2d03335d702f106b877c3865691621d2bdd2f07485b4d7", func := "loop.example/wholechance/laws.FnSteepest", spec := "fnSteepest", apart := false }
def FnSteepestSaid : Prop := fnSteepestRow.holds Try.pinned (OpenSpec.ofChange fnSteepestSpec)

/-- ITS FALSE NEIGHBOUR: 'it returns false'. Refute it at one input. -/
def fnSteepestWrong : ChangeSpec := { name := "fnSteepest", fn := fun _ => fun
  | [d] => { results := [.lit (.bool false)], args := [d] }
  | _ => none }
def FnSteepestWrongFalsely : Prop := fnSteepestRow.holds Try.pinned (OpenSpec.ofChange fnSteepestWrong)

/-- 'laws.FnLeast': WHATEVER THE INPUT: true; the input reads as it did. -/
def fnLeastSpec : ChangeSpec := { name := "fnLeast", fn := fun _ => fun
  | [d] => { results := [.lit (.bool true)], args := [d] }
  | _ => none }
def fnLeastRow : OpenClaim := { program := "ytbndonfpdioibaa", sum := "654cb639ff3005ae2d2d03335d702f106b877c3865691621d2bdd2f07485b4d7", func := "loop.example/wholechance/laws.FnLeast", spec := "fnLeast", recurses := true, apart := false }
def FnLeastSaid : Prop := fnLeastRow.holds Try.pinned (OpenSpec.ofChange fnLeastSpec)

/-- ITS FALSE NEIGHBOUR: 'it returns false'. Refute it at one input. -/
def fnLeastWrong : ChangeSpec := { name := "fnLeast", fn := fun _ => fun
  | [d] => { results := [.lit (.bool false)], args := [d] }
  | _ => none }
def FnLeastWrongFalsely : Prop := fnLeastRow.holds Try.pinned (OpenSpec.ofChange fnLeastWrong)

/-- 'laws.FnDiagramTimes': WHATEVER THE INPUT: true; the input reads as it did. -/
def fnDiagramTimesSpec : ChangeSpec := { name := "fnDiagramTimes", fn := fun _ => fun
  | [d] => { results := [.lit (.bool true)], args := [d] }
  | _ => none }
def fnDiagramTimesRow : OpenClaim := { program := "ytbndonfpdioibaa", sum := "654cb639ff3005ae2d2d03335d702f106b877c3865691621d2bdd2f07485b4d7", func := "loop.example/wholechance/laws.FnDiagramTimes", spec := "fnDiagramTimes", recurses := true, apart := false }
def FnDiagramTimesSaid : Prop := fnDiagramTimesRow.holds Try.pinned (OpenSpec.ofChange fnDiagramTimesSpec)

/-- ITS FALSE NEIGHBOUR: 'it returns false'. Refute it at one input. -/
def fnDiagramTimesWrong : ChangeSpec := { name := "fnDiagramTimes", fn := fun _ => fun
  | [d] => { results := [.lit (.bool false)], args := [d] }
  | _ => none }
def FnDiagramTimesWrongFalsely : Prop := fnDiagramTimesRow.holds Try.pinned (OpenSpec.ofChange fnDiagramTimesWrong)

/-- 'laws.FnApart': WHATEVER THE INPUT: true; the input reads as it did. -/
def fnApartSpec : ChangeSpec := { name := "fnApart", fn := fun _ => fun
  | [d] => { results := [.lit (.bool true)], args := [d] }
  | _ => none }
def fnApartRow : OpenClaim := { program := "ytbndonfpdioibaa", sum := "654cb639ff3005ae2d2d03335d702f106b877c3865691621d2bdd2f07485b4d7", func := "loop.example/wholechance/laws.FnApart", spec := "fnApart", apart := false }
def FnApartSaid : Prop := fnApartRow.holds Try.pinned (OpenSpec.ofChange fnApartSpec)

/-- ITS FALSE NEIGHBOUR: 'it returns false'. Refute it at one input. -/
def fnApartWrong : ChangeSpec := { name := "fnApart", fn := fun _ => fun
  | [d] => { results := [.lit (.bool false)], args := [d] }
  | _ => none }
def FnApartWrongFalsely : Prop := fnApartRow.holds Try.pinned (OpenSpec.ofChange fnApartWrong)

/- THE SECOND FORM. 'bulk': how many values and letters a reading holds, each counted each time it is reached (what is shared counts as often as it is met; a slice's spare places count too). A statement '..UptoSaid' is the law's where the arguments, and the package variables that the reading takes, are together of bulk at most 1048576: NARROWER than '..Said'. Prove '..Said' where nothing that the law and all that it calls make is longer than what came in: it says more and counts as full. Else prove '..UptoSaid'. A law counts once. -/
mutual
def uptoBulk {H : Type} : DataW H → Nat
  | .lit (.string bytes) => bytes.length + 1
  | .lit _ => 1
  | .nil => 1
  | .ptr d => uptoBulk d + 1
  | .slice elems spare => uptoBulkAll elems + uptoBulkAll spare + 1
  | .agg parts => uptoBulkAll parts + 1
  | .iface _ d => uptoBulk d + 1
  | .map entries => uptoBulkEntries entries + 1
  | .held _ => 1
def uptoBulkAll {H : Type} : List (DataW H) → Nat
  | [] => 0
  | d :: r => uptoBulk d + uptoBulkAll r
def uptoBulkEntries {H : Type} : List (Lit × DataW H) → Nat
  | [] => 0
  | x :: r => uptoBulkEntry x + uptoBulkEntries r
def uptoBulkEntry {H : Type} : Lit × DataW H → Nat
  | (.string bytes, d) => bytes.length + uptoBulk d + 1
  | (_, d) => uptoBulk d + 1
 end
def uptoSmall : (H : Type) → List (DataW H) → Bool := fun _ ds => decide (uptoBulkAll ds ≤ 1048576)
def OpenSpec.upto (s : _root_.Go.ChangeSpec) : _root_.Go.OpenSpec := { _root_.Go.OpenSpec.ofChange s with cond := some uptoSmall }

/-- 'laws.FnExactSlopeOf', WHERE WHAT IT READS IS OF BULK AT MOST 1048576: true; the input reads as it did. -/
def fnExactSlopeOfUptoRow : OpenClaim := { program := "ytbndonfpdioibaa", sum := "654cb639ff3005ae2d2d03335d702f106b877c3865691621d2bdd2f07485b4d7", func := "loop.example/wholechance/laws.FnExactSlopeOf", spec := "fnExactSlopeOf", apart := false, narrowed := true }
def FnExactSlopeOfUptoSaid : Prop := fnExactSlopeOfUptoRow.holds Try.pinned (OpenSpec.upto fnExactSlopeOfSpec)

/-- 'laws.FnExactWithMore', WHERE WHAT IT READS IS OF BULK AT MOST 1048576: true; the input reads as it did. -/
def fnExactWithMoreUptoRow : OpenClaim := { program := "ytbndonfpdioibaa", sum := "654cb639ff3005ae2d2d03335d702f106b877c3865691621d2bdd2f07485b4d7", func := "loop.example/wholechance/laws.FnExactWithMore", spec := "fnExactWithMore", apart := false, narrowed := true }
def FnExactWithMoreUptoSaid : Prop := fnExactWithMoreUptoRow.holds Try.pinned (OpenSpec.upto fnExactWithMoreSpec)

/-- 'laws.FnExactUsesOf', WHERE WHAT IT READS IS OF BULK AT MOST 1048576: true; the input reads as it did. -/
def fnExactUsesOfUptoRow : OpenClaim := { program := "ytbndonfpdioibaa", sum := "654cb639ff3005ae2d2d03335d702f106b877c3865691621d2bdd2f07485b4d7", func := "loop.example/wholechance/laws.FnExactUsesOf", spec := "fnExactUsesOf", apart := false, narrowed := true }
def FnExactUsesOfUptoSaid : Prop := fnExactUsesOfUptoRow.holds Try.pinned (OpenSpec.upto fnExactUsesOfSpec)

/-- 'laws.FnExactPassedOver', WHERE WHAT IT READS IS OF BULK AT MOST 1048576: true; the input reads as it did. -/
def fnExactPassedOverUptoRow : OpenClaim := { program := "ytbndonfpdioibaa", sum := "654cb639ff3005ae2d2d03335d702f106b877c3865691621d2bdd2f07485b4d7", func := "loop.example/wholechance/laws.FnExactPassedOver", spec := "fnExactPassedOver", apart := false, narrowed := true }
def FnExactPassedOverUptoSaid : Prop := fnExactPassedOverUptoRow.holds Try.pinned (OpenSpec.upto fnExactPassedOverSpec)

/-- 'laws.FnExactSteepest', WHERE WHAT IT READS IS OF BULK AT MOST 1048576: true; the input reads as it did. -/
def fnExactSteepestUptoRow : OpenClaim := { program := "ytbndonfpdioibaa", sum := "654cb639ff3005ae2d2d03335d702f106b877c3865691621d2bdd2f07485b4d7", func := "loop.example/wholechance/laws.FnExactSteepest", spec := "fnExactSteepest", apart := false, narrowed := true }
def FnExactSteepestUptoSaid : Prop := fnExactSteepestUptoRow.holds Try.pinned (OpenSpec.upto fnExactSteepestSpec)

/-- 'laws.FnSlopes', WHERE WHAT IT READS IS OF BULK AT MOST 1048576: true; the input reads as it did. -/
def fnSlopesUptoRow : OpenClaim := { program := "ytbndonfpdioibaa", sum := "654cb639ff3005ae2d2d03335d702f106b877c3865691621d2bdd2f07485b4d7", func := "loop.example/wholechance/laws.FnSlopes", spec := "fnSlopes", apart := false, narrowed := true }
def FnSlopesUptoSaid : Prop := fnSlopesUptoRow.holds Try.pinned (OpenSpec.upto fnSlopesSpec)

/-- 'laws.FnUses', WHERE WHAT IT READS IS OF BULK AT MOST 1048576: true; the input reads as it did. -/
def fnUsesUptoRow : OpenClaim := { program := "ytbndonfpdioibaa", sum := "654cb639ff3005ae2d2d03335d702f106b877c3865691621d2bdd2f07485b4d7", func := "loop.example/wholechance/laws.FnUses", spec := "fnUses", apart := false, narrowed := true }
def FnUsesUptoSaid : Prop := fnUsesUptoRow.holds Try.pinned (OpenSpec.upto fnUsesSpec)

/-- 'laws.FnSteepest', WHERE WHAT IT READS IS OF BULK AT MOST 1048576: true; the input reads as it did. -/
def fnSteepestUptoRow : OpenClaim := { program := "ytbndonfpdioibaa", sum := "654cb639ff3005ae2d2d03335d702f106b877c3865691621d2bdd2f07485b4d7", func := "loop.example/wholechance/laws.FnSteepest", spec := "fnSteepest", apart := false, narrowed := true }
def FnSteepestUptoSaid : Prop := fnSteepestUptoRow.holds Try.pinned (OpenSpec.upto fnSteepestSpec)

/-- 'laws.FnLeast', WHERE WHAT IT READS IS OF BULK AT MOST 1048576: true; the input reads as it did. -/
def fnLeastUptoRow : OpenClaim := { program := "ytbndonfpdioibaa", sum := "654cb639ff3005ae2d2d03335d702f106b877c3865691621d2bdd2f07485b4d7", func := "loop.example/wholechance/laws.FnLeast", spec := "fnLeast", recurses := true, apart := false, narrowed := true }
def FnLeastUptoSaid : Prop := fnLeastUptoRow.holds Try.pinned (OpenSpec.upto fnLeastSpec)

/-- 'laws.FnDiagramTimes', WHERE WHAT IT READS IS OF BULK AT MOST 1048576: true; the input reads as it did. -/
def fnDiagramTimesUptoRow : OpenClaim := { program := "ytbndonfpdioibaa", sum := "654cb639ff3005ae2d2d03335d702f106b877c3865691621d2bdd2f07485b4d7", func := "loop.example/wholechance/laws.FnDiagramTimes", spec := "fnDiagramTimes", recurses := true, apart := false, narrowed := true }
def FnDiagramTimesUptoSaid : Prop := fnDiagramTimesUptoRow.holds Try.pinned (OpenSpec.upto fnDiagramTimesSpec)

/-- 'laws.FnApart', WHERE WHAT IT READS IS OF BULK AT MOST 1048576: true; the input reads as it did. -/
def fnApartUptoRow : OpenClaim := { program := "ytbndonfpdioibaa", sum := "654cb639ff3005ae2d2d03335d702f106b877c3865691621d2bdd2f07485b4d7", func := "loop.example/wholechance/laws.FnApart", spec := "fnApart", apart := false, narrowed := true }
def FnApartUptoSaid : Prop := fnApartUptoRow.holds Try.pinned (OpenSpec.upto fnApartSpec)

end Rows
end Go.Proofs.Ytbndonfpdioibaa
