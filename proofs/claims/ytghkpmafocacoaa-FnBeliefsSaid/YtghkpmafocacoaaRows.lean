/-
  No cell of these rows narrows 'for every input' (looked for: loops, veiled, ifaces, maps, wideKeys, modest, calm, conditions, laid).
  DERIVED. THE GIVEN ROWS OF THIS SEAT. 12 by the template 'for every input the law returns true; each argument reads behind the call as it read before'; 0 by the template 'total and deterministic' (their statements: YtghkpmafocacoaaTotals.lean).
  GIVEN WITH THE SEED: the statements are not yours to turn. If you find one false, say at which input.
  Laid BY PROGRAM, IN A SANDBOX (cutbox-rows.mjs): the forced cells as the released guide's own fill.sh prints them over the translation 570022502ebc938c… (all of the seat's roots in one cut). By AI agents, Wed Nov 11 2026. No macro, syntax, notation, axiom, sorry.
-/
import Derived.Test.YtghkpmafocacoaaChecked
import GoSem.Claim
import GoSem.ClaimJoined
import GoSem.ClaimMapViews
import Derived.JoinedTies
import Derived.KernelRfl
namespace Go.Proofs.Ytghkpmafocacoaa
/- THE CELL 'sum', in the pinned program and in every row, IS THE sha256 OF THE DUMP (.gsa) THAT YtghkpmafocacoaaProg.lean LOADS. Nothing in Lean hashes anything: it is a label: what it is worth is what the hold of that sum in a sandbox is worth. -/
noncomputable def Try.pinned : Pinned := { name := "ytghkpmafocacoaa", sum := "570022502ebc938cccfacf7884ef4e5a6868708212be9c5b6afb91464f401330", checked := Try.checked }
namespace Rows
def none {H : Type} : Left H := { results := [], args := [] }

/-- 'laws.FnExactDiagramOk': WHATEVER THE INPUT: true; the input reads as it did. -/
def fnExactDiagramOkSpec : ChangeSpec := { name := "fnExactDiagramOk", fn := fun _ => fun
  | [d] => { results := [.lit (.bool true)], args := [d] }
  | _ => none }
def fnExactDiagramOkRow : OpenClaim := { program := "ytghkpmafocacoaa", sum := "570022502ebc938cccfacf7884ef4e5a6868708212be9c5b6afb91464f401330", func := "loop.example/wholechance/laws.FnExactDiagramOk", spec := "fnExactDiagramOk", apart := false }
def FnExactDiagramOkSaid : Prop := fnExactDiagramOkRow.holds Try.pinned (OpenSpec.ofChange fnExactDiagramOkSpec)

/-- ITS FALSE NEIGHBOUR: 'it returns false'. Refute it at one input. -/
def fnExactDiagramOkWrong : ChangeSpec := { name := "fnExactDiagramOk", fn := fun _ => fun
  | [d] => { results := [.lit (.bool false)], args := [d] }
  | _ => none }
def FnExactDiagramOkWrongFalsely : Prop := fnExactDiagramOkRow.holds Try.pinned (OpenSpec.ofChange fnExactDiagramOkWrong)

/-- 'laws.FnExactDiagramAt': WHATEVER THE INPUT: true; the input reads as it did. -/
def fnExactDiagramAtSpec : ChangeSpec := { name := "fnExactDiagramAt", fn := fun _ => fun
  | [d1, d2] => { results := [.lit (.bool true)], args := [d1, d2] }
  | _ => none }
def fnExactDiagramAtRow : OpenClaim := { program := "ytghkpmafocacoaa", sum := "570022502ebc938cccfacf7884ef4e5a6868708212be9c5b6afb91464f401330", func := "loop.example/wholechance/laws.FnExactDiagramAt", spec := "fnExactDiagramAt", apart := false }
def FnExactDiagramAtSaid : Prop := fnExactDiagramAtRow.holds Try.pinned (OpenSpec.ofChange fnExactDiagramAtSpec)

/-- ITS FALSE NEIGHBOUR: 'it returns false'. Refute it at one input. -/
def fnExactDiagramAtWrong : ChangeSpec := { name := "fnExactDiagramAt", fn := fun _ => fun
  | [d1, d2] => { results := [.lit (.bool false)], args := [d1, d2] }
  | _ => none }
def FnExactDiagramAtWrongFalsely : Prop := fnExactDiagramAtRow.holds Try.pinned (OpenSpec.ofChange fnExactDiagramAtWrong)

/-- 'laws.FnExactDiagramList': WHATEVER THE INPUT: true; the input reads as it did. -/
def fnExactDiagramListSpec : ChangeSpec := { name := "fnExactDiagramList", fn := fun _ => fun
  | [d] => { results := [.lit (.bool true)], args := [d] }
  | _ => none }
def fnExactDiagramListRow : OpenClaim := { program := "ytghkpmafocacoaa", sum := "570022502ebc938cccfacf7884ef4e5a6868708212be9c5b6afb91464f401330", func := "loop.example/wholechance/laws.FnExactDiagramList", spec := "fnExactDiagramList", apart := false }
def FnExactDiagramListSaid : Prop := fnExactDiagramListRow.holds Try.pinned (OpenSpec.ofChange fnExactDiagramListSpec)

/-- ITS FALSE NEIGHBOUR: 'it returns false'. Refute it at one input. -/
def fnExactDiagramListWrong : ChangeSpec := { name := "fnExactDiagramList", fn := fun _ => fun
  | [d] => { results := [.lit (.bool false)], args := [d] }
  | _ => none }
def FnExactDiagramListWrongFalsely : Prop := fnExactDiagramListRow.holds Try.pinned (OpenSpec.ofChange fnExactDiagramListWrong)

/-- 'laws.FnExactDiagramOf': WHATEVER THE INPUT: true; the input reads as it did. -/
def fnExactDiagramOfSpec : ChangeSpec := { name := "fnExactDiagramOf", fn := fun _ => fun
  | [d] => { results := [.lit (.bool true)], args := [d] }
  | _ => none }
def fnExactDiagramOfRow : OpenClaim := { program := "ytghkpmafocacoaa", sum := "570022502ebc938cccfacf7884ef4e5a6868708212be9c5b6afb91464f401330", func := "loop.example/wholechance/laws.FnExactDiagramOf", spec := "fnExactDiagramOf", recurses := true, apart := false }
def FnExactDiagramOfSaid : Prop := fnExactDiagramOfRow.holds Try.pinned (OpenSpec.ofChange fnExactDiagramOfSpec)

/-- ITS FALSE NEIGHBOUR: 'it returns false'. Refute it at one input. -/
def fnExactDiagramOfWrong : ChangeSpec := { name := "fnExactDiagramOf", fn := fun _ => fun
  | [d] => { results := [.lit (.bool false)], args := [d] }
  | _ => none }
def FnExactDiagramOfWrongFalsely : Prop := fnExactDiagramOfRow.holds Try.pinned (OpenSpec.ofChange fnExactDiagramOfWrong)

/-- 'laws.FnExactLeast': WHATEVER THE INPUT: true; the input reads as it did. -/
def fnExactLeastSpec : ChangeSpec := { name := "fnExactLeast", fn := fun _ => fun
  | [d] => { results := [.lit (.bool true)], args := [d] }
  | _ => none }
def fnExactLeastRow : OpenClaim := { program := "ytghkpmafocacoaa", sum := "570022502ebc938cccfacf7884ef4e5a6868708212be9c5b6afb91464f401330", func := "loop.example/wholechance/laws.FnExactLeast", spec := "fnExactLeast", recurses := true, apart := false }
def FnExactLeastSaid : Prop := fnExactLeastRow.holds Try.pinned (OpenSpec.ofChange fnExactLeastSpec)

/-- ITS FALSE NEIGHBOUR: 'it returns false'. Refute it at one input. -/
def fnExactLeastWrong : ChangeSpec := { name := "fnExactLeast", fn := fun _ => fun
  | [d] => { results := [.lit (.bool false)], args := [d] }
  | _ => none }
def FnExactLeastWrongFalsely : Prop := fnExactLeastRow.holds Try.pinned (OpenSpec.ofChange fnExactLeastWrong)

/-- 'laws.FnExactDiagramSum': WHATEVER THE INPUT: true; the input reads as it did. -/
def fnExactDiagramSumSpec : ChangeSpec := { name := "fnExactDiagramSum", fn := fun _ => fun
  | [d] => { results := [.lit (.bool true)], args := [d] }
  | _ => none }
def fnExactDiagramSumRow : OpenClaim := { program := "ytghkpmafocacoaa", sum := "570022502ebc938cccfacf7884ef4e5a6868708212be9c5b6afb91464f401330", func := "loop.example/wholechance/laws.FnExactDiagramSum", spec := "fnExactDiagramSum", apart := false }
def FnExactDiagramSumSaid : Prop := fnExactDiagramSumRow.holds Try.pinned (OpenSpec.ofChange fnExactDiagramSumSpec)

/-- ITS FALSE NEIGHBOUR: 'it returns false'. Refute it at one input. -/
def fnExactDiagramSumWrong : ChangeSpec := { name := "fnExactDiagramSum", fn := fun _ => fun
  | [d] => { results := [.lit (.bool false)], args := [d] }
  | _ => none }
def FnExactDiagramSumWrongFalsely : Prop := fnExactDiagramSumRow.holds Try.pinned (OpenSpec.ofChange fnExactDiagramSumWrong)

/-- 'laws.FnExactDiagramTimes': WHATEVER THE INPUT: true; the input reads as it did. -/
def fnExactDiagramTimesSpec : ChangeSpec := { name := "fnExactDiagramTimes", fn := fun _ => fun
  | [d1, d2] => { results := [.lit (.bool true)], args := [d1, d2] }
  | _ => none }
def fnExactDiagramTimesRow : OpenClaim := { program := "ytghkpmafocacoaa", sum := "570022502ebc938cccfacf7884ef4e5a6868708212be9c5b6afb91464f401330", func := "loop.example/wholechance/laws.FnExactDiagramTimes", spec := "fnExactDiagramTimes", recurses := true, apart := false }
def FnExactDiagramTimesSaid : Prop := fnExactDiagramTimesRow.holds Try.pinned (OpenSpec.ofChange fnExactDiagramTimesSpec)

/-- ITS FALSE NEIGHBOUR: 'it returns false'. Refute it at one input. -/
def fnExactDiagramTimesWrong : ChangeSpec := { name := "fnExactDiagramTimes", fn := fun _ => fun
  | [d1, d2] => { results := [.lit (.bool false)], args := [d1, d2] }
  | _ => none }
def FnExactDiagramTimesWrongFalsely : Prop := fnExactDiagramTimesRow.holds Try.pinned (OpenSpec.ofChange fnExactDiagramTimesWrong)

/-- 'laws.FnExactCellSums': WHATEVER THE INPUT: true; the input reads as it did. -/
def fnExactCellSumsSpec : ChangeSpec := { name := "fnExactCellSums", fn := fun _ => fun
  | [d] => { results := [.lit (.bool true)], args := [d] }
  | _ => none }
def fnExactCellSumsRow : OpenClaim := { program := "ytghkpmafocacoaa", sum := "570022502ebc938cccfacf7884ef4e5a6868708212be9c5b6afb91464f401330", func := "loop.example/wholechance/laws.FnExactCellSums", spec := "fnExactCellSums", apart := false }
def FnExactCellSumsSaid : Prop := fnExactCellSumsRow.holds Try.pinned (OpenSpec.ofChange fnExactCellSumsSpec)

/-- ITS FALSE NEIGHBOUR: 'it returns false'. Refute it at one input. -/
def fnExactCellSumsWrong : ChangeSpec := { name := "fnExactCellSums", fn := fun _ => fun
  | [d] => { results := [.lit (.bool false)], args := [d] }
  | _ => none }
def FnExactCellSumsWrongFalsely : Prop := fnExactCellSumsRow.holds Try.pinned (OpenSpec.ofChange fnExactCellSumsWrong)

/-- 'laws.FnDiagramOf': WHATEVER THE INPUT: true; the input reads as it did. -/
def fnDiagramOfSpec : ChangeSpec := { name := "fnDiagramOf", fn := fun _ => fun
  | [d] => { results := [.lit (.bool true)], args := [d] }
  | _ => none }
def fnDiagramOfRow : OpenClaim := { program := "ytghkpmafocacoaa", sum := "570022502ebc938cccfacf7884ef4e5a6868708212be9c5b6afb91464f401330", func := "loop.example/wholechance/laws.FnDiagramOf", spec := "fnDiagramOf", recurses := true, apart := false }
def FnDiagramOfSaid : Prop := fnDiagramOfRow.holds Try.pinned (OpenSpec.ofChange fnDiagramOfSpec)

/-- ITS FALSE NEIGHBOUR: 'it returns false'. Refute it at one input. -/
def fnDiagramOfWrong : ChangeSpec := { name := "fnDiagramOf", fn := fun _ => fun
  | [d] => { results := [.lit (.bool false)], args := [d] }
  | _ => none }
def FnDiagramOfWrongFalsely : Prop := fnDiagramOfRow.holds Try.pinned (OpenSpec.ofChange fnDiagramOfWrong)

/-- 'laws.FnMessages': WHATEVER THE INPUT: true; the input reads as it did. -/
def fnMessagesSpec : ChangeSpec := { name := "fnMessages", fn := fun _ => fun
  | [d] => { results := [.lit (.bool true)], args := [d] }
  | _ => none }
def fnMessagesRow : OpenClaim := { program := "ytghkpmafocacoaa", sum := "570022502ebc938cccfacf7884ef4e5a6868708212be9c5b6afb91464f401330", func := "loop.example/wholechance/laws.FnMessages", spec := "fnMessages", recurses := true, apart := false }
def FnMessagesSaid : Prop := fnMessagesRow.holds Try.pinned (OpenSpec.ofChange fnMessagesSpec)

/-- ITS FALSE NEIGHBOUR: 'it returns false'. Refute it at one input. -/
def fnMessagesWrong : ChangeSpec := { name := "fnMessages", fn := fun _ => fun
  | [d] => { results := [.lit (.bool false)], args := [d] }
  | _ => none }
def FnMessagesWrongFalsely : Prop := fnMessagesRow.holds Try.pinned (OpenSpec.ofChange fnMessagesWrong)

/-- 'laws.FnBeliefs': WHATEVER THE INPUT: true; the input reads as it did. -/
def fnBeliefsSpec : ChangeSpec := { name := "fnBeliefs", fn := fun _ => fun
  | [d] => { results := [.lit (.bool true)], args := [d] }
  | _ => none }
def fnBeliefsRow : OpenClaim := { program := "ytghkpmafocacoaa", sum := "570022502ebc938cccfacf7884ef4e5a6868708212be9c5b6afb91464f401330", func := "loop.example/wholechance/laws.FnBeliefs", spec := "fnBeliefs", recurses := true, apart := false }
def FnBeliefsSaid : Prop := fnBeliefsRow.holds Try.pinned (OpenSpec.ofChange fnBeliefsSpec)

/-- ITS FALSE NEIGHBOUR: 'it returns false'. Refute it at one input. -/
def fnBeliefsWrong : ChangeSpec := { name := "fnBeliefs", fn := fun _ => fun
  | [d] => { results := [.lit (.bool false)], args := [d] }
  | _ => none }
def FnBeliefsWrongFalsely : Prop := fnBeliefsRow.holds Try.pinned (OpenSpec.ofChange fnBeliefsWrong)

/-- 'laws.FnFactorsOf': WHATEVER THE INPUT: true; the input reads as it did. -/
def fnFactorsOfSpec : ChangeSpec := { name := "fnFactorsOf", fn := fun _ => fun
  | [d] => { results := [.lit (.bool true)], args := [d] }
  | _ => none }
def fnFactorsOfRow : OpenClaim := { program := "ytghkpmafocacoaa", sum := "570022502ebc938cccfacf7884ef4e5a6868708212be9c5b6afb91464f401330", func := "loop.example/wholechance/laws.FnFactorsOf", spec := "fnFactorsOf", apart := false }
def FnFactorsOfSaid : Prop := fnFactorsOfRow.holds Try.pinned (OpenSpec.ofChange fnFactorsOfSpec)

/-- ITS FALSE NEIGHBOUR: 'it returns false'. Refute it at one input. -/
def fnFactorsOfWrong : ChangeSpec := { name := "fnFactorsOf", fn := fun _ => fun
  | [d] => { results := [.lit (.bool false)], args := [d] }
  | _ => none }
def FnFactorsOfWrongFalsely : Prop := fnFactorsOfRow.holds Try.pinned (OpenSpec.ofChange fnFactorsOfWrong)

/- THE SECOND FORM. 'bulk': how many values and letters a reading holds, each counted each time it is reached (what is shared counts as often as it is met; a slice's spare places count too). A statement '..UptoSaid' is the law's where the arguments, and the package variables that the reading takes, are together of bulk at most 1048576: NARROWER than '..Said'. Prove '..Said' where nothing that the law and all that it calls make is longer than what came in: it says more and counts as full. Else prove '..UptoSaid'. A law counts once. -/
mutual
def uptoBulk {H : Type} : DataW H → Nat
  | .lit (.string bytes) => bytes.length + 1
  | .lit _ => 1
  | .nil => 1
  | .ptr d => uptoBulk d + 1
  | .slice elems spare => uptoBulkAll elems + uptoBulkAll spare + 1
  | .agg parts => uptoBulkAll parts + 1
  | .iface _ d => uptoBulk d + 1
  | .map entries => uptoBulkEntries entries + 1
  | .held _ => 1
def uptoBulkAll {H : Type} : List (DataW H) → Nat
  | [] => 0
  | d :: r => uptoBulk d + uptoBulkAll r
def uptoBulkEntries {H : Type} : List (Lit × DataW H) → Nat
  | [] => 0
  | x :: r => uptoBulkEntry x + uptoBulkEntries r
def uptoBulkEntry {H : Type} : Lit × DataW H → Nat
  | (.string bytes, d) => bytes.length + uptoBulk d + 1
  | (_, d) => uptoBulk d + 1
 end
def uptoSmall : (H : Type) → List (DataW H) → Bool := fun _ ds => decide (uptoBulkAll ds ≤ 1048576)
def OpenSpec.upto (s : _root_.Go.ChangeSpec) : _root_.Go.OpenSpec := { _root_.Go.OpenSpec.ofChange s with cond := some uptoSmall }

/-- 'laws.FnExactDiagramOk', WHERE WHAT IT READS IS OF BULK AT MOST 1048576: true; the input reads as it did. -/
def fnExactDiagramOkUptoRow : OpenClaim := { program := "ytghkpmafocacoaa", sum := "570022502ebc938cccfacf7884ef4e5a6868708212be9c5b6afb91464f401330", func := "loop.example/wholechance/laws.FnExactDiagramOk", spec := "fnExactDiagramOk", apart := false, narrowed := true }
def FnExactDiagramOkUptoSaid : Prop := fnExactDiagramOkUptoRow.holds Try.pinned (OpenSpec.upto fnExactDiagramOkSpec)

/-- 'laws.FnExactDiagramAt', WHERE WHAT IT READS IS OF BULK AT MOST 1048576: true; the input reads as it did. -/
def fnExactDiagramAtUptoRow : OpenClaim := { program := "ytghkpmafocacoaa", sum := "570022502ebc938cccfacf7884ef4e5a6868708212be9c5b6afb91464f401330", func := "loop.example/wholechance/laws.FnExactDiagramAt", spec := "fnExactDiagramAt", apart := false, narrowed := true }
def FnExactDiagramAtUptoSaid : Prop := fnExactDiagramAtUptoRow.holds Try.pinned (OpenSpec.upto fnExactDiagramAtSpec)

/-- 'laws.FnExactDiagramList', WHERE WHAT IT READS IS OF BULK AT MOST 1048576: true; the input reads as it did. -/
def fnExactDiagramListUptoRow : OpenClaim := { program := "ytghkpmafocacoaa", sum := "570022502ebc938cccfacf7884ef4e5a6868708212be9c5b6afb91464f401330", func := "loop.example/wholechance/laws.FnExactDiagramList", spec := "fnExactDiagramList", apart := false, narrowed := true }
def FnExactDiagramListUptoSaid : Prop := fnExactDiagramListUptoRow.holds Try.pinned (OpenSpec.upto fnExactDiagramListSpec)

/-- 'laws.FnExactDiagramOf', WHERE WHAT IT READS IS OF BULK AT MOST 1048576: true; the input reads as it did. -/
def fnExactDiagramOfUptoRow : OpenClaim := { program := "ytghkpmafocacoaa", sum := "570022502ebc938cccfacf7884ef4e5a6868708212be9c5b6afb91464f401330", func := "loop.example/wholechance/laws.FnExactDiagramOf", spec := "fnExactDiagramOf", recurses := true, apart := false, narrowed := true }
def FnExactDiagramOfUptoSaid : Prop := fnExactDiagramOfUptoRow.holds Try.pinned (OpenSpec.upto fnExactDiagramOfSpec)

/-- 'laws.FnExactLeast', WHERE WHAT IT READS IS OF BULK AT MOST 1048576: true; the input reads as it did. -/
def fnExactLeastUptoRow : OpenClaim := { program := "ytghkpmafocacoaa", sum := "570022502ebc938cccfacf7884ef4e5a6868708212be9c5b6afb91464f401330", func := "loop.example/wholechance/laws.FnExactLeast", spec := "fnExactLeast", recurses := true, apart := false, narrowed := true }
def FnExactLeastUptoSaid : Prop := fnExactLeastUptoRow.holds Try.pinned (OpenSpec.upto fnExactLeastSpec)

/-- 'laws.FnExactDiagramSum', WHERE WHAT IT READS IS OF BULK AT MOST 1048576: true; the input reads as it did. -/
def fnExactDiagramSumUptoRow : OpenClaim := { program := "ytghkpmafocacoaa", sum := "570022502ebc938cccfacf7884ef4e5a6868708212be9c5b6afb91464f401330", func := "loop.example/wholechance/laws.FnExactDiagramSum", spec := "fnExactDiagramSum", apart := false, narrowed := true }
def FnExactDiagramSumUptoSaid : Prop := fnExactDiagramSumUptoRow.holds Try.pinned (OpenSpec.upto fnExactDiagramSumSpec)

/-- 'laws.FnExactDiagramTimes', WHERE WHAT IT READS IS OF BULK AT MOST 1048576: true; the input reads as it did. -/
def fnExactDiagramTimesUptoRow : OpenClaim := { program := "ytghkpmafocacoaa", sum := "570022502ebc938cccfacf7884ef4e5a6868708212be9c5b6afb91464f401330", func := "loop.example/wholechance/laws.FnExactDiagramTimes", spec := "fnExactDiagramTimes", recurses := true, apart := false, narrowed := true }
def FnExactDiagramTimesUptoSaid : Prop := fnExactDiagramTimesUptoRow.holds Try.pinned (OpenSpec.upto fnExactDiagramTimesSpec)

/-- 'laws.FnExactCellSums', WHERE WHAT IT READS IS OF BULK AT MOST 1048576: true; the input reads as it did. -/
def fnExactCellSumsUptoRow : OpenClaim := { program := "ytghkpmafocacoaa", sum := "570022502ebc938cccfacf7884ef4e5a6868708212be9c5b6afb91464f401330", func := "loop.example/wholechance/laws.FnExactCellSums", spec := "fnExactCellSums", apart := false, narrowed := true }
def FnExactCellSumsUptoSaid : Prop := fnExactCellSumsUptoRow.holds Try.pinned (OpenSpec.upto fnExactCellSumsSpec)

/-- 'laws.FnDiagramOf', WHERE WHAT IT READS IS OF BULK AT MOST 1048576: true; the input reads as it did. -/
def fnDiagramOfUptoRow : OpenClaim := { program := "ytghkpmafocacoaa", sum := "570022502ebc938cccfacf7884ef4e5a6868708212be9c5b6afb91464f401330", func := "loop.example/wholechance/laws.FnDiagramOf", spec := "fnDiagramOf", recurses := true, apart := false, narrowed := true }
def FnDiagramOfUptoSaid : Prop := fnDiagramOfUptoRow.holds Try.pinned (OpenSpec.upto fnDiagramOfSpec)

/-- 'laws.FnMessages', WHERE WHAT IT READS IS OF BULK AT MOST 1048576: true; the input reads as it did. -/
def fnMessagesUptoRow : OpenClaim := { program := "ytghkpmafocacoaa", sum := "570022502ebc938cccfacf7884ef4e5a6868708212be9c5b6afb91464f401330", func := "loop.example/wholechance/laws.FnMessages", spec := "fnMessages", recurses := true, apart := false, narrowed := true }
def FnMessagesUptoSaid : Prop := fnMessagesUptoRow.holds Try.pinned (OpenSpec.upto fnMessagesSpec)

/-- 'laws.FnBeliefs', WHERE WHAT IT READS IS OF BULK AT MOST 1048576: true; the input reads as it did. -/
def fnBeliefsUptoRow : OpenClaim := { program := "ytghkpmafocacoaa", sum := "570022502ebc938cccfacf7884ef4e5a6868708212be9c5b6afb91464f401330", func := "loop.example/wholechance/laws.FnBeliefs", spec := "fnBeliefs", recurses := true, apart := false, narrowed := true }
def FnBeliefsUptoSaid : Prop := fnBeliefsUptoRow.holds Try.pinned (OpenSpec.upto fnBeliefsSpec)

/-- 'laws.FnFactorsOf', WHERE WHAT IT READS IS OF BULK AT MOST 1048576: true; the input reads as it did. -/
def fnFactorsOfUptoRow : OpenClaim := { program := "ytghkpmafocacoaa", sum := "570022502ebc938cccfacf7884ef4e5a6868708212be9c5b6afb91464f401330", func := "loop.example/wholechance/laws.FnFactorsOf", spec := "fnFactorsOf", apart := false, narrowed := true }
def FnFactorsOfUptoSaid : Prop := fnFactorsOfUptoRow.holds Try.pinned (OpenSpec.upto fnFactorsOfSpec)

end Rows
end Go.Proofs.Ytghkpmafocacoaa
