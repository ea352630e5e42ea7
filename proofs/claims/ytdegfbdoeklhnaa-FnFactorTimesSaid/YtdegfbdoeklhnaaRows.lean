/-
  No cell of these rows narrows 'for every input' (looked for: loops, veiled, ifaces, maps, wideKeys, modest, calm, conditions, laid).
  DERIVED. THE GIVEN ROWS OF THIS SEAT. 12 by the template 'for every input the law returns true; each argument reads behind the call as it read before'; 0 by the template 'total and deterministic' (their statements: YtdegfbdoeklhnaaTotals.lean).
  GIVEN WITH THE SEED: the statements are not yours to turn. If you find one false, say at which input.
  Laid BY PROGRAM, IN A SANDBOX (cutbox-rows.mjs): the forced cells as the released guide's own fill.sh prints them over the translation 14a0219df2481cc5… (all of the seat's roots in one cut). By AI agents, Wed Nov 11 2026. No macro, syntax, notation, axiom, sorry.
-/
import Derived.Test.YtdegfbdoeklhnaaChecked
import GoSem.Claim
import GoSem.ClaimJoined
import GoSem.ClaimMapViews
import Derived.JoinedTies
import Derived.KernelRfl
namespace Go.Proofs.Ytdegfbdoeklhnaa
/- THE CELL 'sum', in the pinned program and in every row, IS THE sha256 OF THE DUMP (.gsa) THAT YtdegfbdoeklhnaaProg.lean LOADS. Nothing in Lean hashes anything: it is a label: what it is worth is what the hold of that sum in a sandbox is worth. -/
noncomputable def Try.pinned : Pinned := { name := "ytdegfbdoeklhnaa", sum := "14a0219df2481cc5a8f8469f9d4bb70a47967c180c18605932dbf9398ff69684", checked := Try.checked }
namespace Rows
def none {H : Type} : Left H := { results := [], args := [] }

/-- 'laws.FnExactFactorOk': WHATEVER THE INPUT: true; the input reads as it did. -/
def fnExactFactorOkSpec : ChangeSpec := { name := "fnExactFactorOk", fn := fun _ => fun
  | [d] => { results := [.lit (.bool true)], args := [d] }
  | _ => none }
def fnExactFactorOkRow : OpenClaim := { program := "ytdegfbdoeklhnaa", sum := "14a0219df2481cc5a8f8469f9d4bb70a47967c180c18605932dbf9398ff69684", func := "loop.example/wholechance/laws.FnExactFactorOk", spec := "fnExactFactorOk", apart := false }
def FnExactFactorOkSaid : Prop := fnExactFactorOkRow.holds Try.pinned (OpenSpec.ofChange fnExactFactorOkSpec)

/-- ITS FALSE NEIGHBOUR: 'it returns false'. Refute it at one input. -/
def fnExactFactorOkWrong : ChangeSpec := { name := "fnExactFactorOk", fn := fun _ => fun
  | [d] => { results := [.lit (.bool false)], args := [d] }
  | _ => none }
def FnExactFactorOkWrongFalsely : Prop := fnExactFactorOkRow.holds Try.pinned (OpenSpec.ofChange fnExactFactorOkWrong)

/-- 'laws.FnExactFactorAt': WHATEVER THE INPUT: true; the input reads as it did. -/
def fnExactFactorAtSpec : ChangeSpec := { name := "fnExactFactorAt", fn := fun _ => fun
  | [d1, d2] => { results := [.lit (.bool true)], args := [d1, d2] }
  | _ => none }
def fnExactFactorAtRow : OpenClaim := { program := "ytdegfbdoeklhnaa", sum := "14a0219df2481cc5a8f8469f9d4bb70a47967c180c18605932dbf9398ff69684", func := "loop.example/wholechance/laws.FnExactFactorAt", spec := "fnExactFactorAt", apart := false }
def FnExactFactorAtSaid : Prop := fnExactFactorAtRow.holds Try.pinned (OpenSpec.ofChange fnExactFactorAtSpec)

/-- ITS FALSE NEIGHBOUR: 'it returns false'. Refute it at one input. -/
def fnExactFactorAtWrong : ChangeSpec := { name := "fnExactFactorAt", fn := fun _ => fun
  | [d1, d2] => { results := [.lit (.bool false)], args := [d1, d2] }
  | _ => none }
def FnExactFactorAtWrongFalsely : Prop := fnExactFactorAtRow.holds Try.pinned (OpenSpec.ofChange fnExactFactorAtWrong)

/-- 'laws.FnExactFactorTimes': WHATEVER THE INPUT: true; the input reads as it did. -/
def fnExactFactorTimesSpec : ChangeSpec := { name := "fnExactFactorTimes", fn := fun _ => fun
  | [d1, d2] => { results := [.lit (.bool true)], args := [d1, d2] }
  | _ => none }
def fnExactFactorTimesRow : OpenClaim := { program := "ytdegfbdoeklhnaa", sum := "14a0219df2481cc5a8f8469f9d4bb70a47967c180c18605932dbf9398ff69684", func := "loop.example/wholechance/laws.FnExactFactorTimes", spec := "fnExactFactorTimes", apart := false }
def FnExactFactorTimesSaid : Prop := fnExactFactorTimesRow.holds Try.pinned (OpenSpec.ofChange fnExactFactorTimesSpec)

/-- ITS FALSE NEIGHBOUR: 'it returns false'. Refute it at one input. -/
def fnExactFactorTimesWrong : ChangeSpec := { name := "fnExactFactorTimes", fn := fun _ => fun
  | [d1, d2] => { results := [.lit (.bool false)], args := [d1, d2] }
  | _ => none }
def FnExactFactorTimesWrongFalsely : Prop := fnExactFactorTimesRow.holds Try.pinned (OpenSpec.ofChange fnExactFactorTimesWrong)

/-- 'laws.FnExactSumOut': WHATEVER THE INPUT: true; the input reads as it did. -/
def fnExactSumOutSpec : ChangeSpec := { name := "fnExactSumOut", fn := fun _ => fun
  | [d1, d2] => { results := [.lit (.bool true)], args := [d1, d2] }
  | _ => none }
def fnExactSumOutRow : OpenClaim := { program := "ytdegfbdoeklhnaa", sum := "14a0219df2481cc5a8f8469f9d4bb70a47967c180c18605932dbf9398ff69684", func := "loop.example/wholechance/laws.FnExactSumOut", spec := "fnExactSumOut", apart := false }
def FnExactSumOutSaid : Prop := fnExactSumOutRow.holds Try.pinned (OpenSpec.ofChange fnExactSumOutSpec)

/-- ITS FALSE NEIGHBOUR: 'it returns false'. Refute it at one input. -/
def fnExactSumOutWrong : ChangeSpec := { name := "fnExactSumOut", fn := fun _ => fun
  | [d1, d2] => { results := [.lit (.bool false)], args := [d1, d2] }
  | _ => none }
def FnExactSumOutWrongFalsely : Prop := fnExactSumOutRow.holds Try.pinned (OpenSpec.ofChange fnExactSumOutWrong)

/-- 'laws.FnExactSetIn': WHATEVER THE INPUT: true; the input reads as it did. -/
def fnExactSetInSpec : ChangeSpec := { name := "fnExactSetIn", fn := fun _ => fun
  | [d1, d2, d3] => { results := [.lit (.bool true)], args := [d1, d2, d3] }
  | _ => none }
def fnExactSetInRow : OpenClaim := { program := "ytdegfbdoeklhnaa", sum := "14a0219df2481cc5a8f8469f9d4bb70a47967c180c18605932dbf9398ff69684", func := "loop.example/wholechance/laws.FnExactSetIn", spec := "fnExactSetIn", apart := false }
def FnExactSetInSaid : Prop := fnExactSetInRow.holds Try.pinned (OpenSpec.ofChange fnExactSetInSpec)

/-- ITS FALSE NEIGHBOUR: 'it returns false'. Refute it at one input. -/
def fnExactSetInWrong : ChangeSpec := { name := "fnExactSetIn", fn := fun _ => fun
  | [d1, d2, d3] => { results := [.lit (.bool false)], args := [d1, d2, d3] }
  | _ => none }
def FnExactSetInWrongFalsely : Prop := fnExactSetInRow.holds Try.pinned (OpenSpec.ofChange fnExactSetInWrong)

/-- 'laws.FnExactListOfFactors': WHATEVER THE INPUT: true; the input reads as it did. -/
def fnExactListOfFactorsSpec : ChangeSpec := { name := "fnExactListOfFactors", fn := fun _ => fun
  | [d] => { results := [.lit (.bool true)], args := [d] }
  | _ => none }
def fnExactListOfFactorsRow : OpenClaim := { program := "ytdegfbdoeklhnaa", sum := "14a0219df2481cc5a8f8469f9d4bb70a47967c180c18605932dbf9398ff69684", func := "loop.example/wholechance/laws.FnExactListOfFactors", spec := "fnExactListOfFactors", apart := false }
def FnExactListOfFactorsSaid : Prop := fnExactListOfFactorsRow.holds Try.pinned (OpenSpec.ofChange fnExactListOfFactorsSpec)

/-- ITS FALSE NEIGHBOUR: 'it returns false'. Refute it at one input. -/
def fnExactListOfFactorsWrong : ChangeSpec := { name := "fnExactListOfFactors", fn := fun _ => fun
  | [d] => { results := [.lit (.bool false)], args := [d] }
  | _ => none }
def FnExactListOfFactorsWrongFalsely : Prop := fnExactListOfFactorsRow.holds Try.pinned (OpenSpec.ofChange fnExactListOfFactorsWrong)

/-- 'laws.FnExactSingleOk': WHATEVER THE INPUT: true; the input reads as it did. -/
def fnExactSingleOkSpec : ChangeSpec := { name := "fnExactSingleOk", fn := fun _ => fun
  | [d] => { results := [.lit (.bool true)], args := [d] }
  | _ => none }
def fnExactSingleOkRow : OpenClaim := { program := "ytdegfbdoeklhnaa", sum := "14a0219df2481cc5a8f8469f9d4bb70a47967c180c18605932dbf9398ff69684", func := "loop.example/wholechance/laws.FnExactSingleOk", spec := "fnExactSingleOk", apart := false }
def FnExactSingleOkSaid : Prop := fnExactSingleOkRow.holds Try.pinned (OpenSpec.ofChange fnExactSingleOkSpec)

/-- ITS FALSE NEIGHBOUR: 'it returns false'. Refute it at one input. -/
def fnExactSingleOkWrong : ChangeSpec := { name := "fnExactSingleOk", fn := fun _ => fun
  | [d] => { results := [.lit (.bool false)], args := [d] }
  | _ => none }
def FnExactSingleOkWrongFalsely : Prop := fnExactSingleOkRow.holds Try.pinned (OpenSpec.ofChange fnExactSingleOkWrong)

/-- 'laws.FnExactFactorsOf': WHATEVER THE INPUT: true; the input reads as it did. -/
def fnExactFactorsOfSpec : ChangeSpec := { name := "fnExactFactorsOf", fn := fun _ => fun
  | [d] => { results := [.lit (.bool true)], args := [d] }
  | _ => none }
def fnExactFactorsOfRow : OpenClaim := { program := "ytdegfbdoeklhnaa", sum := "14a0219df2481cc5a8f8469f9d4bb70a47967c180c18605932dbf9398ff69684", func := "loop.example/wholechance/laws.FnExactFactorsOf", spec := "fnExactFactorsOf", apart := false }
def FnExactFactorsOfSaid : Prop := fnExactFactorsOfRow.holds Try.pinned (OpenSpec.ofChange fnExactFactorsOfSpec)

/-- ITS FALSE NEIGHBOUR: 'it returns false'. Refute it at one input. -/
def fnExactFactorsOfWrong : ChangeSpec := { name := "fnExactFactorsOf", fn := fun _ => fun
  | [d] => { results := [.lit (.bool false)], args := [d] }
  | _ => none }
def FnExactFactorsOfWrongFalsely : Prop := fnExactFactorsOfRow.holds Try.pinned (OpenSpec.ofChange fnExactFactorsOfWrong)

/-- 'laws.FnFactorTimes': WHATEVER THE INPUT: true; the input reads as it did. -/
def fnFactorTimesSpec : ChangeSpec := { name := "fnFactorTimes", fn := fun _ => fun
  | [d] => { results := [.lit (.bool true)], args := [d] }
  | _ => none }
def fnFactorTimesRow : OpenClaim := { program := "ytdegfbdoeklhnaa", sum := "14a0219df2481cc5a8f8469f9d4bb70a47967c180c18605932dbf9398ff69684", func := "loop.example/wholechance/laws.FnFactorTimes", spec := "fnFactorTimes", apart := false }
def FnFactorTimesSaid : Prop := fnFactorTimesRow.holds Try.pinned (OpenSpec.ofChange fnFactorTimesSpec)

/-- ITS FALSE NEIGHBOUR: 'it returns false'. Refute it at one input. -/
def fnFactorTimesWrong : ChangeSpec := { name := "fnFactorTimes", fn := fun _ => fun
  | [d] => { results := [.lit (.bool false)], args := [d] }
  | _ => none }
def FnFactorTimesWrongFalsely : Prop := fnFactorTimesRow.holds Try.pinned (OpenSpec.ofChange fnFactorTimesWrong)

/-- 'laws.FnSumOut': WHATEVER THE INPUT: true; the input reads as it did. -/
def fnSumOutSpec : ChangeSpec := { name := "fnSumOut", fn := fun _ => fun
  | [d] => { results := [.lit (.bool true)], args := [d] }
  | _ => none }
def fnSumOutRow : OpenClaim := { program := "ytdegfbdoeklhnaa", sum := "14a0219df2481cc5a8f8469f9d4bb70a47967c180c18605932dbf9398ff69684", func := "loop.example/wholechance/laws.FnSumOut", spec := "fnSumOut", apart := false }
def FnSumOutSaid : Prop := fnSumOutRow.holds Try.pinned (OpenSpec.ofChange fnSumOutSpec)

/-- ITS FALSE NEIGHBOUR: 'it returns false'. Refute it at one input. -/
def fnSumOutWrong : ChangeSpec := { name := "fnSumOut", fn := fun _ => fun
  | [d] => { results := [.lit (.bool false)], args := [d] }
  | _ => none }
def FnSumOutWrongFalsely : Prop := fnSumOutRow.holds Try.pinned (OpenSpec.ofChange fnSumOutWrong)

/-- 'laws.FnFactorsOf': WHATEVER THE INPUT: true; the input reads as it did. -/
def fnFactorsOfSpec : ChangeSpec := { name := "fnFactorsOf", fn := fun _ => fun
  | [d] => { results := [.lit (.bool true)], args := [d] }
  | _ => none }
def fnFactorsOfRow : OpenClaim := { program := "ytdegfbdoeklhnaa", sum := "14a0219df2481cc5a8f8469f9d4bb70a47967c180c18605932dbf9398ff69684", func := "loop.example/wholechance/laws.FnFactorsOf", spec := "fnFactorsOf", apart := false }
def FnFactorsOfSaid : Prop := fnFactorsOfRow.holds Try.pinned (OpenSpec.ofChange fnFactorsOfSpec)

/-- ITS FALSE NEIGHBOUR: 'it returns false'. Refute it at one input. -/
def fnFactorsOfWrong : ChangeSpec := { name := "fnFactorsOf", fn := fun _ => fun
  | [d] => { results := [.lit (.bool false)], args := [d] }
  | _ => none }
def FnFactorsOfWrongFalsely : Prop := fnFactorsOfRow.holds Try.pinned (OpenSpec.ofChange fnFactorsOfWrong)

/-- 'laws.FnListOfFactors': WHATEVER THE INPUT: true; the input reads as it did. -/
def fnListOfFactorsSpec : ChangeSpec := { name := "fnListOfFactors", fn := fun _ => fun
  | [d] => { results := [.lit (.bool true)], args := [d] }
  | _ => none }
def fnListOfFactorsRow : OpenClaim := { program := "ytdegfbdoeklhnaa", sum := "14a0219df2481cc5a8f8469f9d4bb70a47967c180c18605932dbf9398ff69684", func := "loop.example/wholechance/laws.FnListOfFactors", spec := "fnListOfFactors", apart := false }
def FnListOfFactorsSaid : Prop := fnListOfFactorsRow.holds Try.pinned (OpenSpec.ofChange fnListOfFactorsSpec)

/-- ITS FALSE NEIGHBOUR: 'it returns false'. Refute it at one input. -/
def fnListOfFactorsWrong : ChangeSpec := { name := "fnListOfFactors", fn := fun _ => fun
  | [d] => { results := [.lit (.bool false)], args := [d] }
  | _ => none }
def FnListOfFactorsWrongFalsely : Prop := fnListOfFactorsRow.holds Try.pinned (OpenSpec.ofChange fnListOfFactorsWrong)

/- THE SECOND FORM. 'bulk': how many values and letters a reading holds, each counted each time it is reached (what is shared counts as often as it is met; a slice's spare places count too). A statement '..UptoSaid' is the law's where the arguments, and the package variables that the reading takes, are together of bulk at most 1048576: NARROWER than '..Said'. Prove '..Said' where nothing that the law and all that it calls make is longer than what came in: it says more and counts as full. Else prove '..UptoSaid'. A law counts once. -/
mutual
def uptoBulk {H : Type} : DataW H → Nat
  | .lit (.string bytes) => bytes.length + 1
  | .lit _ => 1
  | .nil => 1
  | .ptr d => uptoBulk d + 1
  | .slice elems spare => uptoBulkAll elems + uptoBulkAll spare + 1
  | .agg parts => uptoBulkAll parts + 1
  | .iface _ d => uptoBulk d + 1
  | .map entries => uptoBulkEntries entries + 1
  | .held _ => 1
def uptoBulkAll {H : Type} : List (DataW H) → Nat
  | [] => 0
  | d :: r => uptoBulk d + uptoBulkAll r
def uptoBulkEntries {H : Type} : List (Lit × DataW H) → Nat
  | [] => 0
  | x :: r => uptoBulkEntry x + uptoBulkEntries r
def uptoBulkEntry {H : Type} : Lit × DataW H → Nat
  | (.string bytes, d) => bytes.length + uptoBulk d + 1
  | (_, d) => uptoBulk d + 1
 end
def uptoSmall : (H : Type) → List (DataW H) → Bool := fun _ ds => decide (uptoBulkAll ds ≤ 1048576)
def OpenSpec.upto (s : _root_.Go.ChangeSpec) : _root_.Go.OpenSpec := { _root_.Go.OpenSpec.ofChange s with cond := some uptoSmall }

/-- 'laws.FnExactFactorOk', WHERE WHAT IT READS IS OF BULK AT MOST 1048576: true; the input reads as it did. -/
def fnExactFactorOkUptoRow : OpenClaim := { program := "ytdegfbdoeklhnaa", sum := "14a0219df2481cc5a8f8469f9d4bb70a47967c180c18605932dbf9398ff69684", func := "loop.example/wholechance/laws.FnExactFactorOk", spec := "fnExactFactorOk", apart := false, narrowed := true }
def FnExactFactorOkUptoSaid : Prop := fnExactFactorOkUptoRow.holds Try.pinned (OpenSpec.upto fnExactFactorOkSpec)

/-- 'laws.FnExactFactorAt', WHERE WHAT IT READS IS OF BULK AT MOST 1048576: true; the input reads as it did. -/
def fnExactFactorAtUptoRow : OpenClaim := { program := "ytdegfbdoeklhnaa", sum := "14a0219df2481cc5a8f8469f9d4bb70a47967c180c18605932dbf9398ff69684", func := "loop.example/wholechance/laws.FnExactFactorAt", spec := "fnExactFactorAt", apart := false, narrowed := true }
def FnExactFactorAtUptoSaid : Prop := fnExactFactorAtUptoRow.holds Try.pinned (OpenSpec.upto fnExactFactorAtSpec)

/-- 'laws.FnExactFactorTimes', WHERE WHAT IT READS IS OF BULK AT MOST 1048576: true; the input reads as it did. -/
def fnExactFactorTimesUptoRow : OpenClaim := { program := "ytdegfbdoeklhnaa", sum := "14a0219df2481cc5a8f8469f9d4bb70a47967c180c18605932dbf9398ff69684", func := "loop.example/wholechance/laws.FnExactFactorTimes", spec := "fnExactFactorTimes", apart := false, narrowed := true }
def FnExactFactorTimesUptoSaid : Prop := fnExactFactorTimesUptoRow.holds Try.pinned (OpenSpec.upto fnExactFactorTimesSpec)

/-- 'laws.FnExactSumOut', WHERE WHAT IT READS IS OF BULK AT MOST 1048576: true; the input reads as it did. -/
def fnExactSumOutUptoRow : OpenClaim := { program := "ytdegfbdoeklhnaa", sum := "14a0219df2481cc5a8f8469f9d4bb70a47967c180c18605932dbf9398ff69684", func := "loop.example/wholechance/laws.FnExactSumOut", spec := "fnExactSumOut", apart := false, narrowed := true }
def FnExactSumOutUptoSaid : Prop := fnExactSumOutUptoRow.holds Try.pinned (OpenSpec.upto fnExactSumOutSpec)

/-- 'laws.FnExactSetIn', WHERE WHAT IT READS IS OF BULK AT MOST 1048576: true; the input reads as it did. -/
def fnExactSetInUptoRow : OpenClaim := { program := "ytdegfbdoeklhnaa", sum := "14a0219df2481cc5a8f8469f9d4bb70a47967c180c18605932dbf9398ff69684", func := "loop.example/wholechance/laws.FnExactSetIn", spec := "fnExactSetIn", apart := false, narrowed := true }
def FnExactSetInUptoSaid : Prop := fnExactSetInUptoRow.holds Try.pinned (OpenSpec.upto fnExactSetInSpec)

/-- 'laws.FnExactListOfFactors', WHERE WHAT IT READS IS OF BULK AT MOST 1048576: true; the input reads as it did. -/
def fnExactListOfFactorsUptoRow : OpenClaim := { program := "ytdegfbdoeklhnaa", sum := "14a0219df2481cc5a8f8469f9d4bb70a47967c180c18605932dbf9398ff69684", func := "loop.example/wholechance/laws.FnExactListOfFactors", spec := "fnExactListOfFactors", apart := false, narrowed := true }
def FnExactListOfFactorsUptoSaid : Prop := fnExactListOfFactorsUptoRow.holds Try.pinned (OpenSpec.upto fnExactListOfFactorsSpec)

/-- 'laws.FnExactSingleOk', WHERE WHAT IT READS IS OF BULK AT MOST 1048576: true; the input reads as it did. -/
def fnExactSingleOkUptoRow : OpenClaim := { program := "ytdegfbdoeklhnaa", sum := "14a0219df2481cc5a8f8469f9d4bb70a47967c180c18605932dbf9398ff69684", func := "loop.example/wholechance/laws.FnExactSingleOk", spec := "fnExactSingleOk", apart := false, narrowed := true }
def FnExactSingleOkUptoSaid : Prop := fnExactSingleOkUptoRow.holds Try.pinned (OpenSpec.upto fnExactSingleOkSpec)

/-- 'laws.FnExactFactorsOf', WHERE WHAT IT READS IS OF BULK AT MOST 1048576: true; the input reads as it did. -/
def fnExactFactorsOfUptoRow : OpenClaim := { program := "ytdegfbdoeklhnaa", sum := "14a0219df2481cc5a8f8469f9d4bb70a47967c180c18605932dbf9398ff69684", func := "loop.example/wholechance/laws.FnExactFactorsOf", spec := "fnExactFactorsOf", apart := false, narrowed := true }
def FnExactFactorsOfUptoSaid : Prop := fnExactFactorsOfUptoRow.holds Try.pinned (OpenSpec.upto fnExactFactorsOfSpec)

/-- 'laws.FnFactorTimes', WHERE WHAT IT READS IS OF BULK AT MOST 1048576: true; the input reads as it did. -/
def fnFactorTimesUptoRow : OpenClaim := { program := "ytdegfbdoeklhnaa", sum := "14a0219df2481cc5a8f8469f9d4bb70a47967c180c18605932dbf9398ff69684", func := "loop.example/wholechance/laws.FnFactorTimes", spec := "fnFactorTimes", apart := false, narrowed := true }
def FnFactorTimesUptoSaid : Prop := fnFactorTimesUptoRow.holds Try.pinned (OpenSpec.upto fnFactorTimesSpec)

/-- 'laws.FnSumOut', WHERE WHAT IT READS IS OF BULK AT MOST 1048576: true; the input reads as it did. -/
def fnSumOutUptoRow : OpenClaim := { program := "ytdegfbdoeklhnaa", sum := "14a0219df2481cc5a8f8469f9d4bb70a47967c180c18605932dbf9398ff69684", func := "loop.example/wholechance/laws.FnSumOut", spec := "fnSumOut", apart := false, narrowed := true }
def FnSumOutUptoSaid : Prop := fnSumOutUptoRow.holds Try.pinned (OpenSpec.upto fnSumOutSpec)

/-- 'laws.FnFactorsOf', WHERE WHAT IT READS IS OF BULK AT MOST 1048576: true; the input reads as it did. -/
def fnFactorsOfUptoRow : OpenClaim := { program := "ytdegfbdoeklhnaa", sum := "14a0219df2481cc5a8f8469f9d4bb70a47967c180c18605932dbf9398ff69684", func := "loop.example/wholechance/laws.FnFactorsOf", spec := "fnFactorsOf", apart := false, narrowed := true }
def FnFactorsOfUptoSaid : Prop := fnFactorsOfUptoRow.holds Try.pinned (OpenSpec.upto fnFactorsOfSpec)

/-- 'laws.FnListOfFactors', WHERE WHAT IT READS IS OF BULK AT MOST 1048576: true; the input reads as it did. -/
def fnListOfFactorsUptoRow : OpenClaim := { program := "ytdegfbdoeklhnaa", sum := "14a0219df2481cc5a8f8469f9d4bb70a47967c180c18605932dbf9398ff69684", func := "loop.example/wholechance/laws.FnListOfFactors", spec := "fnListOfFactors", apart := false, narrowed := true }
def FnListOfFactorsUptoSaid : Prop := fnListOfFactorsUptoRow.holds Try.pinned (OpenSpec.upto fnListOfFactorsSpec)

end Rows
end Go.Proofs.Ytdegfbdoeklhnaa
