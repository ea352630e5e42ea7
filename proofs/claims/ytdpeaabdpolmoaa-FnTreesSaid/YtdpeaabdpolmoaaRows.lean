/-
  No cell of these rows narrows 'for every input' (looked for: loops, veiled, ifaces, maps, wideKeys, modest, calm, conditions, laid).
  DERIVED. THE GIVEN ROWS OF THIS SEAT. 12 by the template 'for every input the law returns true; each argument reads behind the call as it read before'; 0 by the template 'total and deterministic' (their statements: YtdpeaabdpolmoaaTotals.lean).
  GIVEN WITH THE SEED: the statements are not yours to turn. If you find one false, say at which input.
  Laid BY PROGRAM, IN A SANDBOX (cutbox-rows.mjs): the forced cells as the released guide's own fill.sh prints them over the translation 827fac5aae2d3adf… (all of the seat's roots in one cut). By AI agents, Wed Nov 11 2026. No macro, syntax, notation, axiom, sorry.
-/
import Derived.Test.YtdpeaabdpolmoaaChecked
import GoSem.Claim
import GoSem.ClaimJoined
import GoSem.ClaimMapViews
import Derived.JoinedTies
import Derived.KernelRfl
namespace Go.Proofs.Ytdpeaabdpolmoaa
/- THE CELL 'sum', in the pinned program and in every row, IS THE sha256 OF THE DUMP (.gsa) THAT YtdpeaabdpolmoaaProg.lean LOADS. Nothing in Lean hashes anything: it is a label: what it is worth is what the hold of that sum in a sandbox is worth. -/
noncomputable def Try.pinned : Pinned := { name := "ytdpeaabdpolmoaa", sum := "827fac5aae2d3adfa78aada76057225017c3032597e67b03b2843d0cd6b9c8f0", checked := Try.checked }
namespace Rows
def none {H : Type} : Left H := { results := [], args := [] }

/-- 'laws.FnExactTreeOk': WHATEVER THE INPUT: true; the input reads as it did. -/
def fnExactTreeOkSpec : ChangeSpec := { name := "fnExactTreeOk", fn := fun _ => fun
  | [d] => { results := [.lit (.bool true)], args := [d] }
  | _ => none }
def fnExactTreeOkRow : OpenClaim := { program := "ytdpeaabdpolmoaa", sum := "827fac5aae2d3adfa78aada76057225017c3032597e67b03b2843d0cd6b9c8f0", func := "loop.example/wholechance/laws.FnExactTreeOk", spec := "fnExactTreeOk", apart := false }
def FnExactTreeOkSaid : Prop := fnExactTreeOkRow.holds Try.pinned (OpenSpec.ofChange fnExactTreeOkSpec)

/-- ITS FALSE NEIGHBOUR: 'it returns false'. Refute it at one input. -/
def fnExactTreeOkWrong : ChangeSpec := { name := "fnExactTreeOk", fn := fun _ => fun
  | [d] => { results := [.lit (.bool false)], args := [d] }
  | _ => none }
def FnExactTreeOkWrongFalsely : Prop := fnExactTreeOkRow.holds Try.pinned (OpenSpec.ofChange fnExactTreeOkWrong)

/-- 'laws.FnExactNextTo': WHATEVER THE INPUT: true; the input reads as it did. -/
def fnExactNextToSpec : ChangeSpec := { name := "fnExactNextTo", fn := fun _ => fun
  | [d1, d2] => { results := [.lit (.bool true)], args := [d1, d2] }
  | _ => none }
def fnExactNextToRow : OpenClaim := { program := "ytdpeaabdpolmoaa", sum := "827fac5aae2d3adfa78aada76057225017c3032597e67b03b2843d0cd6b9c8f0", func := "loop.example/wholechance/laws.FnExactNextTo", spec := "fnExactNextTo", apart := false }
def FnExactNextToSaid : Prop := fnExactNextToRow.holds Try.pinned (OpenSpec.ofChange fnExactNextToSpec)

/-- ITS FALSE NEIGHBOUR: 'it returns false'. Refute it at one input. -/
def fnExactNextToWrong : ChangeSpec := { name := "fnExactNextTo", fn := fun _ => fun
  | [d1, d2] => { results := [.lit (.bool false)], args := [d1, d2] }
  | _ => none }
def FnExactNextToWrongFalsely : Prop := fnExactNextToRow.holds Try.pinned (OpenSpec.ofChange fnExactNextToWrong)

/-- 'laws.FnExactOwnOf': WHATEVER THE INPUT: true; the input reads as it did. -/
def fnExactOwnOfSpec : ChangeSpec := { name := "fnExactOwnOf", fn := fun _ => fun
  | [d1, d2] => { results := [.lit (.bool true)], args := [d1, d2] }
  | _ => none }
def fnExactOwnOfRow : OpenClaim := { program := "ytdpeaabdpolmoaa", sum := "827fac5aae2d3adfa78aada76057225017c3032597e67b03b2843d0cd6b9c8f0", func := "loop.example/wholechance/laws.FnExactOwnOf", spec := "fnExactOwnOf", apart := false }
def FnExactOwnOfSaid : Prop := fnExactOwnOfRow.holds Try.pinned (OpenSpec.ofChange fnExactOwnOfSpec)

/-- ITS FALSE NEIGHBOUR: 'it returns false'. Refute it at one input. -/
def fnExactOwnOfWrong : ChangeSpec := { name := "fnExactOwnOf", fn := fun _ => fun
  | [d1, d2] => { results := [.lit (.bool false)], args := [d1, d2] }
  | _ => none }
def FnExactOwnOfWrongFalsely : Prop := fnExactOwnOfRow.holds Try.pinned (OpenSpec.ofChange fnExactOwnOfWrong)

/-- 'laws.FnExactMessageOf': WHATEVER THE INPUT: true; the input reads as it did. -/
def fnExactMessageOfSpec : ChangeSpec := { name := "fnExactMessageOf", fn := fun _ => fun
  | [d1, d2, d3] => { results := [.lit (.bool true)], args := [d1, d2, d3] }
  | _ => none }
def fnExactMessageOfRow : OpenClaim := { program := "ytdpeaabdpolmoaa", sum := "827fac5aae2d3adfa78aada76057225017c3032597e67b03b2843d0cd6b9c8f0", func := "loop.example/wholechance/laws.FnExactMessageOf", spec := "fnExactMessageOf", recurses := true, apart := false }
def FnExactMessageOfSaid : Prop := fnExactMessageOfRow.holds Try.pinned (OpenSpec.ofChange fnExactMessageOfSpec)

/-- ITS FALSE NEIGHBOUR: 'it returns false'. Refute it at one input. -/
def fnExactMessageOfWrong : ChangeSpec := { name := "fnExactMessageOf", fn := fun _ => fun
  | [d1, d2, d3] => { results := [.lit (.bool false)], args := [d1, d2, d3] }
  | _ => none }
def FnExactMessageOfWrongFalsely : Prop := fnExactMessageOfRow.holds Try.pinned (OpenSpec.ofChange fnExactMessageOfWrong)

/-- 'laws.FnExactBeliefOf': WHATEVER THE INPUT: true; the input reads as it did. -/
def fnExactBeliefOfSpec : ChangeSpec := { name := "fnExactBeliefOf", fn := fun _ => fun
  | [d1, d2] => { results := [.lit (.bool true)], args := [d1, d2] }
  | _ => none }
def fnExactBeliefOfRow : OpenClaim := { program := "ytdpeaabdpolmoaa", sum := "827fac5aae2d3adfa78aada76057225017c3032597e67b03b2843d0cd6b9c8f0", func := "loop.example/wholechance/laws.FnExactBeliefOf", spec := "fnExactBeliefOf", recurses := true, apart := false }
def FnExactBeliefOfSaid : Prop := fnExactBeliefOfRow.holds Try.pinned (OpenSpec.ofChange fnExactBeliefOfSpec)

/-- ITS FALSE NEIGHBOUR: 'it returns false'. Refute it at one input. -/
def fnExactBeliefOfWrong : ChangeSpec := { name := "fnExactBeliefOf", fn := fun _ => fun
  | [d1, d2] => { results := [.lit (.bool false)], args := [d1, d2] }
  | _ => none }
def FnExactBeliefOfWrongFalsely : Prop := fnExactBeliefOfRow.holds Try.pinned (OpenSpec.ofChange fnExactBeliefOfWrong)

/-- 'laws.FnExactTreesOf': WHATEVER THE INPUT: true; the input reads as it did. -/
def fnExactTreesOfSpec : ChangeSpec := { name := "fnExactTreesOf", fn := fun _ => fun
  | [d] => { results := [.lit (.bool true)], args := [d] }
  | _ => none }
def fnExactTreesOfRow : OpenClaim := { program := "ytdpeaabdpolmoaa", sum := "827fac5aae2d3adfa78aada76057225017c3032597e67b03b2843d0cd6b9c8f0", func := "loop.example/wholechance/laws.FnExactTreesOf", spec := "fnExactTreesOf", apart := false }
def FnExactTreesOfSaid : Prop := fnExactTreesOfRow.holds Try.pinned (OpenSpec.ofChange fnExactTreesOfSpec)

/-- ITS FALSE NEIGHBOUR: 'it returns false'. Refute it at one input. -/
def fnExactTreesOfWrong : ChangeSpec := { name := "fnExactTreesOf", fn := fun _ => fun
  | [d] => { results := [.lit (.bool false)], args := [d] }
  | _ => none }
def FnExactTreesOfWrongFalsely : Prop := fnExactTreesOfRow.holds Try.pinned (OpenSpec.ofChange fnExactTreesOfWrong)

/-- 'laws.FnMessages': WHATEVER THE INPUT: true; the input reads as it did. -/
def fnMessagesSpec : ChangeSpec := { name := "fnMessages", fn := fun _ => fun
  | [d] => { results := [.lit (.bool true)], args := [d] }
  | _ => none }
def fnMessagesRow : OpenClaim := { program := "ytdpeaabdpolmoaa", sum := "827fac5aae2d3adfa78aada76057225017c3032597e67b03b2843d0cd6b9c8f0", func := "loop.example/wholechance/laws.FnMessages", spec := "fnMessages", recurses := true, apart := false }
def FnMessagesSaid : Prop := fnMessagesRow.holds Try.pinned (OpenSpec.ofChange fnMessagesSpec)

/-- ITS FALSE NEIGHBOUR: 'it returns false'. Refute it at one input. -/
def fnMessagesWrong : ChangeSpec := { name := "fnMessages", fn := fun _ => fun
  | [d] => { results := [.lit (.bool false)], args := [d] }
  | _ => none }
def FnMessagesWrongFalsely : Prop := fnMessagesRow.holds Try.pinned (OpenSpec.ofChange fnMessagesWrong)

/-- 'laws.FnTrees': WHATEVER THE INPUT: true; the input reads as it did. -/
def fnTreesSpec : ChangeSpec := { name := "fnTrees", fn := fun _ => fun
  | [d] => { results := [.lit (.bool true)], args := [d] }
  | _ => none }
def fnTreesRow : OpenClaim := { program := "ytdpeaabdpolmoaa", sum := "827fac5aae2d3adfa78aada76057225017c3032597e67b03b2843d0cd6b9c8f0", func := "loop.example/wholechance/laws.FnTrees", spec := "fnTrees", apart := false }
def FnTreesSaid : Prop := fnTreesRow.holds Try.pinned (OpenSpec.ofChange fnTreesSpec)

/-- ITS FALSE NEIGHBOUR: 'it returns false'. Refute it at one input. -/
def fnTreesWrong : ChangeSpec := { name := "fnTrees", fn := fun _ => fun
  | [d] => { results := [.lit (.bool false)], args := [d] }
  | _ => none }
def FnTreesWrongFalsely : Prop := fnTreesRow.holds Try.pinned (OpenSpec.ofChange fnTreesWrong)

/-- 'laws.FnBeliefs': WHATEVER THE INPUT: true; the input reads as it did. -/
def fnBeliefsSpec : ChangeSpec := { name := "fnBeliefs", fn := fun _ => fun
  | [d] => { results := [.lit (.bool true)], args := [d] }
  | _ => none }
def fnBeliefsRow : OpenClaim := { program := "ytdpeaabdpolmoaa", sum := "827fac5aae2d3adfa78aada76057225017c3032597e67b03b2843d0cd6b9c8f0", func := "loop.example/wholechance/laws.FnBeliefs", spec := "fnBeliefs", recurses := true, apart := false }
def FnBeliefsSaid : Prop := fnBeliefsRow.holds Try.pinned (OpenSpec.ofChange fnBeliefsSpec)

/-- ITS FALSE NEIGHBOUR: 'it returns false'. Refute it at one input. -/
def fnBeliefsWrong : ChangeSpec := { name := "fnBeliefs", fn := fun _ => fun
  | [d] => { results := [.lit (.bool false)], args := [d] }
  | _ => none }
def FnBeliefsWrongFalsely : Prop := fnBeliefsRow.holds Try.pinned (OpenSpec.ofChange fnBeliefsWrong)

/-- 'laws.FnFactorsOf': WHATEVER THE INPUT: true; the input reads as it did. -/
def fnFactorsOfSpec : ChangeSpec := { name := "fnFactorsOf", fn := fun _ => fun
  | [d] => { results := [.lit (.bool true)], args := [d] }
  | _ => none }
def fnFactorsOfRow : OpenClaim := { program := "ytdpeaabdpolmoaa", sum := "827fac5aae2d3adfa78aada76057225017c3032597e67b03b2843d0cd6b9c8f0", func := "loop.example/wholechance/laws.FnFactorsOf", spec := "fnFactorsOf", apart := false }
def FnFactorsOfSaid : Prop := fnFactorsOfRow.holds Try.pinned (OpenSpec.ofChange fnFactorsOfSpec)

/-- ITS FALSE NEIGHBOUR: 'it returns false'. Refute it at one input. -/
def fnFactorsOfWrong : ChangeSpec := { name := "fnFactorsOf", fn := fun _ => fun
  | [d] => { results := [.lit (.bool false)], args := [d] }
  | _ => none }
def FnFactorsOfWrongFalsely : Prop := fnFactorsOfRow.holds Try.pinned (OpenSpec.ofChange fnFactorsOfWrong)

/-- 'laws.FnExactSumOut': WHATEVER THE INPUT: true; the input reads as it did. -/
def fnExactSumOutSpec : ChangeSpec := { name := "fnExactSumOut", fn := fun _ => fun
  | [d1, d2] => { results := [.lit (.bool true)], args := [d1, d2] }
  | _ => none }
def fnExactSumOutRow : OpenClaim := { program := "ytdpeaabdpolmoaa", sum := "827fac5aae2d3adfa78aada76057225017c3032597e67b03b2843d0cd6b9c8f0", func := "loop.example/wholechance/laws.FnExactSumOut", spec := "fnExactSumOut", apart := false }
def FnExactSumOutSaid : Prop := fnExactSumOutRow.holds Try.pinned (OpenSpec.ofChange fnExactSumOutSpec)

/-- ITS FALSE NEIGHBOUR: 'it returns false'. Refute it at one input. -/
def fnExactSumOutWrong : ChangeSpec := { name := "fnExactSumOut", fn := fun _ => fun
  | [d1, d2] => { results := [.lit (.bool false)], args := [d1, d2] }
  | _ => none }
def FnExactSumOutWrongFalsely : Prop := fnExactSumOutRow.holds Try.pinned (OpenSpec.ofChange fnExactSumOutWrong)

/-- 'laws.FnApart': WHATEVER THE INPUT: true; the input reads as it did. -/
def fnApartSpec : ChangeSpec := { name := "fnApart", fn := fun _ => fun
  | [d] => { results := [.lit (.bool true)], args := [d] }
  | _ => none }
def fnApartRow : OpenClaim := { program := "ytdpeaabdpolmoaa", sum := "827fac5aae2d3adfa78aada76057225017c3032597e67b03b2843d0cd6b9c8f0", func := "loop.example/wholechance/laws.FnApart", spec := "fnApart", apart := false }
def FnApartSaid : Prop := fnApartRow.holds Try.pinned (OpenSpec.ofChange fnApartSpec)

/-- ITS FALSE NEIGHBOUR: 'it returns false'. Refute it at one input. -/
def fnApartWrong : ChangeSpec := { name := "fnApart", fn := fun _ => fun
  | [d] => { results := [.lit (.bool false)], args := [d] }
  | _ => none }
def FnApartWrongFalsely : Prop := fnApartRow.holds Try.pinned (OpenSpec.ofChange fnApartWrong)

/- THE SECOND FORM. 'bulk': how many values and letters a reading holds, each counted each time it is reached (what is shared counts as often as it is met; a slice's spare places count too). A statement '..UptoSaid' is the law's where the arguments, and the package variables that the reading takes, are together of bulk at most 1048576: NARROWER than '..Said'. Prove '..Said' where nothing that the law and all that it calls make is longer than what came in: it says more and counts as full. Else prove '..UptoSaid'. A law counts once. -/
mutual
def uptoBulk {H : Type} : DataW H → Nat
  | .lit (.string bytes) => bytes.length + 1
  | .lit _ => 1
  | .nil => 1
  | .ptr d => uptoBulk d + 1
  | .slice elems spare => uptoBulkAll elems + uptoBulkAll spare + 1
  | .agg parts => uptoBulkAll parts + 1
  | .iface _ d => uptoBulk d + 1
  | .map entries => uptoBulkEntries entries + 1
  | .held _ => 1
def uptoBulkAll {H : Type} : List (DataW H) → Nat
  | [] => 0
  | d :: r => uptoBulk d + uptoBulkAll r
def uptoBulkEntries {H : Type} : List (Lit × DataW H) → Nat
  | [] => 0
  | x :: r => uptoBulkEntry x + uptoBulkEntries r
def uptoBulkEntry {H : Type} : Lit × DataW H → Nat
  | (.string bytes, d) => bytes.length + uptoBulk d + 1
  | (_, d) => uptoBulk d + 1
 end
def uptoSmall : (H : Type) → List (DataW H) → Bool := fun _ ds => decide (uptoBulkAll ds ≤ 1048576)
def OpenSpec.upto (s : _root_.Go.ChangeSpec) : _root_.Go.OpenSpec := { _root_.Go.OpenSpec.ofChange s with cond := some uptoSmall }

/-- 'laws.FnExactTreeOk', WHERE WHAT IT READS IS OF BULK AT MOST 1048576: true; the input reads as it did. -/
def fnExactTreeOkUptoRow : OpenClaim := { program := "ytdpeaabdpolmoaa", sum := "827fac5aae2d3adfa78aada76057225017c3032597e67b03b2843d0cd6b9c8f0", func := "loop.example/wholechance/laws.FnExactTreeOk", spec := "fnExactTreeOk", apart := false, narrowed := true }
def FnExactTreeOkUptoSaid : Prop := fnExactTreeOkUptoRow.holds Try.pinned (OpenSpec.upto fnExactTreeOkSpec)

/-- 'laws.FnExactNextTo', WHERE WHAT IT READS IS OF BULK AT MOST 1048576: true; the input reads as it did. -/
def fnExactNextToUptoRow : OpenClaim := { program := "ytdpeaabdpolmoaa", sum := "827fac5aae2d3adfa78aada76057225017c3032597e67b03b2843d0cd6b9c8f0", func := "loop.example/wholechance/laws.FnExactNextTo", spec := "fnExactNextTo", apart := false, narrowed := true }
def FnExactNextToUptoSaid : Prop := fnExactNextToUptoRow.holds Try.pinned (OpenSpec.upto fnExactNextToSpec)

/-- 'laws.FnExactOwnOf', WHERE WHAT IT READS IS OF BULK AT MOST 1048576: true; the input reads as it did. -/
def fnExactOwnOfUptoRow : OpenClaim := { program := "ytdpeaabdpolmoaa", sum := "827fac5aae2d3adfa78aada76057225017c3032597e67b03b2843d0cd6b9c8f0", func := "loop.example/wholechance/laws.FnExactOwnOf", spec := "fnExactOwnOf", apart := false, narrowed := true }
def FnExactOwnOfUptoSaid : Prop := fnExactOwnOfUptoRow.holds Try.pinned (OpenSpec.upto fnExactOwnOfSpec)

/-- 'laws.FnExactMessageOf', WHERE WHAT IT READS IS OF BULK AT MOST 1048576: true; the input reads as it did. -/
def fnExactMessageOfUptoRow : OpenClaim := { program := "ytdpeaabdpolmoaa", sum := "827fac5aae2d3adfa78aada76057225017c3032597e67b03b2843d0cd6b9c8f0", func := "loop.example/wholechance/laws.FnExactMessageOf", spec := "fnExactMessageOf", recurses := true, apart := false, narrowed := true }
def FnExactMessageOfUptoSaid : Prop := fnExactMessageOfUptoRow.holds Try.pinned (OpenSpec.upto fnExactMessageOfSpec)

/-- 'laws.FnExactBeliefOf', WHERE WHAT IT READS IS OF BULK AT MOST 1048576: true; the input reads as it did. -/
def fnExactBeliefOfUptoRow : OpenClaim := { program := "ytdpeaabdpolmoaa", sum := "827fac5aae2d3adfa78aada76057225017c3032597e67b03b2843d0cd6b9c8f0", func := "loop.example/wholechance/laws.FnExactBeliefOf", spec := "fnExactBeliefOf", recurses := true, apart := false, narrowed := true }
def FnExactBeliefOfUptoSaid : Prop := fnExactBeliefOfUptoRow.holds Try.pinned (OpenSpec.upto fnExactBeliefOfSpec)

/-- 'laws.FnExactTreesOf', WHERE WHAT IT READS IS OF BULK AT MOST 1048576: true; the input reads as it did. -/
def fnExactTreesOfUptoRow : OpenClaim := { program := "ytdpeaabdpolmoaa", sum := "827fac5aae2d3adfa78aada76057225017c3032597e67b03b2843d0cd6b9c8f0", func := "loop.example/wholechance/laws.FnExactTreesOf", spec := "fnExactTreesOf", apart := false, narrowed := true }
def FnExactTreesOfUptoSaid : Prop := fnExactTreesOfUptoRow.holds Try.pinned (OpenSpec.upto fnExactTreesOfSpec)

/-- 'laws.FnMessages', WHERE WHAT IT READS IS OF BULK AT MOST 1048576: true; the input reads as it did. -/
def fnMessagesUptoRow : OpenClaim := { program := "ytdpeaabdpolmoaa", sum := "827fac5aae2d3adfa78aada76057225017c3032597e67b03b2843d0cd6b9c8f0", func := "loop.example/wholechance/laws.FnMessages", spec := "fnMessages", recurses := true, apart := false, narrowed := true }
def FnMessagesUptoSaid : Prop := fnMessagesUptoRow.holds Try.pinned (OpenSpec.upto fnMessagesSpec)

/-- 'laws.FnTrees', WHERE WHAT IT READS IS OF BULK AT MOST 1048576: true; the input reads as it did. -/
def fnTreesUptoRow : OpenClaim := { program := "ytdpeaabdpolmoaa", sum := "827fac5aae2d3adfa78aada76057225017c3032597e67b03b2843d0cd6b9c8f0", func := "loop.example/wholechance/laws.FnTrees", spec := "fnTrees", apart := false, narrowed := true }
def FnTreesUptoSaid : Prop := fnTreesUptoRow.holds Try.pinned (OpenSpec.upto fnTreesSpec)

/-- 'laws.FnBeliefs', WHERE WHAT IT READS IS OF BULK AT MOST 1048576: true; the input reads as it did. -/
def fnBeliefsUptoRow : OpenClaim := { program := "ytdpeaabdpolmoaa", sum := "827fac5aae2d3adfa78aada76057225017c3032597e67b03b2843d0cd6b9c8f0", func := "loop.example/wholechance/laws.FnBeliefs", spec := "fnBeliefs", recurses := true, apart := false, narrowed := true }
def FnBeliefsUptoSaid : Prop := fnBeliefsUptoRow.holds Try.pinned (OpenSpec.upto fnBeliefsSpec)

/-- 'laws.FnFactorsOf', WHERE WHAT IT READS IS OF BULK AT MOST 1048576: true; the input reads as it did. -/
def fnFactorsOfUptoRow : OpenClaim := { program := "ytdpeaabdpolmoaa", sum := "827fac5aae2d3adfa78aada76057225017c3032597e67b03b2843d0cd6b9c8f0", func := "loop.example/wholechance/laws.FnFactorsOf", spec := "fnFactorsOf", apart := false, narrowed := true }
def FnFactorsOfUptoSaid : Prop := fnFactorsOfUptoRow.holds Try.pinned (OpenSpec.upto fnFactorsOfSpec)

/-- 'laws.FnExactSumOut', WHERE WHAT IT READS IS OF BULK AT MOST 1048576: true; the input reads as it did. -/
def fnExactSumOutUptoRow : OpenClaim := { program := "ytdpeaabdpolmoaa", sum := "827fac5aae2d3adfa78aada76057225017c3032597e67b03b2843d0cd6b9c8f0", func := "loop.example/wholechance/laws.FnExactSumOut", spec := "fnExactSumOut", apart := false, narrowed := true }
def FnExactSumOutUptoSaid : Prop := fnExactSumOutUptoRow.holds Try.pinned (OpenSpec.upto fnExactSumOutSpec)

/-- 'laws.FnApart', WHERE WHAT IT READS IS OF BULK AT MOST 1048576: true; the input reads as it did. -/
def fnApartUptoRow : OpenClaim := { program := "ytdpeaabdpolmoaa", sum := "827fac5aae2d3adfa78aada76057225017c3032597e67b03b2843d0cd6b9c8f0", func := "loop.example/wholechance/laws.FnApart", spec := "fnApart", apart := false, narrowed := true }
def FnApartUptoSaid : Prop := fnApartUptoRow.holds Try.pinned (OpenSpec.upto fnApartSpec)

end Rows
end Go.Proofs.Ytdpeaabdpolmoaa
