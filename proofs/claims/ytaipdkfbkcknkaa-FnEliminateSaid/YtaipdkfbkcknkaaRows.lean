/-
  No cell of these rows narrows 'for every input' (looked for: loops, veiled, ifaces, maps, wideKeys, modest, calm, conditions, laid).
  DERIVED. THE GIVEN ROWS OF THIS SEAT. 12 by the template 'for every input the law returns true; each argument reads behind the call as it read before'; 0 by the template 'total and deterministic' (their statements: YtaipdkfbkcknkaaTotals.lean).
  GIVEN WITH THE SEED: the statements are not yours to turn. If you find one false, say at which input.
  Laid BY PROGRAM, IN A SANDBOX (cutbox-rows.mjs): the forced cells as the released guide's own fill.sh prints them over the translation 7579c3b4a9701ec3… (all of the seat's roots in one cut). By AI agents, Wed Nov 11 2026. No macro, syntax, notation, axiom, sorry.
-/
import Derived.Test.YtaipdkfbkcknkaaChecked
import GoSem.Claim
import GoSem.ClaimJoined
import GoSem.ClaimMapViews
import Derived.JoinedTies
import Derived.KernelRfl
namespace Go.Proofs.Ytaipdkfbkcknkaa
/- THE CELL 'sum', in the pinned program and in every row, IS THE sha256 OF THE DUMP (.gsa) THAT YtaipdkfbkcknkaaProg.lean LOADS. Nothing in Lean hashes anything: it is a label: what it is worth is what the hold of that sum in a sandbox is worth. -/
noncomputable def Try.pinned : Pinned := { name := "ytaipdkfbkcknkaa", sum := "7579c3b4a9701ec3991e335de0cbf9e439c42bff0c46f7a6e09420143c9a9dc3", checked := Try.checked }
namespace Rows
def none {H : Type} : Left H := { results := [], args := [] }

/-- 'laws.FnExactOrderOk': WHATEVER THE INPUT: true; the input reads as it did. -/
def fnExactOrderOkSpec : ChangeSpec := { name := "fnExactOrderOk", fn := fun _ => fun
  | [d] => { results := [.lit (.bool true)], args := [d] }
  | _ => none }
def fnExactOrderOkRow : OpenClaim := { program := "ytaipdkfbkcknkaa", sum := "7579c3b4a9701ec3991e335de0cbf9e439c42bff0c46f7a6e09420143c9a9dc3", func := "loop.example/wholechance/laws.FnExactOrderOk", spec := "fnExactOrderOk", apart := false }
def FnExactOrderOkSaid : Prop := fnExactOrderOkRow.holds Try.pinned (OpenSpec.ofChange fnExactOrderOkSpec)

/-- ITS FALSE NEIGHBOUR: 'it returns false'. Refute it at one input. -/
def fnExactOrderOkWrong : ChangeSpec := { name := "fnExactOrderOk", fn := fun _ => fun
  | [d] => { results := [.lit (.bool false)], args := [d] }
  | _ => none }
def FnExactOrderOkWrongFalsely : Prop := fnExactOrderOkRow.holds Try.pinned (OpenSpec.ofChange fnExactOrderOkWrong)

/-- 'laws.FnExactEliminateOne': WHATEVER THE INPUT: true; the input reads as it did. -/
def fnExactEliminateOneSpec : ChangeSpec := { name := "fnExactEliminateOne", fn := fun _ => fun
  | [d1, d2] => { results := [.lit (.bool true)], args := [d1, d2] }
  | _ => none }
def fnExactEliminateOneRow : OpenClaim := { program := "ytaipdkfbkcknkaa", sum := "7579c3b4a9701ec3991e335de0cbf9e439c42bff0c46f7a6e09420143c9a9dc3", func := "loop.example/wholechance/laws.FnExactEliminateOne", spec := "fnExactEliminateOne", apart := false }
def FnExactEliminateOneSaid : Prop := fnExactEliminateOneRow.holds Try.pinned (OpenSpec.ofChange fnExactEliminateOneSpec)

/-- ITS FALSE NEIGHBOUR: 'it returns false'. Refute it at one input. -/
def fnExactEliminateOneWrong : ChangeSpec := { name := "fnExactEliminateOne", fn := fun _ => fun
  | [d1, d2] => { results := [.lit (.bool false)], args := [d1, d2] }
  | _ => none }
def FnExactEliminateOneWrongFalsely : Prop := fnExactEliminateOneRow.holds Try.pinned (OpenSpec.ofChange fnExactEliminateOneWrong)

/-- 'laws.FnExactEliminate': WHATEVER THE INPUT: true; the input reads as it did. -/
def fnExactEliminateSpec : ChangeSpec := { name := "fnExactEliminate", fn := fun _ => fun
  | [d1, d2] => { results := [.lit (.bool true)], args := [d1, d2] }
  | _ => none }
def fnExactEliminateRow : OpenClaim := { program := "ytaipdkfbkcknkaa", sum := "7579c3b4a9701ec3991e335de0cbf9e439c42bff0c46f7a6e09420143c9a9dc3", func := "loop.example/wholechance/laws.FnExactEliminate", spec := "fnExactEliminate", apart := false }
def FnExactEliminateSaid : Prop := fnExactEliminateRow.holds Try.pinned (OpenSpec.ofChange fnExactEliminateSpec)

/-- ITS FALSE NEIGHBOUR: 'it returns false'. Refute it at one input. -/
def fnExactEliminateWrong : ChangeSpec := { name := "fnExactEliminate", fn := fun _ => fun
  | [d1, d2] => { results := [.lit (.bool false)], args := [d1, d2] }
  | _ => none }
def FnExactEliminateWrongFalsely : Prop := fnExactEliminateRow.holds Try.pinned (OpenSpec.ofChange fnExactEliminateWrong)

/-- 'laws.FnExactWidthOf': WHATEVER THE INPUT: true; the input reads as it did. -/
def fnExactWidthOfSpec : ChangeSpec := { name := "fnExactWidthOf", fn := fun _ => fun
  | [d1, d2] => { results := [.lit (.bool true)], args := [d1, d2] }
  | _ => none }
def fnExactWidthOfRow : OpenClaim := { program := "ytaipdkfbkcknkaa", sum := "7579c3b4a9701ec3991e335de0cbf9e439c42bff0c46f7a6e09420143c9a9dc3", func := "loop.example/wholechance/laws.FnExactWidthOf", spec := "fnExactWidthOf", apart := false }
def FnExactWidthOfSaid : Prop := fnExactWidthOfRow.holds Try.pinned (OpenSpec.ofChange fnExactWidthOfSpec)

/-- ITS FALSE NEIGHBOUR: 'it returns false'. Refute it at one input. -/
def fnExactWidthOfWrong : ChangeSpec := { name := "fnExactWidthOf", fn := fun _ => fun
  | [d1, d2] => { results := [.lit (.bool false)], args := [d1, d2] }
  | _ => none }
def FnExactWidthOfWrongFalsely : Prop := fnExactWidthOfRow.holds Try.pinned (OpenSpec.ofChange fnExactWidthOfWrong)

/-- 'laws.FnExactBestOrder': WHATEVER THE INPUT: true; the input reads as it did. -/
def fnExactBestOrderSpec : ChangeSpec := { name := "fnExactBestOrder", fn := fun _ => fun
  | [d] => { results := [.lit (.bool true)], args := [d] }
  | _ => none }
def fnExactBestOrderRow : OpenClaim := { program := "ytaipdkfbkcknkaa", sum := "7579c3b4a9701ec3991e335de0cbf9e439c42bff0c46f7a6e09420143c9a9dc3", func := "loop.example/wholechance/laws.FnExactBestOrder", spec := "fnExactBestOrder", recurses := true, apart := false }
def FnExactBestOrderSaid : Prop := fnExactBestOrderRow.holds Try.pinned (OpenSpec.ofChange fnExactBestOrderSpec)

/-- ITS FALSE NEIGHBOUR: 'it returns false'. Refute it at one input. -/
def fnExactBestOrderWrong : ChangeSpec := { name := "fnExactBestOrder", fn := fun _ => fun
  | [d] => { results := [.lit (.bool false)], args := [d] }
  | _ => none }
def FnExactBestOrderWrongFalsely : Prop := fnExactBestOrderRow.holds Try.pinned (OpenSpec.ofChange fnExactBestOrderWrong)

/-- 'laws.FnExactGreedyOrder': WHATEVER THE INPUT: true; the input reads as it did. -/
def fnExactGreedyOrderSpec : ChangeSpec := { name := "fnExactGreedyOrder", fn := fun _ => fun
  | [d] => { results := [.lit (.bool true)], args := [d] }
  | _ => none }
def fnExactGreedyOrderRow : OpenClaim := { program := "ytaipdkfbkcknkaa", sum := "7579c3b4a9701ec3991e335de0cbf9e439c42bff0c46f7a6e09420143c9a9dc3", func := "loop.example/wholechance/laws.FnExactGreedyOrder", spec := "fnExactGreedyOrder", apart := false }
def FnExactGreedyOrderSaid : Prop := fnExactGreedyOrderRow.holds Try.pinned (OpenSpec.ofChange fnExactGreedyOrderSpec)

/-- ITS FALSE NEIGHBOUR: 'it returns false'. Refute it at one input. -/
def fnExactGreedyOrderWrong : ChangeSpec := { name := "fnExactGreedyOrder", fn := fun _ => fun
  | [d] => { results := [.lit (.bool false)], args := [d] }
  | _ => none }
def FnExactGreedyOrderWrongFalsely : Prop := fnExactGreedyOrderRow.holds Try.pinned (OpenSpec.ofChange fnExactGreedyOrderWrong)

/-- 'laws.FnEliminate': WHATEVER THE INPUT: true; the input reads as it did. -/
def fnEliminateSpec : ChangeSpec := { name := "fnEliminate", fn := fun _ => fun
  | [d] => { results := [.lit (.bool true)], args := [d] }
  | _ => none }
def fnEliminateRow : OpenClaim := { program := "ytaipdkfbkcknkaa", sum := "7579c3b4a9701ec3991e335de0cbf9e439c42bff0c46f7a6e09420143c9a9dc3", func := "loop.example/wholechance/laws.FnEliminate", spec := "fnEliminate", recurses := true, apart := false }
def FnEliminateSaid : Prop := fnEliminateRow.holds Try.pinned (OpenSpec.ofChange fnEliminateSpec)

/-- ITS FALSE NEIGHBOUR: 'it returns false'. Refute it at one input. -/
def fnEliminateWrong : ChangeSpec := { name := "fnEliminate", fn := fun _ => fun
  | [d] => { results := [.lit (.bool false)], args := [d] }
  | _ => none }
def FnEliminateWrongFalsely : Prop := fnEliminateRow.holds Try.pinned (OpenSpec.ofChange fnEliminateWrong)

/-- 'laws.FnEliminateOne': WHATEVER THE INPUT: true; the input reads as it did. -/
def fnEliminateOneSpec : ChangeSpec := { name := "fnEliminateOne", fn := fun _ => fun
  | [d] => { results := [.lit (.bool true)], args := [d] }
  | _ => none }
def fnEliminateOneRow : OpenClaim := { program := "ytaipdkfbkcknkaa", sum := "7579c3b4a9701ec3991e335de0cbf9e439c42bff0c46f7a6e09420143c9a9dc3", func := "loop.example/wholechance/laws.FnEliminateOne", spec := "fnEliminateOne", apart := false }
def FnEliminateOneSaid : Prop := fnEliminateOneRow.holds Try.pinned (OpenSpec.ofChange fnEliminateOneSpec)

/-- ITS FALSE NEIGHBOUR: 'it returns false'. Refute it at one input. -/
def fnEliminateOneWrong : ChangeSpec := { name := "fnEliminateOne", fn := fun _ => fun
  | [d] => { results := [.lit (.bool false)], args := [d] }
  | _ => none }
def FnEliminateOneWrongFalsely : Prop := fnEliminateOneRow.holds Try.pinned (OpenSpec.ofChange fnEliminateOneWrong)

/-- 'laws.FnBestOrder': WHATEVER THE INPUT: true; the input reads as it did. -/
def fnBestOrderSpec : ChangeSpec := { name := "fnBestOrder", fn := fun _ => fun
  | [d] => { results := [.lit (.bool true)], args := [d] }
  | _ => none }
def fnBestOrderRow : OpenClaim := { program := "ytaipdkfbkcknkaa", sum := "7579c3b4a9701ec3991e335de0cbf9e439c42bff0c46f7a6e09420143c9a9dc3", func := "loop.example/wholechance/laws.FnBestOrder", spec := "fnBestOrder", recurses := true, apart := false }
def FnBestOrderSaid : Prop := fnBestOrderRow.holds Try.pinned (OpenSpec.ofChange fnBestOrderSpec)

/-- ITS FALSE NEIGHBOUR: 'it returns false'. Refute it at one input. -/
def fnBestOrderWrong : ChangeSpec := { name := "fnBestOrder", fn := fun _ => fun
  | [d] => { results := [.lit (.bool false)], args := [d] }
  | _ => none }
def FnBestOrderWrongFalsely : Prop := fnBestOrderRow.holds Try.pinned (OpenSpec.ofChange fnBestOrderWrong)

/-- 'laws.FnSumOut': WHATEVER THE INPUT: true; the input reads as it did. -/
def fnSumOutSpec : ChangeSpec := { name := "fnSumOut", fn := fun _ => fun
  | [d] => { results := [.lit (.bool true)], args := [d] }
  | _ => none }
def fnSumOutRow : OpenClaim := { program := "ytaipdkfbkcknkaa", sum := "7579c3b4a9701ec3991e335de0cbf9e439c42bff0c46f7a6e09420143c9a9dc3", func := "loop.example/wholechance/laws.FnSumOut", spec := "fnSumOut", apart := false }
def FnSumOutSaid : Prop := fnSumOutRow.holds Try.pinned (OpenSpec.ofChange fnSumOutSpec)

/-- ITS FALSE NEIGHBOUR: 'it returns false'. Refute it at one input. -/
def fnSumOutWrong : ChangeSpec := { name := "fnSumOut", fn := fun _ => fun
  | [d] => { results := [.lit (.bool false)], args := [d] }
  | _ => none }
def FnSumOutWrongFalsely : Prop := fnSumOutRow.holds Try.pinned (OpenSpec.ofChange fnSumOutWrong)

/-- 'laws.FnFactorsOf': WHATEVER THE INPUT: true; the input reads as it did. -/
def fnFactorsOfSpec : ChangeSpec := { name := "fnFactorsOf", fn := fun _ => fun
  | [d] => { results := [.lit (.bool true)], args := [d] }
  | _ => none }
def fnFactorsOfRow : OpenClaim := { program := "ytaipdkfbkcknkaa", sum := "7579c3b4a9701ec3991e335de0cbf9e439c42bff0c46f7a6e09420143c9a9dc3", func := "loop.example/wholechance/laws.FnFactorsOf", spec := "fnFactorsOf", apart := false }
def FnFactorsOfSaid : Prop := fnFactorsOfRow.holds Try.pinned (OpenSpec.ofChange fnFactorsOfSpec)

/-- ITS FALSE NEIGHBOUR: 'it returns false'. Refute it at one input. -/
def fnFactorsOfWrong : ChangeSpec := { name := "fnFactorsOf", fn := fun _ => fun
  | [d] => { results := [.lit (.bool false)], args := [d] }
  | _ => none }
def FnFactorsOfWrongFalsely : Prop := fnFactorsOfRow.holds Try.pinned (OpenSpec.ofChange fnFactorsOfWrong)

/-- 'laws.FnListOfFactors': WHATEVER THE INPUT: true; the input reads as it did. -/
def fnListOfFactorsSpec : ChangeSpec := { name := "fnListOfFactors", fn := fun _ => fun
  | [d] => { results := [.lit (.bool true)], args := [d] }
  | _ => none }
def fnListOfFactorsRow : OpenClaim := { program := "ytaipdkfbkcknkaa", sum := "7579c3b4a9701ec3991e335de0cbf9e439c42bff0c46f7a6e09420143c9a9dc3", func := "loop.example/wholechance/laws.FnListOfFactors", spec := "fnListOfFactors", apart := false }
def FnListOfFactorsSaid : Prop := fnListOfFactorsRow.holds Try.pinned (OpenSpec.ofChange fnListOfFactorsSpec)

/-- ITS FALSE NEIGHBOUR: 'it returns false'. Refute it at one input. -/
def fnListOfFactorsWrong : ChangeSpec := { name := "fnListOfFactors", fn := fun _ => fun
  | [d] => { results := [.lit (.bool false)], args := [d] }
  | _ => none }
def FnListOfFactorsWrongFalsely : Prop := fnListOfFactorsRow.holds Try.pinned (OpenSpec.ofChange fnListOfFactorsWrong)

/- THE SECOND FORM. 'bulk': how many values and letters a reading holds, each counted each time it is reached (what is shared counts as often as it is met; a slice's spare places count too). A statement '..UptoSaid' is the law's where the arguments, and the package variables that the reading takes, are together of bulk at most 1048576: NARROWER than '..Said'. Prove '..Said' where nothing that the law and all that it calls make is longer than what came in: it says more and counts as full. Else prove '..UptoSaid'. A law counts once. -/
mutual
def uptoBulk {H : Type} : DataW H → Nat
  | .lit (.string bytes) => bytes.length + 1
  | .lit _ => 1
  | .nil => 1
  | .ptr d => uptoBulk d + 1
  | .slice elems spare => uptoBulkAll elems + uptoBulkAll spare + 1
  | .agg parts => uptoBulkAll parts + 1
  | .iface _ d => uptoBulk d + 1
  | .map entries => uptoBulkEntries entries + 1
  | .held _ => 1
def uptoBulkAll {H : Type} : List (DataW H) → Nat
  | [] => 0
  | d :: r => uptoBulk d + uptoBulkAll r
def uptoBulkEntries {H : Type} : List (Lit × DataW H) → Nat
  | [] => 0
  | x :: r => uptoBulkEntry x + uptoBulkEntries r
def uptoBulkEntry {H : Type} : Lit × DataW H → Nat
  | (.string bytes, d) => bytes.length + uptoBulk d + 1
  | (_, d) => uptoBulk d + 1
 end
def uptoSmall : (H : Type) → List (DataW H) → Bool := fun _ ds => decide (uptoBulkAll ds ≤ 1048576)
def OpenSpec.upto (s : _root_.Go.ChangeSpec) : _root_.Go.OpenSpec := { _root_.Go.OpenSpec.ofChange s with cond := some uptoSmall }

/-- 'laws.FnExactOrderOk', WHERE WHAT IT READS IS OF BULK AT MOST 1048576: true; the input reads as it did. -/
def fnExactOrderOkUptoRow : OpenClaim := { program := "ytaipdkfbkcknkaa", sum := "7579c3b4a9701ec3991e335de0cbf9e439c42bff0c46f7a6e09420143c9a9dc3", func := "loop.example/wholechance/laws.FnExactOrderOk", spec := "fnExactOrderOk", apart := false, narrowed := true }
def FnExactOrderOkUptoSaid : Prop := fnExactOrderOkUptoRow.holds Try.pinned (OpenSpec.upto fnExactOrderOkSpec)

/-- 'laws.FnExactEliminateOne', WHERE WHAT IT READS IS OF BULK AT MOST 1048576: true; the input reads as it did. -/
def fnExactEliminateOneUptoRow : OpenClaim := { program := "ytaipdkfbkcknkaa", sum := "7579c3b4a9701ec3991e335de0cbf9e439c42bff0c46f7a6e09420143c9a9dc3", func := "loop.example/wholechance/laws.FnExactEliminateOne", spec := "fnExactEliminateOne", apart := false, narrowed := true }
def FnExactEliminateOneUptoSaid : Prop := fnExactEliminateOneUptoRow.holds Try.pinned (OpenSpec.upto fnExactEliminateOneSpec)

/-- 'laws.FnExactEliminate', WHERE WHAT IT READS IS OF BULK AT MOST 1048576: true; the input reads as it did. -/
def fnExactEliminateUptoRow : OpenClaim := { program := "ytaipdkfbkcknkaa", sum := "7579c3b4a9701ec3991e335de0cbf9e439c42bff0c46f7a6e09420143c9a9dc3", func := "loop.example/wholechance/laws.FnExactEliminate", spec := "fnExactEliminate", apart := false, narrowed := true }
def FnExactEliminateUptoSaid : Prop := fnExactEliminateUptoRow.holds Try.pinned (OpenSpec.upto fnExactEliminateSpec)

/-- 'laws.FnExactWidthOf', WHERE WHAT IT READS IS OF BULK AT MOST 1048576: true; the input reads as it did. -/
def fnExactWidthOfUptoRow : OpenClaim := { program := "ytaipdkfbkcknkaa", sum := "7579c3b4a9701ec3991e335de0cbf9e439c42bff0c46f7a6e09420143c9a9dc3", func := "loop.example/wholechance/laws.FnExactWidthOf", spec := "fnExactWidthOf", apart := false, narrowed := true }
def FnExactWidthOfUptoSaid : Prop := fnExactWidthOfUptoRow.holds Try.pinned (OpenSpec.upto fnExactWidthOfSpec)

/-- 'laws.FnExactBestOrder', WHERE WHAT IT READS IS OF BULK AT MOST 1048576: true; the input reads as it did. -/
def fnExactBestOrderUptoRow : OpenClaim := { program := "ytaipdkfbkcknkaa", sum := "7579c3b4a9701ec3991e335de0cbf9e439c42bff0c46f7a6e09420143c9a9dc3", func := "loop.example/wholechance/laws.FnExactBestOrder", spec := "fnExactBestOrder", recurses := true, apart := false, narrowed := true }
def FnExactBestOrderUptoSaid : Prop := fnExactBestOrderUptoRow.holds Try.pinned (OpenSpec.upto fnExactBestOrderSpec)

/-- 'laws.FnExactGreedyOrder', WHERE WHAT IT READS IS OF BULK AT MOST 1048576: true; the input reads as it did. -/
def fnExactGreedyOrderUptoRow : OpenClaim := { program := "ytaipdkfbkcknkaa", sum := "7579c3b4a9701ec3991e335de0cbf9e439c42bff0c46f7a6e09420143c9a9dc3", func := "loop.example/wholechance/laws.FnExactGreedyOrder", spec := "fnExactGreedyOrder", apart := false, narrowed := true }
def FnExactGreedyOrderUptoSaid : Prop := fnExactGreedyOrderUptoRow.holds Try.pinned (OpenSpec.upto fnExactGreedyOrderSpec)

/-- 'laws.FnEliminate', WHERE WHAT IT READS IS OF BULK AT MOST 1048576: true; the input reads as it did. -/
def fnEliminateUptoRow : OpenClaim := { program := "ytaipdkfbkcknkaa", sum := "7579c3b4a9701ec3991e335de0cbf9e439c42bff0c46f7a6e09420143c9a9dc3", func := "loop.example/wholechance/laws.FnEliminate", spec := "fnEliminate", recurses := true, apart := false, narrowed := true }
def FnEliminateUptoSaid : Prop := fnEliminateUptoRow.holds Try.pinned (OpenSpec.upto fnEliminateSpec)

/-- 'laws.FnEliminateOne', WHERE WHAT IT READS IS OF BULK AT MOST 1048576: true; the input reads as it did. -/
def fnEliminateOneUptoRow : OpenClaim := { program := "ytaipdkfbkcknkaa", sum := "7579c3b4a9701ec3991e335de0cbf9e439c42bff0c46f7a6e09420143c9a9dc3", func := "loop.example/wholechance/laws.FnEliminateOne", spec := "fnEliminateOne", apart := false, narrowed := true }
def FnEliminateOneUptoSaid : Prop := fnEliminateOneUptoRow.holds Try.pinned (OpenSpec.upto fnEliminateOneSpec)

/-- 'laws.FnBestOrder', WHERE WHAT IT READS IS OF BULK AT MOST 1048576: true; the input reads as it did. -/
def fnBestOrderUptoRow : OpenClaim := { program := "ytaipdkfbkcknkaa", sum := "7579c3b4a9701ec3991e335de0cbf9e439c42bff0c46f7a6e09420143c9a9dc3", func := "loop.example/wholechance/laws.FnBestOrder", spec := "fnBestOrder", recurses := true, apart := false, narrowed := true }
def FnBestOrderUptoSaid : Prop := fnBestOrderUptoRow.holds Try.pinned (OpenSpec.upto fnBestOrderSpec)

/-- 'laws.FnSumOut', WHERE WHAT IT READS IS OF BULK AT MOST 1048576: true; the input reads as it did. -/
def fnSumOutUptoRow : OpenClaim := { program := "ytaipdkfbkcknkaa", sum := "7579c3b4a9701ec3991e335de0cbf9e439c42bff0c46f7a6e09420143c9a9dc3", func := "loop.example/wholechance/laws.FnSumOut", spec := "fnSumOut", apart := false, narrowed := true }
def FnSumOutUptoSaid : Prop := fnSumOutUptoRow.holds Try.pinned (OpenSpec.upto fnSumOutSpec)

/-- 'laws.FnFactorsOf', WHERE WHAT IT READS IS OF BULK AT MOST 1048576: true; the input reads as it did. -/
def fnFactorsOfUptoRow : OpenClaim := { program := "ytaipdkfbkcknkaa", sum := "7579c3b4a9701ec3991e335de0cbf9e439c42bff0c46f7a6e09420143c9a9dc3", func := "loop.example/wholechance/laws.FnFactorsOf", spec := "fnFactorsOf", apart := false, narrowed := true }
def FnFactorsOfUptoSaid : Prop := fnFactorsOfUptoRow.holds Try.pinned (OpenSpec.upto fnFactorsOfSpec)

/-- 'laws.FnListOfFactors', WHERE WHAT IT READS IS OF BULK AT MOST 1048576: true; the input reads as it did. -/
def fnListOfFactorsUptoRow : OpenClaim := { program := "ytaipdkfbkcknkaa", sum := "7579c3b4a9701ec3991e335de0cbf9e439c42bff0c46f7a6e09420143c9a9dc3", func := "loop.example/wholechance/laws.FnListOfFactors", spec := "fnListOfFactors", apart := false, narrowed := true }
def FnListOfFactorsUptoSaid : Prop := fnListOfFactorsUptoRow.holds Try.pinned (OpenSpec.upto fnListOfFactorsSpec)

end Rows
end Go.Proofs.Ytaipdkfbkcknkaa
