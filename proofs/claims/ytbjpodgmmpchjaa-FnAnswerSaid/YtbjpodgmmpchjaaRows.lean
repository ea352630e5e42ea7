/-
  No cell of these rows narrows 'for every input' (looked for: loops, veiled, ifaces, maps, wideKeys, modest, calm, conditions, laid).
  DERIVED. THE GIVEN ROWS OF THIS SEAT. 11 by the template 'for every input the law returns true; each argument reads behind the call as it read before'; 0 by the template 'total and deterministic' (their statements: YtbjpodgmmpchjaaTotals.lean).
  GIVEN WITH THE SEED: the statements are not yours to turn. If you find one false, say at which input.
  Laid BY PROGRAM, IN A SANDBOX (cutbox-rows.mjs): the forced cells as the released guide's own fill.sh prints them over the translation 8a85e9ec76c4d80e… (all of the seat's roots in one cut). By AI agents, Wed Nov 11 2026. No macro, syntax, notation, axiom, sorry.
-/
import Derived.Test.YtbjpodgmmpchjaaChecked
import GoSem.Claim
import GoSem.ClaimJoined
import GoSem.ClaimMapViews
import Derived.JoinedTies
import Derived.KernelRfl
namespace Go.Proofs.Ytbjpodgmmpchjaa
/- THE CELL 'sum', in the pinned program and in every row, IS THE sha256 OF THE DUMP (.gsa) THAT YtbjpodgmmpchjaaProg.lean LOADS. Nothing in Lean hashes anything: it is a label: what it is worth is what the hold of that sum in a sandbox is worth. -/
noncomputable def Try.pinned : Pinned := { name := "ytbjpodgmmpchjaa", sum := "8a85e9ec76c4d80e5980dd10691e948daef6f4df11d761ec1b1138c207dd3d91", checked := Try.checked }
namespace Rows
def none {H : Type} : Left H := { results := [], args := [] }

/-- 'laws.FnExactWeightsFrom': WHATEVER THE INPUT: true; the input reads as it did. -/
def fnExactWeightsFromSpec : ChangeSpec := { name := "fnExactWeightsFrom", fn := fun _ => fun
  | [d1, d2] => { results := [.lit (.bool true)], args := [d1, d2] }
  | _ => none }
def fnExactWeightsFromRow : OpenClaim := { program := "ytbjpodgmmpchjaa", sum := "8a85e9ec76c4d80e5980dd10691e948daef6f4df11d761ec1b1138c207dd3d91", func := "loop.example/wholechance/laws.FnExactWeightsFrom", spec := "fnExactWeightsFrom", apart := false }
def FnExactWeightsFromSaid : Prop := fnExactWeightsFromRow.holds Try.pinned (OpenSpec.ofChange fnExactWeightsFromSpec)

/-- ITS FALSE NEIGHBOUR: 'it returns false'. Refute it at one input. -/
def fnExactWeightsFromWrong : ChangeSpec := { name := "fnExactWeightsFrom", fn := fun _ => fun
  | [d1, d2] => { results := [.lit (.bool false)], args := [d1, d2] }
  | _ => none }
def FnExactWeightsFromWrongFalsely : Prop := fnExactWeightsFromRow.holds Try.pinned (OpenSpec.ofChange fnExactWeightsFromWrong)

/-- 'laws.FnExactWeightsOf': WHATEVER THE INPUT: true; the input reads as it did. -/
def fnExactWeightsOfSpec : ChangeSpec := { name := "fnExactWeightsOf", fn := fun _ => fun
  | [d] => { results := [.lit (.bool true)], args := [d] }
  | _ => none }
def fnExactWeightsOfRow : OpenClaim := { program := "ytbjpodgmmpchjaa", sum := "8a85e9ec76c4d80e5980dd10691e948daef6f4df11d761ec1b1138c207dd3d91", func := "loop.example/wholechance/laws.FnExactWeightsOf", spec := "fnExactWeightsOf", apart := false }
def FnExactWeightsOfSaid : Prop := fnExactWeightsOfRow.holds Try.pinned (OpenSpec.ofChange fnExactWeightsOfSpec)

/-- ITS FALSE NEIGHBOUR: 'it returns false'. Refute it at one input. -/
def fnExactWeightsOfWrong : ChangeSpec := { name := "fnExactWeightsOf", fn := fun _ => fun
  | [d] => { results := [.lit (.bool false)], args := [d] }
  | _ => none }
def FnExactWeightsOfWrongFalsely : Prop := fnExactWeightsOfRow.holds Try.pinned (OpenSpec.ofChange fnExactWeightsOfWrong)

/-- 'laws.FnExactTotalOf': WHATEVER THE INPUT: true; the input reads as it did. -/
def fnExactTotalOfSpec : ChangeSpec := { name := "fnExactTotalOf", fn := fun _ => fun
  | [d] => { results := [.lit (.bool true)], args := [d] }
  | _ => none }
def fnExactTotalOfRow : OpenClaim := { program := "ytbjpodgmmpchjaa", sum := "8a85e9ec76c4d80e5980dd10691e948daef6f4df11d761ec1b1138c207dd3d91", func := "loop.example/wholechance/laws.FnExactTotalOf", spec := "fnExactTotalOf", apart := false }
def FnExactTotalOfSaid : Prop := fnExactTotalOfRow.holds Try.pinned (OpenSpec.ofChange fnExactTotalOfSpec)

/-- ITS FALSE NEIGHBOUR: 'it returns false'. Refute it at one input. -/
def fnExactTotalOfWrong : ChangeSpec := { name := "fnExactTotalOf", fn := fun _ => fun
  | [d] => { results := [.lit (.bool false)], args := [d] }
  | _ => none }
def FnExactTotalOfWrongFalsely : Prop := fnExactTotalOfRow.holds Try.pinned (OpenSpec.ofChange fnExactTotalOfWrong)

/-- 'laws.FnExactPushOn': WHATEVER THE INPUT: true; the input reads as it did. -/
def fnExactPushOnSpec : ChangeSpec := { name := "fnExactPushOn", fn := fun _ => fun
  | [d1, d2] => { results := [.lit (.bool true)], args := [d1, d2] }
  | _ => none }
def fnExactPushOnRow : OpenClaim := { program := "ytbjpodgmmpchjaa", sum := "8a85e9ec76c4d80e5980dd10691e948daef6f4df11d761ec1b1138c207dd3d91", func := "loop.example/wholechance/laws.FnExactPushOn", spec := "fnExactPushOn", apart := false }
def FnExactPushOnSaid : Prop := fnExactPushOnRow.holds Try.pinned (OpenSpec.ofChange fnExactPushOnSpec)

/-- ITS FALSE NEIGHBOUR: 'it returns false'. Refute it at one input. -/
def fnExactPushOnWrong : ChangeSpec := { name := "fnExactPushOn", fn := fun _ => fun
  | [d1, d2] => { results := [.lit (.bool false)], args := [d1, d2] }
  | _ => none }
def FnExactPushOnWrongFalsely : Prop := fnExactPushOnRow.holds Try.pinned (OpenSpec.ofChange fnExactPushOnWrong)

/-- 'laws.FnExactReached': WHATEVER THE INPUT: true; the input reads as it did. -/
def fnExactReachedSpec : ChangeSpec := { name := "fnExactReached", fn := fun _ => fun
  | [d] => { results := [.lit (.bool true)], args := [d] }
  | _ => none }
def fnExactReachedRow : OpenClaim := { program := "ytbjpodgmmpchjaa", sum := "8a85e9ec76c4d80e5980dd10691e948daef6f4df11d761ec1b1138c207dd3d91", func := "loop.example/wholechance/laws.FnExactReached", spec := "fnExactReached", apart := false }
def FnExactReachedSaid : Prop := fnExactReachedRow.holds Try.pinned (OpenSpec.ofChange fnExactReachedSpec)

/-- ITS FALSE NEIGHBOUR: 'it returns false'. Refute it at one input. -/
def fnExactReachedWrong : ChangeSpec := { name := "fnExactReached", fn := fun _ => fun
  | [d] => { results := [.lit (.bool false)], args := [d] }
  | _ => none }
def FnExactReachedWrongFalsely : Prop := fnExactReachedRow.holds Try.pinned (OpenSpec.ofChange fnExactReachedWrong)

/-- 'laws.FnWeights': WHATEVER THE INPUT: true; the input reads as it did. -/
def fnWeightsSpec : ChangeSpec := { name := "fnWeights", fn := fun _ => fun
  | [d] => { results := [.lit (.bool true)], args := [d] }
  | _ => none }
def fnWeightsRow : OpenClaim := { program := "ytbjpodgmmpchjaa", sum := "8a85e9ec76c4d80e5980dd10691e948daef6f4df11d761ec1b1138c207dd3d91", func := "loop.example/wholechance/laws.FnWeights", spec := "fnWeights", apart := false }
def FnWeightsSaid : Prop := fnWeightsRow.holds Try.pinned (OpenSpec.ofChange fnWeightsSpec)

/-- ITS FALSE NEIGHBOUR: 'it returns false'. Refute it at one input. -/
def fnWeightsWrong : ChangeSpec := { name := "fnWeights", fn := fun _ => fun
  | [d] => { results := [.lit (.bool false)], args := [d] }
  | _ => none }
def FnWeightsWrongFalsely : Prop := fnWeightsRow.holds Try.pinned (OpenSpec.ofChange fnWeightsWrong)

/-- 'laws.FnPushOn': WHATEVER THE INPUT: true; the input reads as it did. -/
def fnPushOnSpec : ChangeSpec := { name := "fnPushOn", fn := fun _ => fun
  | [d] => { results := [.lit (.bool true)], args := [d] }
  | _ => none }
def fnPushOnRow : OpenClaim := { program := "ytbjpodgmmpchjaa", sum := "8a85e9ec76c4d80e5980dd10691e948daef6f4df11d761ec1b1138c207dd3d91", func := "loop.example/wholechance/laws.FnPushOn", spec := "fnPushOn", apart := false }
def FnPushOnSaid : Prop := fnPushOnRow.holds Try.pinned (OpenSpec.ofChange fnPushOnSpec)

/-- ITS FALSE NEIGHBOUR: 'it returns false'. Refute it at one input. -/
def fnPushOnWrong : ChangeSpec := { name := "fnPushOn", fn := fun _ => fun
  | [d] => { results := [.lit (.bool false)], args := [d] }
  | _ => none }
def FnPushOnWrongFalsely : Prop := fnPushOnRow.holds Try.pinned (OpenSpec.ofChange fnPushOnWrong)

/-- 'laws.FnJoined': WHATEVER THE INPUT: true; the input reads as it did. -/
def fnJoinedSpec : ChangeSpec := { name := "fnJoined", fn := fun _ => fun
  | [d] => { results := [.lit (.bool true)], args := [d] }
  | _ => none }
def fnJoinedRow : OpenClaim := { program := "ytbjpodgmmpchjaa", sum := "8a85e9ec76c4d80e5980dd10691e948daef6f4df11d761ec1b1138c207dd3d91", func := "loop.example/wholechance/laws.FnJoined", spec := "fnJoined", apart := false }
def FnJoinedSaid : Prop := fnJoinedRow.holds Try.pinned (OpenSpec.ofChange fnJoinedSpec)

/-- ITS FALSE NEIGHBOUR: 'it returns false'. Refute it at one input. -/
def fnJoinedWrong : ChangeSpec := { name := "fnJoined", fn := fun _ => fun
  | [d] => { results := [.lit (.bool false)], args := [d] }
  | _ => none }
def FnJoinedWrongFalsely : Prop := fnJoinedRow.holds Try.pinned (OpenSpec.ofChange fnJoinedWrong)

/-- 'laws.FnExactAnswerOf': WHATEVER THE INPUT: true; the input reads as it did. -/
def fnExactAnswerOfSpec : ChangeSpec := { name := "fnExactAnswerOf", fn := fun _ => fun
  | [d] => { results := [.lit (.bool true)], args := [d] }
  | _ => none }
def fnExactAnswerOfRow : OpenClaim := { program := "ytbjpodgmmpchjaa", sum := "8a85e9ec76c4d80e5980dd10691e948daef6f4df11d761ec1b1138c207dd3d91", func := "loop.example/wholechance/laws.FnExactAnswerOf", spec := "fnExactAnswerOf", apart := false }
def FnExactAnswerOfSaid : Prop := fnExactAnswerOfRow.holds Try.pinned (OpenSpec.ofChange fnExactAnswerOfSpec)

/-- ITS FALSE NEIGHBOUR: 'it returns false'. Refute it at one input. -/
def fnExactAnswerOfWrong : ChangeSpec := { name := "fnExactAnswerOf", fn := fun _ => fun
  | [d] => { results := [.lit (.bool false)], args := [d] }
  | _ => none }
def FnExactAnswerOfWrongFalsely : Prop := fnExactAnswerOfRow.holds Try.pinned (OpenSpec.ofChange fnExactAnswerOfWrong)

/-- 'laws.FnExactSameAnswer': WHATEVER THE INPUT: true; the input reads as it did. -/
def fnExactSameAnswerSpec : ChangeSpec := { name := "fnExactSameAnswer", fn := fun _ => fun
  | [d1, d2] => { results := [.lit (.bool true)], args := [d1, d2] }
  | _ => none }
def fnExactSameAnswerRow : OpenClaim := { program := "ytbjpodgmmpchjaa", sum := "8a85e9ec76c4d80e5980dd10691e948daef6f4df11d761ec1b1138c207dd3d91", func := "loop.example/wholechance/laws.FnExactSameAnswer", spec := "fnExactSameAnswer", apart := false }
def FnExactSameAnswerSaid : Prop := fnExactSameAnswerRow.holds Try.pinned (OpenSpec.ofChange fnExactSameAnswerSpec)

/-- ITS FALSE NEIGHBOUR: 'it returns false'. Refute it at one input. -/
def fnExactSameAnswerWrong : ChangeSpec := { name := "fnExactSameAnswer", fn := fun _ => fun
  | [d1, d2] => { results := [.lit (.bool false)], args := [d1, d2] }
  | _ => none }
def FnExactSameAnswerWrongFalsely : Prop := fnExactSameAnswerRow.holds Try.pinned (OpenSpec.ofChange fnExactSameAnswerWrong)

/-- 'laws.FnAnswer': WHATEVER THE INPUT: true; the input reads as it did. -/
def fnAnswerSpec : ChangeSpec := { name := "fnAnswer", fn := fun _ => fun
  | [d] => { results := [.lit (.bool true)], args := [d] }
  | _ => none }
def fnAnswerRow : OpenClaim := { program := "ytbjpodgmmpchjaa", sum := "8a85e9ec76c4d80e5980dd10691e948daef6f4df11d761ec1b1138c207dd3d91", func := "loop.example/wholechance/laws.FnAnswer", spec := "fnAnswer", apart := false }
def FnAnswerSaid : Prop := fnAnswerRow.holds Try.pinned (OpenSpec.ofChange fnAnswerSpec)

/-- ITS FALSE NEIGHBOUR: 'it returns false'. Refute it at one input. -/
def fnAnswerWrong : ChangeSpec := { name := "fnAnswer", fn := fun _ => fun
  | [d] => { results := [.lit (.bool false)], args := [d] }
  | _ => none }
def FnAnswerWrongFalsely : Prop := fnAnswerRow.holds Try.pinned (OpenSpec.ofChange fnAnswerWrong)

/- THE SECOND FORM. 'bulk': how many values and letters a reading holds, each counted each time it is reached (what is shared counts as often as it is met; a slice's spare places count too). A statement '..UptoSaid' is the law's where the arguments, and the package variables that the reading takes, are together of bulk at most 1048576: NARROWER than '..Said'. Prove '..Said' where nothing that the law and all that it calls make is longer than what came in: it says more and counts as full. Else prove '..UptoSaid'. A law counts once. -/
mutual
def uptoBulk {H : Type} : DataW H → Nat
  | .lit (.string bytes) => bytes.length + 1
  | .lit _ => 1
  | .nil => 1
  | .ptr d => uptoBulk d + 1
  | .slice elems spare => uptoBulkAll elems + uptoBulkAll spare + 1
  | .agg parts => uptoBulkAll parts + 1
  | .iface _ d => uptoBulk d + 1
  | .map entries => uptoBulkEntries entries + 1
  | .held _ => 1
def uptoBulkAll {H : Type} : List (DataW H) → Nat
  | [] => 0
  | d :: r => uptoBulk d + uptoBulkAll r
def uptoBulkEntries {H : Type} : List (Lit × DataW H) → Nat
  | [] => 0
  | x :: r => uptoBulkEntry x + uptoBulkEntries r
def uptoBulkEntry {H : Type} : Lit × DataW H → Nat
  | (.string bytes, d) => bytes.length + uptoBulk d + 1
  | (_, d) => uptoBulk d + 1
 end
def uptoSmall : (H : Type) → List (DataW H) → Bool := fun _ ds => decide (uptoBulkAll ds ≤ 1048576)
def OpenSpec.upto (s : _root_.Go.ChangeSpec) : _root_.Go.OpenSpec := { _root_.Go.OpenSpec.ofChange s with cond := some uptoSmall }

/-- 'laws.FnExactWeightsFrom', WHERE WHAT IT READS IS OF BULK AT MOST 1048576: true; the input reads as it did. -/
def fnExactWeightsFromUptoRow : OpenClaim := { program := "ytbjpodgmmpchjaa", sum := "8a85e9ec76c4d80e5980dd10691e948daef6f4df11d761ec1b1138c207dd3d91", func := "loop.example/wholechance/laws.FnExactWeightsFrom", spec := "fnExactWeightsFrom", apart := false, narrowed := true }
def FnExactWeightsFromUptoSaid : Prop := fnExactWeightsFromUptoRow.holds Try.pinned (OpenSpec.upto fnExactWeightsFromSpec)

/-- 'laws.FnExactWeightsOf', WHERE WHAT IT READS IS OF BULK AT MOST 1048576: true; the input reads as it did. -/
def fnExactWeightsOfUptoRow : OpenClaim := { program := "ytbjpodgmmpchjaa", sum := "8a85e9ec76c4d80e5980dd10691e948daef6f4df11d761ec1b1138c207dd3d91", func := "loop.example/wholechance/laws.FnExactWeightsOf", spec := "fnExactWeightsOf", apart := false, narrowed := true }
def FnExactWeightsOfUptoSaid : Prop := fnExactWeightsOfUptoRow.holds Try.pinned (OpenSpec.upto fnExactWeightsOfSpec)

/-- 'laws.FnExactTotalOf', WHERE WHAT IT READS IS OF BULK AT MOST 1048576: true; the input reads as it did. -/
def fnExactTotalOfUptoRow : OpenClaim := { program := "ytbjpodgmmpchjaa", sum := "8a85e9ec76c4d80e5980dd10691e948daef6f4df11d761ec1b1138c207dd3d91", func := "loop.example/wholechance/laws.FnExactTotalOf", spec := "fnExactTotalOf", apart := false, narrowed := true }
def FnExactTotalOfUptoSaid : Prop := fnExactTotalOfUptoRow.holds Try.pinned (OpenSpec.upto fnExactTotalOfSpec)

/-- 'laws.FnExactPushOn', WHERE WHAT IT READS IS OF BULK AT MOST 1048576: true; the input reads as it did. -/
def fnExactPushOnUptoRow : OpenClaim := { program := "ytbjpodgmmpchjaa", sum := "8a85e9ec76c4d80e5980dd10691e948daef6f4df11d761ec1b1138c207dd3d91", func := "loop.example/wholechance/laws.FnExactPushOn", spec := "fnExactPushOn", apart := false, narrowed := true }
def FnExactPushOnUptoSaid : Prop := fnExactPushOnUptoRow.holds Try.pinned (OpenSpec.upto fnExactPushOnSpec)

/-- 'laws.FnExactReached', WHERE WHAT IT READS IS OF BULK AT MOST 1048576: true; the input reads as it did. -/
def fnExactReachedUptoRow : OpenClaim := { program := "ytbjpodgmmpchjaa", sum := "8a85e9ec76c4d80e5980dd10691e948daef6f4df11d761ec1b1138c207dd3d91", func := "loop.example/wholechance/laws.FnExactReached", spec := "fnExactReached", apart := false, narrowed := true }
def FnExactReachedUptoSaid : Prop := fnExactReachedUptoRow.holds Try.pinned (OpenSpec.upto fnExactReachedSpec)

/-- 'laws.FnWeights', WHERE WHAT IT READS IS OF BULK AT MOST 1048576: true; the input reads as it did. -/
def fnWeightsUptoRow : OpenClaim := { program := "ytbjpodgmmpchjaa", sum := "8a85e9ec76c4d80e5980dd10691e948daef6f4df11d761ec1b1138c207dd3d91", func := "loop.example/wholechance/laws.FnWeights", spec := "fnWeights", apart := false, narrowed := true }
def FnWeightsUptoSaid : Prop := fnWeightsUptoRow.holds Try.pinned (OpenSpec.upto fnWeightsSpec)

/-- 'laws.FnPushOn', WHERE WHAT IT READS IS OF BULK AT MOST 1048576: true; the input reads as it did. -/
def fnPushOnUptoRow : OpenClaim := { program := "ytbjpodgmmpchjaa", sum := "8a85e9ec76c4d80e5980dd10691e948daef6f4df11d761ec1b1138c207dd3d91", func := "loop.example/wholechance/laws.FnPushOn", spec := "fnPushOn", apart := false, narrowed := true }
def FnPushOnUptoSaid : Prop := fnPushOnUptoRow.holds Try.pinned (OpenSpec.upto fnPushOnSpec)

/-- 'laws.FnJoined', WHERE WHAT IT READS IS OF BULK AT MOST 1048576: true; the input reads as it did. -/
def fnJoinedUptoRow : OpenClaim := { program := "ytbjpodgmmpchjaa", sum := "8a85e9ec76c4d80e5980dd10691e948daef6f4df11d761ec1b1138c207dd3d91", func := "loop.example/wholechance/laws.FnJoined", spec := "fnJoined", apart := false, narrowed := true }
def FnJoinedUptoSaid : Prop := fnJoinedUptoRow.holds Try.pinned (OpenSpec.upto fnJoinedSpec)

/-- 'laws.FnExactAnswerOf', WHERE WHAT IT READS IS OF BULK AT MOST 1048576: true; the input reads as it did. -/
def fnExactAnswerOfUptoRow : OpenClaim := { program := "ytbjpodgmmpchjaa", sum := "8a85e9ec76c4d80e5980dd10691e948daef6f4df11d761ec1b1138c207dd3d91", func := "loop.example/wholechance/laws.FnExactAnswerOf", spec := "fnExactAnswerOf", apart := false, narrowed := true }
def FnExactAnswerOfUptoSaid : Prop := fnExactAnswerOfUptoRow.holds Try.pinned (OpenSpec.upto fnExactAnswerOfSpec)

/-- 'laws.FnExactSameAnswer', WHERE WHAT IT READS IS OF BULK AT MOST 1048576: true; the input reads as it did. -/
def fnExactSameAnswerUptoRow : OpenClaim := { program := "ytbjpodgmmpchjaa", sum := "8a85e9ec76c4d80e5980dd10691e948daef6f4df11d761ec1b1138c207dd3d91", func := "loop.example/wholechance/laws.FnExactSameAnswer", spec := "fnExactSameAnswer", apart := false, narrowed := true }
def FnExactSameAnswerUptoSaid : Prop := fnExactSameAnswerUptoRow.holds Try.pinned (OpenSpec.upto fnExactSameAnswerSpec)

/-- 'laws.FnAnswer', WHERE WHAT IT READS IS OF BULK AT MOST 1048576: true; the input reads as it did. -/
def fnAnswerUptoRow : OpenClaim := { program := "ytbjpodgmmpchjaa", sum := "8a85e9ec76c4d80e5980dd10691e948daef6f4df11d761ec1b1138c207dd3d91", func := "loop.example/wholechance/laws.FnAnswer", spec := "fnAnswer", apart := false, narrowed := true }
def FnAnswerUptoSaid : Prop := fnAnswerUptoRow.holds Try.pinned (OpenSpec.upto fnAnswerSpec)

end Rows
end Go.Proofs.Ytbjpodgmmpchjaa
