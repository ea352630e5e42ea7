/-
  No cell of these rows narrows 'for every input' (looked for: loops, veiled, ifaces, maps, wideKeys, modest, calm, conditions, laid).
  DERIVED. THE GIVEN ROWS OF THIS SEAT. 12 by the template 'for every input the law returns true; each argument reads behind the call as it read before'; 0 by the template 'total and deterministic' (their statements: YtcdajplmheladaaTotals.lean).
  GIVEN WITH THE SEED: the statements are not yours to turn. If you find one false, say at which input.
  Laid BY PROGRAM, IN A SANDBOX (cutbox-rows.mjs): the forced cells as the released guide's own fill.sh prints them over the translation 86d0f4b7d04e94ff… (all of the seat's roots in one cut). By AI agents, Wed Nov 11 2026. No macro, syntax, notation, axiom, sorry.
-/
import Derived.Test.YtcdajplmheladaaChecked
import GoSem.Claim
import GoSem.ClaimJoined
import GoSem.ClaimMapViews
import Derived.JoinedTies
import Derived.KernelRfl
namespace Go.Proofs.Ytcdajplmheladaa
/- THE CELL 'sum', in the pinned program and in every row, IS THE sha256 OF THE DUMP (.gsa) THAT YtcdajplmheladaaProg.lean LOADS. Nothing in Lean hashes anything: it is a label: what it is worth is what the hold of that sum in a sandbox is worth. -/
noncomputable def Try.pinned : Pinned := { name := "ytcdajplmheladaa", sum := "86d0f4b7d04e94ff9d53a366b87e54bae6c353f720c0fbb67946a5e6f7a3d38c", checked := Try.checked }
namespace Rows
def none {H : Type} : Left H := { results := [], args := [] }

/-- 'laws.FnExactPushOn': WHATEVER THE INPUT: true; the input reads as it did. -/
def fnExactPushOnSpec : ChangeSpec := { name := "fnExactPushOn", fn := fun _ => fun
  | [d1, d2] => { results := [.lit (.bool true)], args := [d1, d2] }
  | _ => none }
def fnExactPushOnRow : OpenClaim := { program := "ytcdajplmheladaa", sum := "86d0f4b7d04e94ff9d53a366b87e54bae6c353f720c0fbb67946a5e6f7a3d38c", func := "loop.example/wholechance/laws.FnExactPushOn", spec := "fnExactPushOn", apart := false }
def FnExactPushOnSaid : Prop := fnExactPushOnRow.holds Try.pinned (OpenSpec.ofChange fnExactPushOnSpec)

/-- ITS FALSE NEIGHBOUR: 'it returns false'. Refute it at one input. -/
def fnExactPushOnWrong : ChangeSpec := { name := "fnExactPushOn", fn := fun _ => fun
  | [d1, d2] => { results := [.lit (.bool false)], args := [d1, d2] }
  | _ => none }
def FnExactPushOnWrongFalsely : Prop := fnExactPushOnRow.holds Try.pinned (OpenSpec.ofChange fnExactPushOnWrong)

/-- 'laws.FnPushOn': WHATEVER THE INPUT: true; the input reads as it did. -/
def fnPushOnSpec : ChangeSpec := { name := "fnPushOn", fn := fun _ => fun
  | [d] => { results := [.lit (.bool true)], args := [d] }
  | _ => none }
def fnPushOnRow : OpenClaim := { program := "ytcdajplmheladaa", sum := "86d0f4b7d04e94ff9d53a366b87e54bae6c353f720c0fbb67946a5e6f7a3d38c", func := "loop.example/wholechance/laws.FnPushOn", spec := "fnPushOn", apart := false }
def FnPushOnSaid : Prop := fnPushOnRow.holds Try.pinned (OpenSpec.ofChange fnPushOnSpec)

/-- ITS FALSE NEIGHBOUR: 'it returns false'. Refute it at one input. -/
def fnPushOnWrong : ChangeSpec := { name := "fnPushOn", fn := fun _ => fun
  | [d] => { results := [.lit (.bool false)], args := [d] }
  | _ => none }
def FnPushOnWrongFalsely : Prop := fnPushOnRow.holds Try.pinned (OpenSpec.ofChange fnPushOnWrong)

/-- 'laws.FnRunTrace': WHATEVER THE INPUT: true; the input reads as it did. -/
def fnRunTraceSpec : ChangeSpec := { name := "fnRunTrace", fn := fun _ => fun
  | [d] => { results := [.lit (.bool true)], args := [d] }
  | _ => none }
def fnRunTraceRow : OpenClaim := { program := "ytcdajplmheladaa", sum := "86d0f4b7d04e94ff9d53a366b87e54bae6c353f720c0fbb67946a5e6f7a3d38c", func := "loop.example/wholechance/laws.FnRunTrace", spec := "fnRunTrace", recurses := true, apart := false }
def FnRunTraceSaid : Prop := fnRunTraceRow.holds Try.pinned (OpenSpec.ofChange fnRunTraceSpec)

/-- ITS FALSE NEIGHBOUR: 'it returns false'. Refute it at one input. -/
def fnRunTraceWrong : ChangeSpec := { name := "fnRunTrace", fn := fun _ => fun
  | [d] => { results := [.lit (.bool false)], args := [d] }
  | _ => none }
def FnRunTraceWrongFalsely : Prop := fnRunTraceRow.holds Try.pinned (OpenSpec.ofChange fnRunTraceWrong)

/-- 'laws.FnReduced': WHATEVER THE INPUT: true; the input reads as it did. -/
def fnReducedSpec : ChangeSpec := { name := "fnReduced", fn := fun _ => fun
  | [d1, d2] => { results := [.lit (.bool true)], args := [d1, d2] }
  | _ => none }
def fnReducedRow : OpenClaim := { program := "ytcdajplmheladaa", sum := "86d0f4b7d04e94ff9d53a366b87e54bae6c353f720c0fbb67946a5e6f7a3d38c", func := "loop.example/wholechance/laws.FnReduced", spec := "fnReduced", apart := false }
def FnReducedSaid : Prop := fnReducedRow.holds Try.pinned (OpenSpec.ofChange fnReducedSpec)

/-- ITS FALSE NEIGHBOUR: 'it returns false'. Refute it at one input. -/
def fnReducedWrong : ChangeSpec := { name := "fnReduced", fn := fun _ => fun
  | [d1, d2] => { results := [.lit (.bool false)], args := [d1, d2] }
  | _ => none }
def FnReducedWrongFalsely : Prop := fnReducedRow.holds Try.pinned (OpenSpec.ofChange fnReducedWrong)

/-- 'laws.FnAnswer': WHATEVER THE INPUT: true; the input reads as it did. -/
def fnAnswerSpec : ChangeSpec := { name := "fnAnswer", fn := fun _ => fun
  | [d] => { results := [.lit (.bool true)], args := [d] }
  | _ => none }
def fnAnswerRow : OpenClaim := { program := "ytcdajplmheladaa", sum := "86d0f4b7d04e94ff9d53a366b87e54bae6c353f720c0fbb67946a5e6f7a3d38c", func := "loop.example/wholechance/laws.FnAnswer", spec := "fnAnswer", apart := false }
def FnAnswerSaid : Prop := fnAnswerRow.holds Try.pinned (OpenSpec.ofChange fnAnswerSpec)

/-- ITS FALSE NEIGHBOUR: 'it returns false'. Refute it at one input. -/
def fnAnswerWrong : ChangeSpec := { name := "fnAnswer", fn := fun _ => fun
  | [d] => { results := [.lit (.bool false)], args := [d] }
  | _ => none }
def FnAnswerWrongFalsely : Prop := fnAnswerRow.holds Try.pinned (OpenSpec.ofChange fnAnswerWrong)

/-- 'laws.FnExactReduced': WHATEVER THE INPUT: true; the input reads as it did. -/
def fnExactReducedSpec : ChangeSpec := { name := "fnExactReduced", fn := fun _ => fun
  | [d] => { results := [.lit (.bool true)], args := [d] }
  | _ => none }
def fnExactReducedRow : OpenClaim := { program := "ytcdajplmheladaa", sum := "86d0f4b7d04e94ff9d53a366b87e54bae6c353f720c0fbb67946a5e6f7a3d38c", func := "loop.example/wholechance/laws.FnExactReduced", spec := "fnExactReduced", apart := false }
def FnExactReducedSaid : Prop := fnExactReducedRow.holds Try.pinned (OpenSpec.ofChange fnExactReducedSpec)

/-- ITS FALSE NEIGHBOUR: 'it returns false'. Refute it at one input. -/
def fnExactReducedWrong : ChangeSpec := { name := "fnExactReduced", fn := fun _ => fun
  | [d] => { results := [.lit (.bool false)], args := [d] }
  | _ => none }
def FnExactReducedWrongFalsely : Prop := fnExactReducedRow.holds Try.pinned (OpenSpec.ofChange fnExactReducedWrong)

/-- 'laws.FnExactFractionOf': WHATEVER THE INPUT: true; the input reads as it did. -/
def fnExactFractionOfSpec : ChangeSpec := { name := "fnExactFractionOf", fn := fun _ => fun
  | [d1, d2] => { results := [.lit (.bool true)], args := [d1, d2] }
  | _ => none }
def fnExactFractionOfRow : OpenClaim := { program := "ytcdajplmheladaa", sum := "86d0f4b7d04e94ff9d53a366b87e54bae6c353f720c0fbb67946a5e6f7a3d38c", func := "loop.example/wholechance/laws.FnExactFractionOf", spec := "fnExactFractionOf", apart := false }
def FnExactFractionOfSaid : Prop := fnExactFractionOfRow.holds Try.pinned (OpenSpec.ofChange fnExactFractionOfSpec)

/-- ITS FALSE NEIGHBOUR: 'it returns false'. Refute it at one input. -/
def fnExactFractionOfWrong : ChangeSpec := { name := "fnExactFractionOf", fn := fun _ => fun
  | [d1, d2] => { results := [.lit (.bool false)], args := [d1, d2] }
  | _ => none }
def FnExactFractionOfWrongFalsely : Prop := fnExactFractionOfRow.holds Try.pinned (OpenSpec.ofChange fnExactFractionOfWrong)

/-- 'laws.FnExactMarginalOf': WHATEVER THE INPUT: true; the input reads as it did. -/
def fnExactMarginalOfSpec : ChangeSpec := { name := "fnExactMarginalOf", fn := fun _ => fun
  | [d1, d2] => { results := [.lit (.bool true)], args := [d1, d2] }
  | _ => none }
def fnExactMarginalOfRow : OpenClaim := { program := "ytcdajplmheladaa", sum := "86d0f4b7d04e94ff9d53a366b87e54bae6c353f720c0fbb67946a5e6f7a3d38c", func := "loop.example/wholechance/laws.FnExactMarginalOf", spec := "fnExactMarginalOf", apart := false }
def FnExactMarginalOfSaid : Prop := fnExactMarginalOfRow.holds Try.pinned (OpenSpec.ofChange fnExactMarginalOfSpec)

/-- ITS FALSE NEIGHBOUR: 'it returns false'. Refute it at one input. -/
def fnExactMarginalOfWrong : ChangeSpec := { name := "fnExactMarginalOf", fn := fun _ => fun
  | [d1, d2] => { results := [.lit (.bool false)], args := [d1, d2] }
  | _ => none }
def FnExactMarginalOfWrongFalsely : Prop := fnExactMarginalOfRow.holds Try.pinned (OpenSpec.ofChange fnExactMarginalOfWrong)

/-- 'laws.FnExactGivenOf': WHATEVER THE INPUT: true; the input reads as it did. -/
def fnExactGivenOfSpec : ChangeSpec := { name := "fnExactGivenOf", fn := fun _ => fun
  | [d1, d2, d3] => { results := [.lit (.bool true)], args := [d1, d2, d3] }
  | _ => none }
def fnExactGivenOfRow : OpenClaim := { program := "ytcdajplmheladaa", sum := "86d0f4b7d04e94ff9d53a366b87e54bae6c353f720c0fbb67946a5e6f7a3d38c", func := "loop.example/wholechance/laws.FnExactGivenOf", spec := "fnExactGivenOf", apart := false }
def FnExactGivenOfSaid : Prop := fnExactGivenOfRow.holds Try.pinned (OpenSpec.ofChange fnExactGivenOfSpec)

/-- ITS FALSE NEIGHBOUR: 'it returns false'. Refute it at one input. -/
def fnExactGivenOfWrong : ChangeSpec := { name := "fnExactGivenOf", fn := fun _ => fun
  | [d1, d2, d3] => { results := [.lit (.bool false)], args := [d1, d2, d3] }
  | _ => none }
def FnExactGivenOfWrongFalsely : Prop := fnExactGivenOfRow.holds Try.pinned (OpenSpec.ofChange fnExactGivenOfWrong)

/-- 'laws.FnExactMeanOf': WHATEVER THE INPUT: true; the input reads as it did. -/
def fnExactMeanOfSpec : ChangeSpec := { name := "fnExactMeanOf", fn := fun _ => fun
  | [d1, d2] => { results := [.lit (.bool true)], args := [d1, d2] }
  | _ => none }
def fnExactMeanOfRow : OpenClaim := { program := "ytcdajplmheladaa", sum := "86d0f4b7d04e94ff9d53a366b87e54bae6c353f720c0fbb67946a5e6f7a3d38c", func := "loop.example/wholechance/laws.FnExactMeanOf", spec := "fnExactMeanOf", apart := false }
def FnExactMeanOfSaid : Prop := fnExactMeanOfRow.holds Try.pinned (OpenSpec.ofChange fnExactMeanOfSpec)

/-- ITS FALSE NEIGHBOUR: 'it returns false'. Refute it at one input. -/
def fnExactMeanOfWrong : ChangeSpec := { name := "fnExactMeanOf", fn := fun _ => fun
  | [d1, d2] => { results := [.lit (.bool false)], args := [d1, d2] }
  | _ => none }
def FnExactMeanOfWrongFalsely : Prop := fnExactMeanOfRow.holds Try.pinned (OpenSpec.ofChange fnExactMeanOfWrong)

/-- 'laws.FnExactAnswerOf': WHATEVER THE INPUT: true; the input reads as it did. -/
def fnExactAnswerOfSpec : ChangeSpec := { name := "fnExactAnswerOf", fn := fun _ => fun
  | [d] => { results := [.lit (.bool true)], args := [d] }
  | _ => none }
def fnExactAnswerOfRow : OpenClaim := { program := "ytcdajplmheladaa", sum := "86d0f4b7d04e94ff9d53a366b87e54bae6c353f720c0fbb67946a5e6f7a3d38c", func := "loop.example/wholechance/laws.FnExactAnswerOf", spec := "fnExactAnswerOf", apart := false }
def FnExactAnswerOfSaid : Prop := fnExactAnswerOfRow.holds Try.pinned (OpenSpec.ofChange fnExactAnswerOfSpec)

/-- ITS FALSE NEIGHBOUR: 'it returns false'. Refute it at one input. -/
def fnExactAnswerOfWrong : ChangeSpec := { name := "fnExactAnswerOf", fn := fun _ => fun
  | [d] => { results := [.lit (.bool false)], args := [d] }
  | _ => none }
def FnExactAnswerOfWrongFalsely : Prop := fnExactAnswerOfRow.holds Try.pinned (OpenSpec.ofChange fnExactAnswerOfWrong)

/-- 'laws.FnExactSameAnswer': WHATEVER THE INPUT: true; the input reads as it did. -/
def fnExactSameAnswerSpec : ChangeSpec := { name := "fnExactSameAnswer", fn := fun _ => fun
  | [d1, d2] => { results := [.lit (.bool true)], args := [d1, d2] }
  | _ => none }
def fnExactSameAnswerRow : OpenClaim := { program := "ytcdajplmheladaa", sum := "86d0f4b7d04e94ff9d53a366b87e54bae6c353f720c0fbb67946a5e6f7a3d38c", func := "loop.example/wholechance/laws.FnExactSameAnswer", spec := "fnExactSameAnswer", apart := false }
def FnExactSameAnswerSaid : Prop := fnExactSameAnswerRow.holds Try.pinned (OpenSpec.ofChange fnExactSameAnswerSpec)

/-- ITS FALSE NEIGHBOUR: 'it returns false'. Refute it at one input. -/
def fnExactSameAnswerWrong : ChangeSpec := { name := "fnExactSameAnswer", fn := fun _ => fun
  | [d1, d2] => { results := [.lit (.bool false)], args := [d1, d2] }
  | _ => none }
def FnExactSameAnswerWrongFalsely : Prop := fnExactSameAnswerRow.holds Try.pinned (OpenSpec.ofChange fnExactSameAnswerWrong)

/- THE SECOND FORM. 'bulk': how many values and letters a reading holds, each counted each time it is reached (what is shared counts as often as it is met; a slice's spare places count too). A statement '..UptoSaid' is the law's where the arguments, and the package variables that the reading takes, are together of bulk at most 1048576: NARROWER than '..Said'. Prove '..Said' where nothing that the law and all that it calls make is longer than what came in: it says more and counts as full. Else prove '..UptoSaid'. A law counts once. -/
mutual
def uptoBulk {H : Type} : DataW H → Nat
  | .lit (.string bytes) => bytes.length + 1
  | .lit _ => 1
  | .nil => 1
  | .ptr d => uptoBulk d + 1
  | .slice elems spare => uptoBulkAll elems + uptoBulkAll spare + 1
  | .agg parts => uptoBulkAll parts + 1
  | .iface _ d => uptoBulk d + 1
  | .map entries => uptoBulkEntries entries + 1
  | .held _ => 1
def uptoBulkAll {H : Type} : List (DataW H) → Nat
  | [] => 0
  | d :: r => uptoBulk d + uptoBulkAll r
def uptoBulkEntries {H : Type} : List (Lit × DataW H) → Nat
  | [] => 0
  | x :: r => uptoBulkEntry x + uptoBulkEntries r
def uptoBulkEntry {H : Type} : Lit × DataW H → Nat
  | (.string bytes, d) => bytes.length + uptoBulk d + 1
  | (_, d) => uptoBulk d + 1
 end
def uptoSmall : (H : Type) → List (DataW H) → Bool := fun _ ds => decide (uptoBulkAll ds ≤ 1048576)
def OpenSpec.upto (s : _root_.Go.ChangeSpec) : _root_.Go.OpenSpec := { _root_.Go.OpenSpec.ofChange s with cond := some uptoSmall }

/-- 'laws.FnExactPushOn', WHERE WHAT IT READS IS OF BULK AT MOST 1048576: true; the input reads as it did. -/
def fnExactPushOnUptoRow : OpenClaim := { program := "ytcdajplmheladaa", sum := "86d0f4b7d04e94ff9d53a366b87e54bae6c353f720c0fbb67946a5e6f7a3d38c", func := "loop.example/wholechance/laws.FnExactPushOn", spec := "fnExactPushOn", apart := false, narrowed := true }
def FnExactPushOnUptoSaid : Prop := fnExactPushOnUptoRow.holds Try.pinned (OpenSpec.upto fnExactPushOnSpec)

/-- 'laws.FnPushOn', WHERE WHAT IT READS IS OF BULK AT MOST 1048576: true; the input reads as it did. -/
def fnPushOnUptoRow : OpenClaim := { program := "ytcdajplmheladaa", sum := "86d0f4b7d04e94ff9d53a366b87e54bae6c353f720c0fbb67946a5e6f7a3d38c", func := "loop.example/wholechance/laws.FnPushOn", spec := "fnPushOn", apart := false, narrowed := true }
def FnPushOnUptoSaid : Prop := fnPushOnUptoRow.holds Try.pinned (OpenSpec.upto fnPushOnSpec)

/-- 'laws.FnRunTrace', WHERE WHAT IT READS IS OF BULK AT MOST 1048576: true; the input reads as it did. -/
def fnRunTraceUptoRow : OpenClaim := { program := "ytcdajplmheladaa", sum := "86d0f4b7d04e94ff9d53a366b87e54bae6c353f720c0fbb67946a5e6f7a3d38c", func := "loop.example/wholechance/laws.FnRunTrace", spec := "fnRunTrace", recurses := true, apart := false, narrowed := true }
def FnRunTraceUptoSaid : Prop := fnRunTraceUptoRow.holds Try.pinned (OpenSpec.upto fnRunTraceSpec)

/-- 'laws.FnReduced', WHERE WHAT IT READS IS OF BULK AT MOST 1048576: true; the input reads as it did. -/
def fnReducedUptoRow : OpenClaim := { program := "ytcdajplmheladaa", sum := "86d0f4b7d04e94ff9d53a366b87e54bae6c353f720c0fbb67946a5e6f7a3d38c", func := "loop.example/wholechance/laws.FnReduced", spec := "fnReduced", apart := false, narrowed := true }
def FnReducedUptoSaid : Prop := fnReducedUptoRow.holds Try.pinned (OpenSpec.upto fnReducedSpec)

/-- 'laws.FnAnswer', WHERE WHAT IT READS IS OF BULK AT MOST 1048576: true; the input reads as it did. -/
def fnAnswerUptoRow : OpenClaim := { program := "ytcdajplmheladaa", sum := "86d0f4b7d04e94ff9d53a366b87e54bae6c353f720c0fbb67946a5e6f7a3d38c", func := "loop.example/wholechance/laws.FnAnswer", spec := "fnAnswer", apart := false, narrowed := true }
def FnAnswerUptoSaid : Prop := fnAnswerUptoRow.holds Try.pinned (OpenSpec.upto fnAnswerSpec)

/-- 'laws.FnExactReduced', WHERE WHAT IT READS IS OF BULK AT MOST 1048576: true; the input reads as it did. -/
def fnExactReducedUptoRow : OpenClaim := { program := "ytcdajplmheladaa", sum := "86d0f4b7d04e94ff9d53a366b87e54bae6c353f720c0fbb67946a5e6f7a3d38c", func := "loop.example/wholechance/laws.FnExactReduced", spec := "fnExactReduced", apart := false, narrowed := true }
def FnExactReducedUptoSaid : Prop := fnExactReducedUptoRow.holds Try.pinned (OpenSpec.upto fnExactReducedSpec)

/-- 'laws.FnExactFractionOf', WHERE WHAT IT READS IS OF BULK AT MOST 1048576: true; the input reads as it did. -/
def fnExactFractionOfUptoRow : OpenClaim := { program := "ytcdajplmheladaa", sum := "86d0f4b7d04e94ff9d53a366b87e54bae6c353f720c0fbb67946a5e6f7a3d38c", func := "loop.example/wholechance/laws.FnExactFractionOf", spec := "fnExactFractionOf", apart := false, narrowed := true }
def FnExactFractionOfUptoSaid : Prop := fnExactFractionOfUptoRow.holds Try.pinned (OpenSpec.upto fnExactFractionOfSpec)

/-- 'laws.FnExactMarginalOf', WHERE WHAT IT READS IS OF BULK AT MOST 1048576: true; the input reads as it did. -/
def fnExactMarginalOfUptoRow : OpenClaim := { program := "ytcdajplmheladaa", sum := "86d0f4b7d04e94ff9d53a366b87e54bae6c353f720c0fbb67946a5e6f7a3d38c", func := "loop.example/wholechance/laws.FnExactMarginalOf", spec := "fnExactMarginalOf", apart := false, narrowed := true }
def FnExactMarginalOfUptoSaid : Prop := fnExactMarginalOfUptoRow.holds Try.pinned (OpenSpec.upto fnExactMarginalOfSpec)

/-- 'laws.FnExactGivenOf', WHERE WHAT IT READS IS OF BULK AT MOST 1048576: true; the input reads as it did. -/
def fnExactGivenOfUptoRow : OpenClaim := { program := "ytcdajplmheladaa", sum := "86d0f4b7d04e94ff9d53a366b87e54bae6c353f720c0fbb67946a5e6f7a3d38c", func := "loop.example/wholechance/laws.FnExactGivenOf", spec := "fnExactGivenOf", apart := false, narrowed := true }
def FnExactGivenOfUptoSaid : Prop := fnExactGivenOfUptoRow.holds Try.pinned (OpenSpec.upto fnExactGivenOfSpec)

/-- 'laws.FnExactMeanOf', WHERE WHAT IT READS IS OF BULK AT MOST 1048576: true; the input reads as it did. -/
def fnExactMeanOfUptoRow : OpenClaim := { program := "ytcdajplmheladaa", sum := "86d0f4b7d04e94ff9d53a366b87e54bae6c353f720c0fbb67946a5e6f7a3d38c", func := "loop.example/wholechance/laws.FnExactMeanOf", spec := "fnExactMeanOf", apart := false, narrowed := true }
def FnExactMeanOfUptoSaid : Prop := fnExactMeanOfUptoRow.holds Try.pinned (OpenSpec.upto fnExactMeanOfSpec)

/-- 'laws.FnExactAnswerOf', WHERE WHAT IT READS IS OF BULK AT MOST 1048576: true; the input reads as it did. -/
def fnExactAnswerOfUptoRow : OpenClaim := { program := "ytcdajplmheladaa", sum := "86d0f4b7d04e94ff9d53a366b87e54bae6c353f720c0fbb67946a5e6f7a3d38c", func := "loop.example/wholechance/laws.FnExactAnswerOf", spec := "fnExactAnswerOf", apart := false, narrowed := true }
def FnExactAnswerOfUptoSaid : Prop := fnExactAnswerOfUptoRow.holds Try.pinned (OpenSpec.upto fnExactAnswerOfSpec)

/-- 'laws.FnExactSameAnswer', WHERE WHAT IT READS IS OF BULK AT MOST 1048576: true; the input reads as it did. -/
def fnExactSameAnswerUptoRow : OpenClaim := { program := "ytcdajplmheladaa", sum := "86d0f4b7d04e94ff9d53a366b87e54bae6c353f720c0fbb67946a5e6f7a3d38c", func := "loop.example/wholechance/laws.FnExactSameAnswer", spec := "fnExactSameAnswer", apart := false, narrowed := true }
def FnExactSameAnswerUptoSaid : Prop := fnExactSameAnswerUptoRow.holds Try.pinned (OpenSpec.upto fnExactSameAnswerSpec)

end Rows
end Go.Proofs.Ytcdajplmheladaa
