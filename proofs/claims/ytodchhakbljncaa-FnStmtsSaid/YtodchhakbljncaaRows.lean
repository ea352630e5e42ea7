/-
  No cell of these rows narrows 'for every input' (looked for: loops, veiled, ifaces, maps, wideKeys, modest, calm, conditions, laid).
  DERIVED. THE GIVEN ROWS OF THIS SEAT. 11 by the template 'for every input the law returns true; each argument reads behind the call as it read before'; 0 by the template 'total and deterministic' (their statements: YtodchhakbljncaaTotals.lean).
  GIVEN WITH THE SEED: the statements are not yours to turn. If you find one false, say at which input.
  Laid BY PROGRAM, IN A SANDBOX (cutbox-rows.mjs): the forced cells as the released guide's own fill.sh prints them over the translation 00d12b63f6d989fb… (all of the seat's roots in one cut). By AI agents, Wed Nov 11 2026. No macro, syntax, notation, axiom, sorry.
-/
import Derived.Test.YtodchhakbljncaaChecked
import GoSem.Claim
import GoSem.ClaimJoined
import GoSem.ClaimMapViews
import Derived.JoinedTies
import Derived.KernelRfl
namespace Go.Proofs.Ytodchhakbljncaa
/- THE CELL 'sum', in the pinned program and in every row, IS THE sha256 OF THE DUMP (.gsa) THAT YtodchhakbljncaaProg.lean LOADS. Nothing in Lean hashes anything: it is a label: what it is worth is what the hold of that sum in a sandbox is worth. -/
noncomputable def Try.pinned : Pinned := { name := "ytodchhakbljncaa", sum := "00d12b63f6d989fb167ac32a24f9e249599a9f827dcc2aeeb6bf1144fd7cd271", checked := Try.checked }
namespace Rows
def none {H : Type} : Left H := { results := [], args := [] }

/-- 'laws.FnUnrolled': WHATEVER THE INPUT: true; the input reads as it did. -/
def fnUnrolledSpec : ChangeSpec := { name := "fnUnrolled", fn := fun _ => fun
  | [d] => { results := [.lit (.bool true)], args := [d] }
  | _ => none }
def fnUnrolledRow : OpenClaim := { program := "ytodchhakbljncaa", sum := "00d12b63f6d989fb167ac32a24f9e249599a9f827dcc2aeeb6bf1144fd7cd271", func := "loop.example/wholechance/laws.FnUnrolled", spec := "fnUnrolled", apart := false }
def FnUnrolledSaid : Prop := fnUnrolledRow.holds Try.pinned (OpenSpec.ofChange fnUnrolledSpec)

/-- ITS FALSE NEIGHBOUR: 'it returns false'. Refute it at one input. -/
def fnUnrolledWrong : ChangeSpec := { name := "fnUnrolled", fn := fun _ => fun
  | [d] => { results := [.lit (.bool false)], args := [d] }
  | _ => none }
def FnUnrolledWrongFalsely : Prop := fnUnrolledRow.holds Try.pinned (OpenSpec.ofChange fnUnrolledWrong)

/-- 'laws.FnStmts': WHATEVER THE INPUT: true; the input reads as it did. -/
def fnStmtsSpec : ChangeSpec := { name := "fnStmts", fn := fun _ => fun
  | [d1, d2] => { results := [.lit (.bool true)], args := [d1, d2] }
  | _ => none }
def fnStmtsRow : OpenClaim := { program := "ytodchhakbljncaa", sum := "00d12b63f6d989fb167ac32a24f9e249599a9f827dcc2aeeb6bf1144fd7cd271", func := "loop.example/wholechance/laws.FnStmts", spec := "fnStmts", apart := false }
def FnStmtsSaid : Prop := fnStmtsRow.holds Try.pinned (OpenSpec.ofChange fnStmtsSpec)

/-- ITS FALSE NEIGHBOUR: 'it returns false'. Refute it at one input. -/
def fnStmtsWrong : ChangeSpec := { name := "fnStmts", fn := fun _ => fun
  | [d1, d2] => { results := [.lit (.bool false)], args := [d1, d2] }
  | _ => none }
def FnStmtsWrongFalsely : Prop := fnStmtsRow.holds Try.pinned (OpenSpec.ofChange fnStmtsWrong)

/-- 'laws.FnExactStmtOk': WHATEVER THE INPUT: true; the input reads as it did. -/
def fnExactStmtOkSpec : ChangeSpec := { name := "fnExactStmtOk", fn := fun _ => fun
  | [d] => { results := [.lit (.bool true)], args := [d] }
  | _ => none }
def fnExactStmtOkRow : OpenClaim := { program := "ytodchhakbljncaa", sum := "00d12b63f6d989fb167ac32a24f9e249599a9f827dcc2aeeb6bf1144fd7cd271", func := "loop.example/wholechance/laws.FnExactStmtOk", spec := "fnExactStmtOk", apart := false }
def FnExactStmtOkSaid : Prop := fnExactStmtOkRow.holds Try.pinned (OpenSpec.ofChange fnExactStmtOkSpec)

/-- ITS FALSE NEIGHBOUR: 'it returns false'. Refute it at one input. -/
def fnExactStmtOkWrong : ChangeSpec := { name := "fnExactStmtOk", fn := fun _ => fun
  | [d] => { results := [.lit (.bool false)], args := [d] }
  | _ => none }
def FnExactStmtOkWrongFalsely : Prop := fnExactStmtOkRow.holds Try.pinned (OpenSpec.ofChange fnExactStmtOkWrong)

/-- 'laws.FnExactUnrolled': WHATEVER THE INPUT: true; the input reads as it did. -/
def fnExactUnrolledSpec : ChangeSpec := { name := "fnExactUnrolled", fn := fun _ => fun
  | [d] => { results := [.lit (.bool true)], args := [d] }
  | _ => none }
def fnExactUnrolledRow : OpenClaim := { program := "ytodchhakbljncaa", sum := "00d12b63f6d989fb167ac32a24f9e249599a9f827dcc2aeeb6bf1144fd7cd271", func := "loop.example/wholechance/laws.FnExactUnrolled", spec := "fnExactUnrolled", apart := false }
def FnExactUnrolledSaid : Prop := fnExactUnrolledRow.holds Try.pinned (OpenSpec.ofChange fnExactUnrolledSpec)

/-- ITS FALSE NEIGHBOUR: 'it returns false'. Refute it at one input. -/
def fnExactUnrolledWrong : ChangeSpec := { name := "fnExactUnrolled", fn := fun _ => fun
  | [d] => { results := [.lit (.bool false)], args := [d] }
  | _ => none }
def FnExactUnrolledWrongFalsely : Prop := fnExactUnrolledRow.holds Try.pinned (OpenSpec.ofChange fnExactUnrolledWrong)

/-- 'laws.FnExactProgramOk': WHATEVER THE INPUT: true; the input reads as it did. -/
def fnExactProgramOkSpec : ChangeSpec := { name := "fnExactProgramOk", fn := fun _ => fun
  | [d] => { results := [.lit (.bool true)], args := [d] }
  | _ => none }
def fnExactProgramOkRow : OpenClaim := { program := "ytodchhakbljncaa", sum := "00d12b63f6d989fb167ac32a24f9e249599a9f827dcc2aeeb6bf1144fd7cd271", func := "loop.example/wholechance/laws.FnExactProgramOk", spec := "fnExactProgramOk", apart := false }
def FnExactProgramOkSaid : Prop := fnExactProgramOkRow.holds Try.pinned (OpenSpec.ofChange fnExactProgramOkSpec)

/-- ITS FALSE NEIGHBOUR: 'it returns false'. Refute it at one input. -/
def fnExactProgramOkWrong : ChangeSpec := { name := "fnExactProgramOk", fn := fun _ => fun
  | [d] => { results := [.lit (.bool false)], args := [d] }
  | _ => none }
def FnExactProgramOkWrongFalsely : Prop := fnExactProgramOkRow.holds Try.pinned (OpenSpec.ofChange fnExactProgramOkWrong)

/-- 'laws.FnExactPlainOk': WHATEVER THE INPUT: true; the input reads as it did. -/
def fnExactPlainOkSpec : ChangeSpec := { name := "fnExactPlainOk", fn := fun _ => fun
  | [d] => { results := [.lit (.bool true)], args := [d] }
  | _ => none }
def fnExactPlainOkRow : OpenClaim := { program := "ytodchhakbljncaa", sum := "00d12b63f6d989fb167ac32a24f9e249599a9f827dcc2aeeb6bf1144fd7cd271", func := "loop.example/wholechance/laws.FnExactPlainOk", spec := "fnExactPlainOk", apart := false }
def FnExactPlainOkSaid : Prop := fnExactPlainOkRow.holds Try.pinned (OpenSpec.ofChange fnExactPlainOkSpec)

/-- ITS FALSE NEIGHBOUR: 'it returns false'. Refute it at one input. -/
def fnExactPlainOkWrong : ChangeSpec := { name := "fnExactPlainOk", fn := fun _ => fun
  | [d] => { results := [.lit (.bool false)], args := [d] }
  | _ => none }
def FnExactPlainOkWrongFalsely : Prop := fnExactPlainOkRow.holds Try.pinned (OpenSpec.ofChange fnExactPlainOkWrong)

/-- 'laws.FnExactStmtReads': WHATEVER THE INPUT: true; the input reads as it did. -/
def fnExactStmtReadsSpec : ChangeSpec := { name := "fnExactStmtReads", fn := fun _ => fun
  | [d] => { results := [.lit (.bool true)], args := [d] }
  | _ => none }
def fnExactStmtReadsRow : OpenClaim := { program := "ytodchhakbljncaa", sum := "00d12b63f6d989fb167ac32a24f9e249599a9f827dcc2aeeb6bf1144fd7cd271", func := "loop.example/wholechance/laws.FnExactStmtReads", spec := "fnExactStmtReads", apart := false }
def FnExactStmtReadsSaid : Prop := fnExactStmtReadsRow.holds Try.pinned (OpenSpec.ofChange fnExactStmtReadsSpec)

/-- ITS FALSE NEIGHBOUR: 'it returns false'. Refute it at one input. -/
def fnExactStmtReadsWrong : ChangeSpec := { name := "fnExactStmtReads", fn := fun _ => fun
  | [d] => { results := [.lit (.bool false)], args := [d] }
  | _ => none }
def FnExactStmtReadsWrongFalsely : Prop := fnExactStmtReadsRow.holds Try.pinned (OpenSpec.ofChange fnExactStmtReadsWrong)

/-- 'laws.FnExactStmtSets': WHATEVER THE INPUT: true; the input reads as it did. -/
def fnExactStmtSetsSpec : ChangeSpec := { name := "fnExactStmtSets", fn := fun _ => fun
  | [d] => { results := [.lit (.bool true)], args := [d] }
  | _ => none }
def fnExactStmtSetsRow : OpenClaim := { program := "ytodchhakbljncaa", sum := "00d12b63f6d989fb167ac32a24f9e249599a9f827dcc2aeeb6bf1144fd7cd271", func := "loop.example/wholechance/laws.FnExactStmtSets", spec := "fnExactStmtSets", apart := false }
def FnExactStmtSetsSaid : Prop := fnExactStmtSetsRow.holds Try.pinned (OpenSpec.ofChange fnExactStmtSetsSpec)

/-- ITS FALSE NEIGHBOUR: 'it returns false'. Refute it at one input. -/
def fnExactStmtSetsWrong : ChangeSpec := { name := "fnExactStmtSets", fn := fun _ => fun
  | [d] => { results := [.lit (.bool false)], args := [d] }
  | _ => none }
def FnExactStmtSetsWrongFalsely : Prop := fnExactStmtSetsRow.holds Try.pinned (OpenSpec.ofChange fnExactStmtSetsWrong)

/-- 'laws.FnExactValueAt': WHATEVER THE INPUT: true; the input reads as it did. -/
def fnExactValueAtSpec : ChangeSpec := { name := "fnExactValueAt", fn := fun _ => fun
  | [d1, d2] => { results := [.lit (.bool true)], args := [d1, d2] }
  | _ => none }
def fnExactValueAtRow : OpenClaim := { program := "ytodchhakbljncaa", sum := "00d12b63f6d989fb167ac32a24f9e249599a9f827dcc2aeeb6bf1144fd7cd271", func := "loop.example/wholechance/laws.FnExactValueAt", spec := "fnExactValueAt", apart := false }
def FnExactValueAtSaid : Prop := fnExactValueAtRow.holds Try.pinned (OpenSpec.ofChange fnExactValueAtSpec)

/-- ITS FALSE NEIGHBOUR: 'it returns false'. Refute it at one input. -/
def fnExactValueAtWrong : ChangeSpec := { name := "fnExactValueAt", fn := fun _ => fun
  | [d1, d2] => { results := [.lit (.bool false)], args := [d1, d2] }
  | _ => none }
def FnExactValueAtWrongFalsely : Prop := fnExactValueAtRow.holds Try.pinned (OpenSpec.ofChange fnExactValueAtWrong)

/-- 'laws.FnExactWithValue': WHATEVER THE INPUT: true; the input reads as it did. -/
def fnExactWithValueSpec : ChangeSpec := { name := "fnExactWithValue", fn := fun _ => fun
  | [d1, d2, d3] => { results := [.lit (.bool true)], args := [d1, d2, d3] }
  | _ => none }
def fnExactWithValueRow : OpenClaim := { program := "ytodchhakbljncaa", sum := "00d12b63f6d989fb167ac32a24f9e249599a9f827dcc2aeeb6bf1144fd7cd271", func := "loop.example/wholechance/laws.FnExactWithValue", spec := "fnExactWithValue", apart := false }
def FnExactWithValueSaid : Prop := fnExactWithValueRow.holds Try.pinned (OpenSpec.ofChange fnExactWithValueSpec)

/-- ITS FALSE NEIGHBOUR: 'it returns false'. Refute it at one input. -/
def fnExactWithValueWrong : ChangeSpec := { name := "fnExactWithValue", fn := fun _ => fun
  | [d1, d2, d3] => { results := [.lit (.bool false)], args := [d1, d2, d3] }
  | _ => none }
def FnExactWithValueWrongFalsely : Prop := fnExactWithValueRow.holds Try.pinned (OpenSpec.ofChange fnExactWithValueWrong)

/-- 'laws.FnExactCountDraws': WHATEVER THE INPUT: true; the input reads as it did. -/
def fnExactCountDrawsSpec : ChangeSpec := { name := "fnExactCountDraws", fn := fun _ => fun
  | [d] => { results := [.lit (.bool true)], args := [d] }
  | _ => none }
def fnExactCountDrawsRow : OpenClaim := { program := "ytodchhakbljncaa", sum := "00d12b63f6d989fb167ac32a24f9e249599a9f827dcc2aeeb6bf1144fd7cd271", func := "loop.example/wholechance/laws.FnExactCountDraws", spec := "fnExactCountDraws", apart := false }
def FnExactCountDrawsSaid : Prop := fnExactCountDrawsRow.holds Try.pinned (OpenSpec.ofChange fnExactCountDrawsSpec)

/-- ITS FALSE NEIGHBOUR: 'it returns false'. Refute it at one input. -/
def fnExactCountDrawsWrong : ChangeSpec := { name := "fnExactCountDraws", fn := fun _ => fun
  | [d] => { results := [.lit (.bool false)], args := [d] }
  | _ => none }
def FnExactCountDrawsWrongFalsely : Prop := fnExactCountDrawsRow.holds Try.pinned (OpenSpec.ofChange fnExactCountDrawsWrong)

/- THE SECOND FORM. 'bulk': how many values and letters a reading holds, each counted each time it is reached (what is shared counts as often as it is met; a slice's spare places count too). A statement '..UptoSaid' is the law's where the arguments, and the package variables that the reading takes, are together of bulk at most 1048576: NARROWER than '..Said'. Prove '..Said' where nothing that the law and all that it calls make is longer than what came in: it says more and counts as full. Else prove '..UptoSaid'. A law counts once. -/
mutual
def uptoBulk {H : Type} : DataW H → Nat
  | .lit (.string bytes) => bytes.length + 1
  | .lit _ => 1
  | .nil => 1
  | .ptr d => uptoBulk d + 1
  | .slice elems spare => uptoBulkAll elems + uptoBulkAll spare + 1
  | .agg parts => uptoBulkAll parts + 1
  | .iface _ d => uptoBulk d + 1
  | .map entries => uptoBulkEntries entries + 1
  | .held _ => 1
def uptoBulkAll {H : Type} : List (DataW H) → Nat
  | [] => 0
  | d :: r => uptoBulk d + uptoBulkAll r
def uptoBulkEntries {H : Type} : List (Lit × DataW H) → Nat
  | [] => 0
  | x :: r => uptoBulkEntry x + uptoBulkEntries r
def uptoBulkEntry {H : Type} : Lit × DataW H → Nat
  | (.string bytes, d) => bytes.length + uptoBulk d + 1
  | (_, d) => uptoBulk d + 1
 end
def uptoSmall : (H : Type) → List (DataW H) → Bool := fun _ ds => decide (uptoBulkAll ds ≤ 1048576)
def OpenSpec.upto (s : _root_.Go.ChangeSpec) : _root_.Go.OpenSpec := { _root_.Go.OpenSpec.ofChange s with cond := some uptoSmall }

/-- 'laws.FnUnrolled', WHERE WHAT IT READS IS OF BULK AT MOST 1048576: true; the input reads as it did. -/
def fnUnrolledUptoRow : OpenClaim := { program := "ytodchhakbljncaa", sum := "00d12b63f6d989fb167ac32a24f9e249599a9f827dcc2aeeb6bf1144fd7cd271", func := "loop.example/wholechance/laws.FnUnrolled", spec := "fnUnrolled", apart := false, narrowed := true }
def FnUnrolledUptoSaid : Prop := fnUnrolledUptoRow.holds Try.pinned (OpenSpec.upto fnUnrolledSpec)

/-- 'laws.FnStmts', WHERE WHAT IT READS IS OF BULK AT MOST 1048576: true; the input reads as it did. -/
def fnStmtsUptoRow : OpenClaim := { program := "ytodchhakbljncaa", sum := "00d12b63f6d989fb167ac32a24f9e249599a9f827dcc2aeeb6bf1144fd7cd271", func := "loop.example/wholechance/laws.FnStmts", spec := "fnStmts", apart := false, narrowed := true }
def FnStmtsUptoSaid : Prop := fnStmtsUptoRow.holds Try.pinned (OpenSpec.upto fnStmtsSpec)

/-- 'laws.FnExactStmtOk', WHERE WHAT IT READS IS OF BULK AT MOST 1048576: true; the input reads as it did. -/
def fnExactStmtOkUptoRow : OpenClaim := { program := "ytodchhakbljncaa", sum := "00d12b63f6d989fb167ac32a24f9e249599a9f827dcc2aeeb6bf1144fd7cd271", func := "loop.example/wholechance/laws.FnExactStmtOk", spec := "fnExactStmtOk", apart := false, narrowed := true }
def FnExactStmtOkUptoSaid : Prop := fnExactStmtOkUptoRow.holds Try.pinned (OpenSpec.upto fnExactStmtOkSpec)

/-- 'laws.FnExactUnrolled', WHERE WHAT IT READS IS OF BULK AT MOST 1048576: true; the input reads as it did. -/
def fnExactUnrolledUptoRow : OpenClaim := { program := "ytodchhakbljncaa", sum := "00d12b63f6d989fb167ac32a24f9e249599a9f827dcc2aeeb6bf1144fd7cd271", func := "loop.example/wholechance/laws.FnExactUnrolled", spec := "fnExactUnrolled", apart := false, narrowed := true }
def FnExactUnrolledUptoSaid : Prop := fnExactUnrolledUptoRow.holds Try.pinned (OpenSpec.upto fnExactUnrolledSpec)

/-- 'laws.FnExactProgramOk', WHERE WHAT IT READS IS OF BULK AT MOST 1048576: true; the input reads as it did. -/
def fnExactProgramOkUptoRow : OpenClaim := { program := "ytodchhakbljncaa", sum := "00d12b63f6d989fb167ac32a24f9e249599a9f827dcc2aeeb6bf1144fd7cd271", func := "loop.example/wholechance/laws.FnExactProgramOk", spec := "fnExactProgramOk", apart := false, narrowed := true }
def FnExactProgramOkUptoSaid : Prop := fnExactProgramOkUptoRow.holds Try.pinned (OpenSpec.upto fnExactProgramOkSpec)

/-- 'laws.FnExactPlainOk', WHERE WHAT IT READS IS OF BULK AT MOST 1048576: true; the input reads as it did. -/
def fnExactPlainOkUptoRow : OpenClaim := { program := "ytodchhakbljncaa", sum := "00d12b63f6d989fb167ac32a24f9e249599a9f827dcc2aeeb6bf1144fd7cd271", func := "loop.example/wholechance/laws.FnExactPlainOk", spec := "fnExactPlainOk", apart := false, narrowed := true }
def FnExactPlainOkUptoSaid : Prop := fnExactPlainOkUptoRow.holds Try.pinned (OpenSpec.upto fnExactPlainOkSpec)

/-- 'laws.FnExactStmtReads', WHERE WHAT IT READS IS OF BULK AT MOST 1048576: true; the input reads as it did. -/
def fnExactStmtReadsUptoRow : OpenClaim := { program := "ytodchhakbljncaa", sum := "00d12b63f6d989fb167ac32a24f9e249599a9f827dcc2aeeb6bf1144fd7cd271", func := "loop.example/wholechance/laws.FnExactStmtReads", spec := "fnExactStmtReads", apart := false, narrowed := true }
def FnExactStmtReadsUptoSaid : Prop := fnExactStmtReadsUptoRow.holds Try.pinned (OpenSpec.upto fnExactStmtReadsSpec)

/-- 'laws.FnExactStmtSets', WHERE WHAT IT READS IS OF BULK AT MOST 1048576: true; the input reads as it did. -/
def fnExactStmtSetsUptoRow : OpenClaim := { program := "ytodchhakbljncaa", sum := "00d12b63f6d989fb167ac32a24f9e249599a9f827dcc2aeeb6bf1144fd7cd271", func := "loop.example/wholechance/laws.FnExactStmtSets", spec := "fnExactStmtSets", apart := false, narrowed := true }
def FnExactStmtSetsUptoSaid : Prop := fnExactStmtSetsUptoRow.holds Try.pinned (OpenSpec.upto fnExactStmtSetsSpec)

/-- 'laws.FnExactValueAt', WHERE WHAT IT READS IS OF BULK AT MOST 1048576: true; the input reads as it did. -/
def fnExactValueAtUptoRow : OpenClaim := { program := "ytodchhakbljncaa", sum := "00d12b63f6d989fb167ac32a24f9e249599a9f827dcc2aeeb6bf1144fd7cd271", func := "loop.example/wholechance/laws.FnExactValueAt", spec := "fnExactValueAt", apart := false, narrowed := true }
def FnExactValueAtUptoSaid : Prop := fnExactValueAtUptoRow.holds Try.pinned (OpenSpec.upto fnExactValueAtSpec)

/-- 'laws.FnExactWithValue', WHERE WHAT IT READS IS OF BULK AT MOST 1048576: true; the input reads as it did. -/
def fnExactWithValueUptoRow : OpenClaim := { program := "ytodchhakbljncaa", sum := "00d12b63f6d989fb167ac32a24f9e249599a9f827dcc2aeeb6bf1144fd7cd271", func := "loop.example/wholechance/laws.FnExactWithValue", spec := "fnExactWithValue", apart := false, narrowed := true }
def FnExactWithValueUptoSaid : Prop := fnExactWithValueUptoRow.holds Try.pinned (OpenSpec.upto fnExactWithValueSpec)

/-- 'laws.FnExactCountDraws', WHERE WHAT IT READS IS OF BULK AT MOST 1048576: true; the input reads as it did. -/
def fnExactCountDrawsUptoRow : OpenClaim := { program := "ytodchhakbljncaa", sum := "00d12b63f6d989fb167ac32a24f9e249599a9f827dcc2aeeb6bf1144fd7cd271", func := "loop.example/wholechance/laws.FnExactCountDraws", spec := "fnExactCountDraws", apart := false, narrowed := true }
def FnExactCountDrawsUptoSaid : Prop := fnExactCountDrawsUptoRow.holds Try.pinned (OpenSpec.upto fnExactCountDrawsSpec)

end Rows
end Go.Proofs.Ytodchhakbljncaa
