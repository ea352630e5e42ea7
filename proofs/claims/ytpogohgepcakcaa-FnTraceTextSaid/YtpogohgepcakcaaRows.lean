/-
  No cell of these rows narrows 'for every input' (looked for: loops, veiled, ifaces, maps, wideKeys, modest, calm, conditions, laid).
  DERIVED. THE GIVEN ROWS OF THIS SEAT. 10 by the template 'for every input the law returns true; each argument reads behind the call as it read before'; 0 by the template 'total and deterministic' (their statements: YtpogohgepcakcaaTotals.lean).
  GIVEN WITH THE SEED: the statements are not yours to turn. If you find one false, say at which input.
  Laid BY PROGRAM, IN A SANDBOX (cutbox-rows.mjs): the forced cells as the released guide's own fill.sh prints them over the translation 79b8cea83b22f497… (all of the seat's roots in one cut). By AI agents, Wed Nov 11 2026. No macro, syntax, notation, axiom, sorry.
-/
import Derived.Test.YtpogohgepcakcaaChecked
import GoSem.Claim
import GoSem.ClaimJoined
import GoSem.ClaimMapViews
import Derived.JoinedTies
import Derived.KernelRfl
namespace Go.Proofs.Ytpogohgepcakcaa
/- THE CELL 'sum', in the pinned program and in every row, IS THE sha256 OF THE DUMP (.gsa) THAT YtpogohgepcakcaaProg.lean LOADS. Nothing in Lean hashes anything: it is a label: what it is worth is what the hold of that sum in a sandbox is worth. -/
noncomputable def Try.pinned : Pinned := { name := "ytpogohgepcakcaa", sum := "79b8cea83b22f497821cf7df147a801d8375c29caf3563116f45684ecdb491c6", checked := Try.checked }
namespace Rows
def none {H : Type} : Left H := { results := [], args := [] }

/-- 'laws.FnUnrolled': WHATEVER THE INPUT: true; the input reads as it did. -/
def fnUnrolledSpec : ChangeSpec := { name := "fnUnrolled", fn := fun _ => fun
  | [d] => { results := [.lit (.bool true)], args := [d] }
  | _ => none }
def fnUnrolledRow : OpenClaim := { program := "ytpogohgepcakcaa", sum := "79b8cea83b22f497821cf7df147a801d8375c29caf3563116f45684ecdb491c6", func := "loop.example/wholechance/laws.FnUnrolled", spec := "fnUnrolled", apart := false }
def FnUnrolledSaid : Prop := fnUnrolledRow.holds Try.pinned (OpenSpec.ofChange fnUnrolledSpec)

/-- ITS FALSE NEIGHBOUR: 'it returns false'. Refute it at one input. -/
def fnUnrolledWrong : ChangeSpec := { name := "fnUnrolled", fn := fun _ => fun
  | [d] => { results := [.lit (.bool false)], args := [d] }
  | _ => none }
def FnUnrolledWrongFalsely : Prop := fnUnrolledRow.holds Try.pinned (OpenSpec.ofChange fnUnrolledWrong)

/-- 'laws.FnTraces': WHATEVER THE INPUT: true; the input reads as it did. -/
def fnTracesSpec : ChangeSpec := { name := "fnTraces", fn := fun _ => fun
  | [d] => { results := [.lit (.bool true)], args := [d] }
  | _ => none }
def fnTracesRow : OpenClaim := { program := "ytpogohgepcakcaa", sum := "79b8cea83b22f497821cf7df147a801d8375c29caf3563116f45684ecdb491c6", func := "loop.example/wholechance/laws.FnTraces", spec := "fnTraces", recurses := true, apart := false }
def FnTracesSaid : Prop := fnTracesRow.holds Try.pinned (OpenSpec.ofChange fnTracesSpec)

/-- ITS FALSE NEIGHBOUR: 'it returns false'. Refute it at one input. -/
def fnTracesWrong : ChangeSpec := { name := "fnTraces", fn := fun _ => fun
  | [d] => { results := [.lit (.bool false)], args := [d] }
  | _ => none }
def FnTracesWrongFalsely : Prop := fnTracesRow.holds Try.pinned (OpenSpec.ofChange fnTracesWrong)

/-- 'laws.FnRunTrace': WHATEVER THE INPUT: true; the input reads as it did. -/
def fnRunTraceSpec : ChangeSpec := { name := "fnRunTrace", fn := fun _ => fun
  | [d] => { results := [.lit (.bool true)], args := [d] }
  | _ => none }
def fnRunTraceRow : OpenClaim := { program := "ytpogohgepcakcaa", sum := "79b8cea83b22f497821cf7df147a801d8375c29caf3563116f45684ecdb491c6", func := "loop.example/wholechance/laws.FnRunTrace", spec := "fnRunTrace", recurses := true, apart := false }
def FnRunTraceSaid : Prop := fnRunTraceRow.holds Try.pinned (OpenSpec.ofChange fnRunTraceSpec)

/-- ITS FALSE NEIGHBOUR: 'it returns false'. Refute it at one input. -/
def fnRunTraceWrong : ChangeSpec := { name := "fnRunTrace", fn := fun _ => fun
  | [d] => { results := [.lit (.bool false)], args := [d] }
  | _ => none }
def FnRunTraceWrongFalsely : Prop := fnRunTraceRow.holds Try.pinned (OpenSpec.ofChange fnRunTraceWrong)

/-- 'laws.FnTraceText': WHATEVER THE INPUT: true; the input reads as it did. -/
def fnTraceTextSpec : ChangeSpec := { name := "fnTraceText", fn := fun _ => fun
  | [d1, d2] => { results := [.lit (.bool true)], args := [d1, d2] }
  | _ => none }
def fnTraceTextRow : OpenClaim := { program := "ytpogohgepcakcaa", sum := "79b8cea83b22f497821cf7df147a801d8375c29caf3563116f45684ecdb491c6", func := "loop.example/wholechance/laws.FnTraceText", spec := "fnTraceText", recurses := true, apart := false }
def FnTraceTextSaid : Prop := fnTraceTextRow.holds Try.pinned (OpenSpec.ofChange fnTraceTextSpec)

/-- ITS FALSE NEIGHBOUR: 'it returns false'. Refute it at one input. -/
def fnTraceTextWrong : ChangeSpec := { name := "fnTraceText", fn := fun _ => fun
  | [d1, d2] => { results := [.lit (.bool false)], args := [d1, d2] }
  | _ => none }
def FnTraceTextWrongFalsely : Prop := fnTraceTextRow.holds Try.pinned (OpenSpec.ofChange fnTraceTextWrong)

/-- 'laws.FnExactCountDraws': WHATEVER THE INPUT: true; the input reads as it did. -/
def fnExactCountDrawsSpec : ChangeSpec := { name := "fnExactCountDraws", fn := fun _ => fun
  | [d] => { results := [.lit (.bool true)], args := [d] }
  | _ => none }
def fnExactCountDrawsRow : OpenClaim := { program := "ytpogohgepcakcaa", sum := "79b8cea83b22f497821cf7df147a801d8375c29caf3563116f45684ecdb491c6", func := "loop.example/wholechance/laws.FnExactCountDraws", spec := "fnExactCountDraws", apart := false }
def FnExactCountDrawsSaid : Prop := fnExactCountDrawsRow.holds Try.pinned (OpenSpec.ofChange fnExactCountDrawsSpec)

/-- ITS FALSE NEIGHBOUR: 'it returns false'. Refute it at one input. -/
def fnExactCountDrawsWrong : ChangeSpec := { name := "fnExactCountDraws", fn := fun _ => fun
  | [d] => { results := [.lit (.bool false)], args := [d] }
  | _ => none }
def FnExactCountDrawsWrongFalsely : Prop := fnExactCountDrawsRow.holds Try.pinned (OpenSpec.ofChange fnExactCountDrawsWrong)

/-- 'laws.FnExactRunTrace': WHATEVER THE INPUT: true; the input reads as it did. -/
def fnExactRunTraceSpec : ChangeSpec := { name := "fnExactRunTrace", fn := fun _ => fun
  | [d1, d2] => { results := [.lit (.bool true)], args := [d1, d2] }
  | _ => none }
def fnExactRunTraceRow : OpenClaim := { program := "ytpogohgepcakcaa", sum := "79b8cea83b22f497821cf7df147a801d8375c29caf3563116f45684ecdb491c6", func := "loop.example/wholechance/laws.FnExactRunTrace", spec := "fnExactRunTrace", apart := false }
def FnExactRunTraceSaid : Prop := fnExactRunTraceRow.holds Try.pinned (OpenSpec.ofChange fnExactRunTraceSpec)

/-- ITS FALSE NEIGHBOUR: 'it returns false'. Refute it at one input. -/
def fnExactRunTraceWrong : ChangeSpec := { name := "fnExactRunTrace", fn := fun _ => fun
  | [d1, d2] => { results := [.lit (.bool false)], args := [d1, d2] }
  | _ => none }
def FnExactRunTraceWrongFalsely : Prop := fnExactRunTraceRow.holds Try.pinned (OpenSpec.ofChange fnExactRunTraceWrong)

/-- 'laws.FnExactTracesOf': WHATEVER THE INPUT: true; the input reads as it did. -/
def fnExactTracesOfSpec : ChangeSpec := { name := "fnExactTracesOf", fn := fun _ => fun
  | [d] => { results := [.lit (.bool true)], args := [d] }
  | _ => none }
def fnExactTracesOfRow : OpenClaim := { program := "ytpogohgepcakcaa", sum := "79b8cea83b22f497821cf7df147a801d8375c29caf3563116f45684ecdb491c6", func := "loop.example/wholechance/laws.FnExactTracesOf", spec := "fnExactTracesOf", recurses := true, apart := false }
def FnExactTracesOfSaid : Prop := fnExactTracesOfRow.holds Try.pinned (OpenSpec.ofChange fnExactTracesOfSpec)

/-- ITS FALSE NEIGHBOUR: 'it returns false'. Refute it at one input. -/
def fnExactTracesOfWrong : ChangeSpec := { name := "fnExactTracesOf", fn := fun _ => fun
  | [d] => { results := [.lit (.bool false)], args := [d] }
  | _ => none }
def FnExactTracesOfWrongFalsely : Prop := fnExactTracesOfRow.holds Try.pinned (OpenSpec.ofChange fnExactTracesOfWrong)

/-- 'laws.FnExactTraceText': WHATEVER THE INPUT: true; the input reads as it did. -/
def fnExactTraceTextSpec : ChangeSpec := { name := "fnExactTraceText", fn := fun _ => fun
  | [d] => { results := [.lit (.bool true)], args := [d] }
  | _ => none }
def fnExactTraceTextRow : OpenClaim := { program := "ytpogohgepcakcaa", sum := "79b8cea83b22f497821cf7df147a801d8375c29caf3563116f45684ecdb491c6", func := "loop.example/wholechance/laws.FnExactTraceText", spec := "fnExactTraceText", apart := false }
def FnExactTraceTextSaid : Prop := fnExactTraceTextRow.holds Try.pinned (OpenSpec.ofChange fnExactTraceTextSpec)

/-- ITS FALSE NEIGHBOUR: 'it returns false'. Refute it at one input. -/
def fnExactTraceTextWrong : ChangeSpec := { name := "fnExactTraceText", fn := fun _ => fun
  | [d] => { results := [.lit (.bool false)], args := [d] }
  | _ => none }
def FnExactTraceTextWrongFalsely : Prop := fnExactTraceTextRow.holds Try.pinned (OpenSpec.ofChange fnExactTraceTextWrong)

/-- 'laws.FnExactReadTrace': WHATEVER THE INPUT: true; the input reads as it did. -/
def fnExactReadTraceSpec : ChangeSpec := { name := "fnExactReadTrace", fn := fun _ => fun
  | [d] => { results := [.lit (.bool true)], args := [d] }
  | _ => none }
def fnExactReadTraceRow : OpenClaim := { program := "ytpogohgepcakcaa", sum := "79b8cea83b22f497821cf7df147a801d8375c29caf3563116f45684ecdb491c6", func := "loop.example/wholechance/laws.FnExactReadTrace", spec := "fnExactReadTrace", apart := false }
def FnExactReadTraceSaid : Prop := fnExactReadTraceRow.holds Try.pinned (OpenSpec.ofChange fnExactReadTraceSpec)

/-- ITS FALSE NEIGHBOUR: 'it returns false'. Refute it at one input. -/
def fnExactReadTraceWrong : ChangeSpec := { name := "fnExactReadTrace", fn := fun _ => fun
  | [d] => { results := [.lit (.bool false)], args := [d] }
  | _ => none }
def FnExactReadTraceWrongFalsely : Prop := fnExactReadTraceRow.holds Try.pinned (OpenSpec.ofChange fnExactReadTraceWrong)

/-- 'laws.FnExactBestTrace': WHATEVER THE INPUT: true; the input reads as it did. -/
def fnExactBestTraceSpec : ChangeSpec := { name := "fnExactBestTrace", fn := fun _ => fun
  | [d] => { results := [.lit (.bool true)], args := [d] }
  | _ => none }
def fnExactBestTraceRow : OpenClaim := { program := "ytpogohgepcakcaa", sum := "79b8cea83b22f497821cf7df147a801d8375c29caf3563116f45684ecdb491c6", func := "loop.example/wholechance/laws.FnExactBestTrace", spec := "fnExactBestTrace", recurses := true, apart := false }
def FnExactBestTraceSaid : Prop := fnExactBestTraceRow.holds Try.pinned (OpenSpec.ofChange fnExactBestTraceSpec)

/-- ITS FALSE NEIGHBOUR: 'it returns false'. Refute it at one input. -/
def fnExactBestTraceWrong : ChangeSpec := { name := "fnExactBestTrace", fn := fun _ => fun
  | [d] => { results := [.lit (.bool false)], args := [d] }
  | _ => none }
def FnExactBestTraceWrongFalsely : Prop := fnExactBestTraceRow.holds Try.pinned (OpenSpec.ofChange fnExactBestTraceWrong)

/- THE SECOND FORM. 'bulk': how many values and letters a reading holds, each counted each time it is reached (what is shared counts as often as it is met; a slice's spare places count too). A statement '..UptoSaid' is the law's where the arguments, and the package variables that the reading takes, are together of bulk at most 1048576: NARROWER than '..Said'. Prove '..Said' where nothing that the law and all that it calls make is longer than what came in: it says more and counts as full. Else prove '..UptoSaid'. A law counts once. -/
mutual
def uptoBulk {H : Type} : DataW H → Nat
  | .lit (.string bytes) => bytes.length + 1
  | .lit _ => 1
  | .nil => 1
  | .ptr d => uptoBulk d + 1
  | .slice elems spare => uptoBulkAll elems + uptoBulkAll spare + 1
  | .agg parts => uptoBulkAll parts + 1
  | .iface _ d => uptoBulk d + 1
  | .map entries => uptoBulkEntries entries + 1
  | .held _ => 1
def uptoBulkAll {H : Type} : List (DataW H) → Nat
  | [] => 0
  | d :: r => uptoBulk d + uptoBulkAll r
def uptoBulkEntries {H : Type} : List (Lit × DataW H) → Nat
  | [] => 0
  | x :: r => uptoBulkEntry x + uptoBulkEntries r
def uptoBulkEntry {H : Type} : Lit × DataW H → Nat
  | (.string bytes, d) => bytes.length + uptoBulk d + 1
  | (_, d) => uptoBulk d + 1
 end
def uptoSmall : (H : Type) → List (DataW H) → Bool := fun _ ds => decide (uptoBulkAll ds ≤ 1048576)
def OpenSpec.upto (s : _root_.Go.ChangeSpec) : _root_.Go.OpenSpec := { _root_.Go.OpenSpec.ofChange s with cond := some uptoSmall }

/-- 'laws.FnUnrolled', WHERE WHAT IT READS IS OF BULK AT MOST 1048576: true; the input reads as it did. -/
def fnUnrolledUptoRow : OpenClaim := { program := "ytpogohgepcakcaa", sum := "79b8cea83b22f497821cf7df147a801d8375c29caf3563116f45684ecdb491c6", func := "loop.example/wholechance/laws.FnUnrolled", spec := "fnUnrolled", apart := false, narrowed := true }
def FnUnrolledUptoSaid : Prop := fnUnrolledUptoRow.holds Try.pinned (OpenSpec.upto fnUnrolledSpec)

/-- 'laws.FnTraces', WHERE WHAT IT READS IS OF BULK AT MOST 1048576: true; the input reads as it did. -/
def fnTracesUptoRow : OpenClaim := { program := "ytpogohgepcakcaa", sum := "79b8cea83b22f497821cf7df147a801d8375c29caf3563116f45684ecdb491c6", func := "loop.example/wholechance/laws.FnTraces", spec := "fnTraces", recurses := true, apart := false, narrowed := true }
def FnTracesUptoSaid : Prop := fnTracesUptoRow.holds Try.pinned (OpenSpec.upto fnTracesSpec)

/-- 'laws.FnRunTrace', WHERE WHAT IT READS IS OF BULK AT MOST 1048576: true; the input reads as it did. -/
def fnRunTraceUptoRow : OpenClaim := { program := "ytpogohgepcakcaa", sum := "79b8cea83b22f497821cf7df147a801d8375c29caf3563116f45684ecdb491c6", func := "loop.example/wholechance/laws.FnRunTrace", spec := "fnRunTrace", recurses := true, apart := false, narrowed := true }
def FnRunTraceUptoSaid : Prop := fnRunTraceUptoRow.holds Try.pinned (OpenSpec.upto fnRunTraceSpec)

/-- 'laws.FnTraceText', WHERE WHAT IT READS IS OF BULK AT MOST 1048576: true; the input reads as it did. -/
def fnTraceTextUptoRow : OpenClaim := { program := "ytpogohgepcakcaa", sum := "79b8cea83b22f497821cf7df147a801d8375c29caf3563116f45684ecdb491c6", func := "loop.example/wholechance/laws.FnTraceText", spec := "fnTraceText", recurses := true, apart := false, narrowed := true }
def FnTraceTextUptoSaid : Prop := fnTraceTextUptoRow.holds Try.pinned (OpenSpec.upto fnTraceTextSpec)

/-- 'laws.FnExactCountDraws', WHERE WHAT IT READS IS OF BULK AT MOST 1048576: true; the input reads as it did. -/
def fnExactCountDrawsUptoRow : OpenClaim := { program := "ytpogohgepcakcaa", sum := "79b8cea83b22f497821cf7df147a801d8375c29caf3563116f45684ecdb491c6", func := "loop.example/wholechance/laws.FnExactCountDraws", spec := "fnExactCountDraws", apart := false, narrowed := true }
def FnExactCountDrawsUptoSaid : Prop := fnExactCountDrawsUptoRow.holds Try.pinned (OpenSpec.upto fnExactCountDrawsSpec)

/-- 'laws.FnExactRunTrace', WHERE WHAT IT READS IS OF BULK AT MOST 1048576: true; the input reads as it did. -/
def fnExactRunTraceUptoRow : OpenClaim := { program := "ytpogohgepcakcaa", sum := "79b8cea83b22f497821cf7df147a801d8375c29caf3563116f45684ecdb491c6", func := "loop.example/wholechance/laws.FnExactRunTrace", spec := "fnExactRunTrace", apart := false, narrowed := true }
def FnExactRunTraceUptoSaid : Prop := fnExactRunTraceUptoRow.holds Try.pinned (OpenSpec.upto fnExactRunTraceSpec)

/-- 'laws.FnExactTracesOf', WHERE WHAT IT READS IS OF BULK AT MOST 1048576: true; the input reads as it did. -/
def fnExactTracesOfUptoRow : OpenClaim := { program := "ytpogohgepcakcaa", sum := "79b8cea83b22f497821cf7df147a801d8375c29caf3563116f45684ecdb491c6", func := "loop.example/wholechance/laws.FnExactTracesOf", spec := "fnExactTracesOf", recurses := true, apart := false, narrowed := true }
def FnExactTracesOfUptoSaid : Prop := fnExactTracesOfUptoRow.holds Try.pinned (OpenSpec.upto fnExactTracesOfSpec)

/-- 'laws.FnExactTraceText', WHERE WHAT IT READS IS OF BULK AT MOST 1048576: true; the input reads as it did. -/
def fnExactTraceTextUptoRow : OpenClaim := { program := "ytpogohgepcakcaa", sum := "79b8cea83b22f497821cf7df147a801d8375c29caf3563116f45684ecdb491c6", func := "loop.example/wholechance/laws.FnExactTraceText", spec := "fnExactTraceText", apart := false, narrowed := true }
def FnExactTraceTextUptoSaid : Prop := fnExactTraceTextUptoRow.holds Try.pinned (OpenSpec.upto fnExactTraceTextSpec)

/-- 'laws.FnExactReadTrace', WHERE WHAT IT READS IS OF BULK AT MOST 1048576: true; the input reads as it did. -/
def fnExactReadTraceUptoRow : OpenClaim := { program := "ytpogohgepcakcaa", sum := "79b8cea83b22f497821cf7df147a801d8375c29caf3563116f45684ecdb491c6", func := "loop.example/wholechance/laws.FnExactReadTrace", spec := "fnExactReadTrace", apart := false, narrowed := true }
def FnExactReadTraceUptoSaid : Prop := fnExactReadTraceUptoRow.holds Try.pinned (OpenSpec.upto fnExactReadTraceSpec)

/-- 'laws.FnExactBestTrace', WHERE WHAT IT READS IS OF BULK AT MOST 1048576: true; the input reads as it did. -/
def fnExactBestTraceUptoRow : OpenClaim := { program := "ytpogohgepcakcaa", sum := "79b8cea83b22f497821cf7df147a801d8375c29caf3563116f45684ecdb491c6", func := "loop.example/wholechance/laws.FnExactBestTrace", spec := "fnExactBestTrace", recurses := true, apart := false, narrowed := true }
def FnExactBestTraceUptoSaid : Prop := fnExactBestTraceUptoRow.holds Try.pinned (OpenSpec.upto fnExactBestTraceSpec)

end Rows
end Go.Proofs.Ytpogohgepcakcaa
