/-
  No cell of these rows narrows 'for every input' (looked for: loops, veiled, ifaces, maps, wideKeys, modest, calm, conditions, laid).
  DERIVED. THE GIVEN ROWS OF THIS SEAT. 8 by the template 'for every input the law returns true; each argument reads behind the call as it read before'; 0 by the template 'total and deterministic' (their statements: YtcphclkaddhfmaaTotals.lean).
  GIVEN WITH THE SEED: the statements are not yours to turn. If you find one false, say at which input.
  Laid BY PROGRAM, IN A SANDBOX (cutbox-rows.mjs): the forced cells as the released guide's own fill.sh prints them over the translation 02a606457a4ef15b… (all of the seat's roots in one cut). By AI agents, Wed Nov 11 2026. No macro, syntax, notation, axiom, sorry.
-/
import Derived.Test.YtcphclkaddhfmaaChecked
import GoSem.Claim
import GoSem.ClaimJoined
import GoSem.ClaimMapViews
import Derived.JoinedTies
import Derived.KernelRfl
namespace Go.Proofs.Ytcphclkaddhfmaa
/- THE CELL 'sum', in the pinned program and in every row, IS THE sha256 OF THE DUMP (.gsa) THAT YtcphclkaddhfmaaProg.lean LOADS. Nothing in Lean hashes anything: it is a label: what it is worth is what the hold of that sum in a sandbox is worth. -/
noncomputable def Try.pinned : Pinned := { name := "ytcphclkaddhfmaa", sum := "02a606457a4ef15bb0dcf35db23ec101da7db147c9265fe0bb2ce7d976ee79b8", checked := Try.checked }
namespace Rows
def none {H : Type} : Left H := { results := [], args := [] }

/-- 'laws.FnChanceOf': WHATEVER THE INPUT: true; the input reads as it did. -/
def fnChanceOfSpec : ChangeSpec := { name := "fnChanceOf", fn := fun _ => fun
  | [d] => { results := [.lit (.bool true)], args := [d] }
  | _ => none }
def fnChanceOfRow : OpenClaim := { program := "ytcphclkaddhfmaa", sum := "02a606457a4ef15bb0dcf35db23ec101da7db147c9265fe0bb2ce7d976ee79b8", func := "loop.example/wholechance/laws.FnChanceOf", spec := "fnChanceOf", apart := false }
def FnChanceOfSaid : Prop := fnChanceOfRow.holds Try.pinned (OpenSpec.ofChange fnChanceOfSpec)

/-- ITS FALSE NEIGHBOUR: 'it returns false'. Refute it at one input. -/
def fnChanceOfWrong : ChangeSpec := { name := "fnChanceOf", fn := fun _ => fun
  | [d] => { results := [.lit (.bool false)], args := [d] }
  | _ => none }
def FnChanceOfWrongFalsely : Prop := fnChanceOfRow.holds Try.pinned (OpenSpec.ofChange fnChanceOfWrong)

/-- 'laws.FnExactValuesBack': WHATEVER THE INPUT: true; the input reads as it did. -/
def fnExactValuesBackSpec : ChangeSpec := { name := "fnExactValuesBack", fn := fun _ => fun
  | [d1, d2] => { results := [.lit (.bool true)], args := [d1, d2] }
  | _ => none }
def fnExactValuesBackRow : OpenClaim := { program := "ytcphclkaddhfmaa", sum := "02a606457a4ef15bb0dcf35db23ec101da7db147c9265fe0bb2ce7d976ee79b8", func := "loop.example/wholechance/laws.FnExactValuesBack", spec := "fnExactValuesBack", apart := false }
def FnExactValuesBackSaid : Prop := fnExactValuesBackRow.holds Try.pinned (OpenSpec.ofChange fnExactValuesBackSpec)

/-- ITS FALSE NEIGHBOUR: 'it returns false'. Refute it at one input. -/
def fnExactValuesBackWrong : ChangeSpec := { name := "fnExactValuesBack", fn := fun _ => fun
  | [d1, d2] => { results := [.lit (.bool false)], args := [d1, d2] }
  | _ => none }
def FnExactValuesBackWrongFalsely : Prop := fnExactValuesBackRow.holds Try.pinned (OpenSpec.ofChange fnExactValuesBackWrong)

/-- 'laws.FnExactStepBack': WHATEVER THE INPUT: true; the input reads as it did. -/
def fnExactStepBackSpec : ChangeSpec := { name := "fnExactStepBack", fn := fun _ => fun
  | [d1, d2] => { results := [.lit (.bool true)], args := [d1, d2] }
  | _ => none }
def fnExactStepBackRow : OpenClaim := { program := "ytcphclkaddhfmaa", sum := "02a606457a4ef15bb0dcf35db23ec101da7db147c9265fe0bb2ce7d976ee79b8", func := "loop.example/wholechance/laws.FnExactStepBack", spec := "fnExactStepBack", apart := false }
def FnExactStepBackSaid : Prop := fnExactStepBackRow.holds Try.pinned (OpenSpec.ofChange fnExactStepBackSpec)

/-- ITS FALSE NEIGHBOUR: 'it returns false'. Refute it at one input. -/
def fnExactStepBackWrong : ChangeSpec := { name := "fnExactStepBack", fn := fun _ => fun
  | [d1, d2] => { results := [.lit (.bool false)], args := [d1, d2] }
  | _ => none }
def FnExactStepBackWrongFalsely : Prop := fnExactStepBackRow.holds Try.pinned (OpenSpec.ofChange fnExactStepBackWrong)

/-- 'laws.FnExactEventOf': WHATEVER THE INPUT: true; the input reads as it did. -/
def fnExactEventOfSpec : ChangeSpec := { name := "fnExactEventOf", fn := fun _ => fun
  | [d1, d2] => { results := [.lit (.bool true)], args := [d1, d2] }
  | _ => none }
def fnExactEventOfRow : OpenClaim := { program := "ytcphclkaddhfmaa", sum := "02a606457a4ef15bb0dcf35db23ec101da7db147c9265fe0bb2ce7d976ee79b8", func := "loop.example/wholechance/laws.FnExactEventOf", spec := "fnExactEventOf", apart := false }
def FnExactEventOfSaid : Prop := fnExactEventOfRow.holds Try.pinned (OpenSpec.ofChange fnExactEventOfSpec)

/-- ITS FALSE NEIGHBOUR: 'it returns false'. Refute it at one input. -/
def fnExactEventOfWrong : ChangeSpec := { name := "fnExactEventOf", fn := fun _ => fun
  | [d1, d2] => { results := [.lit (.bool false)], args := [d1, d2] }
  | _ => none }
def FnExactEventOfWrongFalsely : Prop := fnExactEventOfRow.holds Try.pinned (OpenSpec.ofChange fnExactEventOfWrong)

/-- 'laws.FnExactWorthOf': WHATEVER THE INPUT: true; the input reads as it did. -/
def fnExactWorthOfSpec : ChangeSpec := { name := "fnExactWorthOf", fn := fun _ => fun
  | [d1, d2] => { results := [.lit (.bool true)], args := [d1, d2] }
  | _ => none }
def fnExactWorthOfRow : OpenClaim := { program := "ytcphclkaddhfmaa", sum := "02a606457a4ef15bb0dcf35db23ec101da7db147c9265fe0bb2ce7d976ee79b8", func := "loop.example/wholechance/laws.FnExactWorthOf", spec := "fnExactWorthOf", apart := false }
def FnExactWorthOfSaid : Prop := fnExactWorthOfRow.holds Try.pinned (OpenSpec.ofChange fnExactWorthOfSpec)

/-- ITS FALSE NEIGHBOUR: 'it returns false'. Refute it at one input. -/
def fnExactWorthOfWrong : ChangeSpec := { name := "fnExactWorthOf", fn := fun _ => fun
  | [d1, d2] => { results := [.lit (.bool false)], args := [d1, d2] }
  | _ => none }
def FnExactWorthOfWrongFalsely : Prop := fnExactWorthOfRow.holds Try.pinned (OpenSpec.ofChange fnExactWorthOfWrong)

/-- 'laws.FnExactChanceOf': WHATEVER THE INPUT: true; the input reads as it did. -/
def fnExactChanceOfSpec : ChangeSpec := { name := "fnExactChanceOf", fn := fun _ => fun
  | [d1, d2, d3] => { results := [.lit (.bool true)], args := [d1, d2, d3] }
  | _ => none }
def fnExactChanceOfRow : OpenClaim := { program := "ytcphclkaddhfmaa", sum := "02a606457a4ef15bb0dcf35db23ec101da7db147c9265fe0bb2ce7d976ee79b8", func := "loop.example/wholechance/laws.FnExactChanceOf", spec := "fnExactChanceOf", apart := false }
def FnExactChanceOfSaid : Prop := fnExactChanceOfRow.holds Try.pinned (OpenSpec.ofChange fnExactChanceOfSpec)

/-- ITS FALSE NEIGHBOUR: 'it returns false'. Refute it at one input. -/
def fnExactChanceOfWrong : ChangeSpec := { name := "fnExactChanceOf", fn := fun _ => fun
  | [d1, d2, d3] => { results := [.lit (.bool false)], args := [d1, d2, d3] }
  | _ => none }
def FnExactChanceOfWrongFalsely : Prop := fnExactChanceOfRow.holds Try.pinned (OpenSpec.ofChange fnExactChanceOfWrong)

/-- 'laws.FnValuesBack': WHATEVER THE INPUT: true; the input reads as it did. -/
def fnValuesBackSpec : ChangeSpec := { name := "fnValuesBack", fn := fun _ => fun
  | [d] => { results := [.lit (.bool true)], args := [d] }
  | _ => none }
def fnValuesBackRow : OpenClaim := { program := "ytcphclkaddhfmaa", sum := "02a606457a4ef15bb0dcf35db23ec101da7db147c9265fe0bb2ce7d976ee79b8", func := "loop.example/wholechance/laws.FnValuesBack", spec := "fnValuesBack", apart := false }
def FnValuesBackSaid : Prop := fnValuesBackRow.holds Try.pinned (OpenSpec.ofChange fnValuesBackSpec)

/-- ITS FALSE NEIGHBOUR: 'it returns false'. Refute it at one input. -/
def fnValuesBackWrong : ChangeSpec := { name := "fnValuesBack", fn := fun _ => fun
  | [d] => { results := [.lit (.bool false)], args := [d] }
  | _ => none }
def FnValuesBackWrongFalsely : Prop := fnValuesBackRow.holds Try.pinned (OpenSpec.ofChange fnValuesBackWrong)

/-- 'laws.FnStepBack': WHATEVER THE INPUT: true; the input reads as it did. -/
def fnStepBackSpec : ChangeSpec := { name := "fnStepBack", fn := fun _ => fun
  | [d] => { results := [.lit (.bool true)], args := [d] }
  | _ => none }
def fnStepBackRow : OpenClaim := { program := "ytcphclkaddhfmaa", sum := "02a606457a4ef15bb0dcf35db23ec101da7db147c9265fe0bb2ce7d976ee79b8", func := "loop.example/wholechance/laws.FnStepBack", spec := "fnStepBack", apart := false }
def FnStepBackSaid : Prop := fnStepBackRow.holds Try.pinned (OpenSpec.ofChange fnStepBackSpec)

/-- ITS FALSE NEIGHBOUR: 'it returns false'. Refute it at one input. -/
def fnStepBackWrong : ChangeSpec := { name := "fnStepBack", fn := fun _ => fun
  | [d] => { results := [.lit (.bool false)], args := [d] }
  | _ => none }
def FnStepBackWrongFalsely : Prop := fnStepBackRow.holds Try.pinned (OpenSpec.ofChange fnStepBackWrong)

/- THE SECOND FORM. 'bulk': how many values and letters a reading holds, each counted each time it is reached (what is shared counts as often as it is met; a slice's spare places count too). A statement '..UptoSaid' is the law's where the arguments, and the package variables that the reading takes, are together of bulk at most 1048576: NARROWER than '..Said'. Prove '..Said' where nothing that the law and all that it calls make is longer than what came in: it says more and counts as full. Else prove '..UptoSaid'. A law counts once. -/
mutual
def uptoBulk {H : Type} : DataW H → Nat
  | .lit (.string bytes) => bytes.length + 1
  | .lit _ => 1
  | .nil => 1
  | .ptr d => uptoBulk d + 1
  | .slice elems spare => uptoBulkAll elems + uptoBulkAll spare + 1
  | .agg parts => uptoBulkAll parts + 1
  | .iface _ d => uptoBulk d + 1
  | .map entries => uptoBulkEntries entries + 1
  | .held _ => 1
def uptoBulkAll {H : Type} : List (DataW H) → Nat
  | [] => 0
  | d :: r => uptoBulk d + uptoBulkAll r
def uptoBulkEntries {H : Type} : List (Lit × DataW H) → Nat
  | [] => 0
  | x :: r => uptoBulkEntry x + uptoBulkEntries r
def uptoBulkEntry {H : Type} : Lit × DataW H → Nat
  | (.string bytes, d) => bytes.length + uptoBulk d + 1
  | (_, d) => uptoBulk d + 1
 end
def uptoSmall : (H : Type) → List (DataW H) → Bool := fun _ ds => decide (uptoBulkAll ds ≤ 1048576)
def OpenSpec.upto (s : _root_.Go.ChangeSpec) : _root_.Go.OpenSpec := { _root_.Go.OpenSpec.ofChange s with cond := some uptoSmall }

/-- 'laws.FnChanceOf', WHERE WHAT IT READS IS OF BULK AT MOST 1048576: true; the input reads as it did. -/
def fnChanceOfUptoRow : OpenClaim := { program := "ytcphclkaddhfmaa", sum := "02a606457a4ef15bb0dcf35db23ec101da7db147c9265fe0bb2ce7d976ee79b8", func := "loop.example/wholechance/laws.FnChanceOf", spec := "fnChanceOf", apart := false, narrowed := true }
def FnChanceOfUptoSaid : Prop := fnChanceOfUptoRow.holds Try.pinned (OpenSpec.upto fnChanceOfSpec)

/-- 'laws.FnExactValuesBack', WHERE WHAT IT READS IS OF BULK AT MOST 1048576: true; the input reads as it did. -/
def fnExactValuesBackUptoRow : OpenClaim := { program := "ytcphclkaddhfmaa", sum := "02a606457a4ef15bb0dcf35db23ec101da7db147c9265fe0bb2ce7d976ee79b8", func := "loop.example/wholechance/laws.FnExactValuesBack", spec := "fnExactValuesBack", apart := false, narrowed := true }
def FnExactValuesBackUptoSaid : Prop := fnExactValuesBackUptoRow.holds Try.pinned (OpenSpec.upto fnExactValuesBackSpec)

/-- 'laws.FnExactStepBack', WHERE WHAT IT READS IS OF BULK AT MOST 1048576: true; the input reads as it did. -/
def fnExactStepBackUptoRow : OpenClaim := { program := "ytcphclkaddhfmaa", sum := "02a606457a4ef15bb0dcf35db23ec101da7db147c9265fe0bb2ce7d976ee79b8", func := "loop.example/wholechance/laws.FnExactStepBack", spec := "fnExactStepBack", apart := false, narrowed := true }
def FnExactStepBackUptoSaid : Prop := fnExactStepBackUptoRow.holds Try.pinned (OpenSpec.upto fnExactStepBackSpec)

/-- 'laws.FnExactEventOf', WHERE WHAT IT READS IS OF BULK AT MOST 1048576: true; the input reads as it did. -/
def fnExactEventOfUptoRow : OpenClaim := { program := "ytcphclkaddhfmaa", sum := "02a606457a4ef15bb0dcf35db23ec101da7db147c9265fe0bb2ce7d976ee79b8", func := "loop.example/wholechance/laws.FnExactEventOf", spec := "fnExactEventOf", apart := false, narrowed := true }
def FnExactEventOfUptoSaid : Prop := fnExactEventOfUptoRow.holds Try.pinned (OpenSpec.upto fnExactEventOfSpec)

/-- 'laws.FnExactWorthOf', WHERE WHAT IT READS IS OF BULK AT MOST 1048576: true; the input reads as it did. -/
def fnExactWorthOfUptoRow : OpenClaim := { program := "ytcphclkaddhfmaa", sum := "02a606457a4ef15bb0dcf35db23ec101da7db147c9265fe0bb2ce7d976ee79b8", func := "loop.example/wholechance/laws.FnExactWorthOf", spec := "fnExactWorthOf", apart := false, narrowed := true }
def FnExactWorthOfUptoSaid : Prop := fnExactWorthOfUptoRow.holds Try.pinned (OpenSpec.upto fnExactWorthOfSpec)

/-- 'laws.FnExactChanceOf', WHERE WHAT IT READS IS OF BULK AT MOST 1048576: true; the input reads as it did. -/
def fnExactChanceOfUptoRow : OpenClaim := { program := "ytcphclkaddhfmaa", sum := "02a606457a4ef15bb0dcf35db23ec101da7db147c9265fe0bb2ce7d976ee79b8", func := "loop.example/wholechance/laws.FnExactChanceOf", spec := "fnExactChanceOf", apart := false, narrowed := true }
def FnExactChanceOfUptoSaid : Prop := fnExactChanceOfUptoRow.holds Try.pinned (OpenSpec.upto fnExactChanceOfSpec)

/-- 'laws.FnValuesBack', WHERE WHAT IT READS IS OF BULK AT MOST 1048576: true; the input reads as it did. -/
def fnValuesBackUptoRow : OpenClaim := { program := "ytcphclkaddhfmaa", sum := "02a606457a4ef15bb0dcf35db23ec101da7db147c9265fe0bb2ce7d976ee79b8", func := "loop.example/wholechance/laws.FnValuesBack", spec := "fnValuesBack", apart := false, narrowed := true }
def FnValuesBackUptoSaid : Prop := fnValuesBackUptoRow.holds Try.pinned (OpenSpec.upto fnValuesBackSpec)

/-- 'laws.FnStepBack', WHERE WHAT IT READS IS OF BULK AT MOST 1048576: true; the input reads as it did. -/
def fnStepBackUptoRow : OpenClaim := { program := "ytcphclkaddhfmaa", sum := "02a606457a4ef15bb0dcf35db23ec101da7db147c9265fe0bb2ce7d976ee79b8", func := "loop.example/wholechance/laws.FnStepBack", spec := "fnStepBack", apart := false, narrowed := true }
def FnStepBackUptoSaid : Prop := fnStepBackUptoRow.holds Try.pinned (OpenSpec.upto fnStepBackSpec)

end Rows
end Go.Proofs.Ytcphclkaddhfmaa
