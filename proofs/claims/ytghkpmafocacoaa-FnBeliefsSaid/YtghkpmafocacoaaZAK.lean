/- Parts of the proof: LD. -/
import Derived.Test.YtghkpmafocacoaaZAJ
namespace Go.Proofs.Ytghkpmafocacoaa
set_option maxRecDepth 100000
set_option linter.unusedVariables false
open Go.RowKit
theorem isP_sym (F : Fac) (a b : Nat) : isP F a b = isP F b a := by
  unfold isP
  rw [Bool.or_comm]
theorem btw_sym (Fs : List Fac) (a b : Nat) : btw Fs a b = btw Fs b a := by
  unfold btw
  have : (fun F => isP F a b) = fun F => isP F b a := funext fun F => isP_sym F a b
  rw [this]
theorem st2_sym : ∀ u v : Fin 4, u ≠ v → ∀ x y : Fin 3, st2 u.val x.val v.val y.val = st2 v.val y.val u.val x.val := by decide +kernel
def totV (Fs : List Fac) (g : Gr) (v : Nat) : Int := sum3 fun x => allT Fs g v 4 x
/-- Sums that go round. -/
def wsum (ds : List Int) : Int := ds.foldl (fun s x => IntKind.i64.wrap (s + x)) 0
end Go.Proofs.Ytghkpmafocacoaa
