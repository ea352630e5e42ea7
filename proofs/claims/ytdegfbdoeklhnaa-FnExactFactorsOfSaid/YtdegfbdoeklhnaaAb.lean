/- Weights of a variable's values, weights where it has a value, its mean: the program's functions. -/
import Derived.Test.YtdegfbdoeklhnaaAa
namespace Go.Proofs.Ytdegfbdoeklhnaa
set_option maxRecDepth 100000
set_option linter.unusedVariables false
open Go.RowKit

/-- How a list of numbers and whether there is one are told. -/
def Lbd (w : World) (os : List Int) (ok : Bool) (e : Ending) (w' : World) : Prop := ∃ v, e = .returned (.tuple #[v, .bool ok]) ∧ IOwn w' w.heap.size v os ∧ Below w.heap.size w w'
/-- A list of the states' numbers, and a variable. -/
def lvOk (ds : List Int) (v : Int) : Bool := lstOk 1000000000 ds && inB v 0 3
def margOf (ds : List Int) (v : Int) : List Int := if lvOk ds v = true then marg ds v else []
def givOk (ds : List Int) (v x : Int) : Bool := lvOk ds v && inB x 0 2
def givOf (ds : List Int) (v x : Int) : List Int := if givOk ds v x = true then givF ds v x 81 else []
def meanOk (ds : List Int) (v : Int) : Bool := lvOk ds v && decide (isum ds ≠ 0)
def mean1 (ds : List Int) (v : Int) : Int := if meanOk ds v = true then low1 (above ds v) (isum ds) else 0
def mean2 (ds : List Int) (v : Int) : Int := if meanOk ds v = true then low2 (above ds v) (isum ds) else 0
theorem margOf_len (ds : List Int) (v : Int) : (margOf ds v).length ≤ 81 := by
  unfold margOf
  split
  · rw [marg_len]; decide
  · simp
theorem givOf_len (ds : List Int) (v x : Int) : (givOf ds v x).length ≤ 81 := by
  unfold givOf
  split
  · rw [givF_len]; exact Nat.le_refl _
  · simp
theorem made_ints (n : Nat) : (madeCells #[Value.int .i64 0] n).toList = ints (zs n) := by
  apply List.ext_getElem?
  intro i
  rw [Array.getElem?_toList]
  by_cases h : i < n
  · rw [ints_get (d := 0) (by unfold zs; rw [List.getElem?_replicate, if_pos h])]
    unfold madeCells
    simp [h, Nat.mod_one]
  · rw [List.getElem?_eq_none (by rw [ints_length, zs_len]; omega), Array.getElem?_eq_none (by rw [size_madeCells]; omega)]

/-- How a mean is told. -/
def Mnd (w : World) (ds : List Int) (v : Int) (e : Ending) (w' : World) : Prop := e = .returned (.tuple #[.int .i64 (mean1 ds v), .int .i64 (mean2 ds v), .bool (meanOk ds v)]) ∧ Below w.heap.size w w'
theorem mean_no {ds : List Int} {v : Int} (h : meanOk ds v = false) : mean1 ds v = 0 ∧ mean2 ds v = 0 := by
  unfold mean1 mean2
  rw [h]
  exact ⟨rfl, rfl⟩
end Go.Proofs.Ytdegfbdoeklhnaa
