/- Parts of the proof: Kt. -/
import Derived.ProofKit
import Derived.OpenShut
import Derived.Deep.Slices
import Derived.StillTailTactics
import Derived.Deep.RegionHeld3
import Derived.Test.YtghkpmafocacoaaZAB
import Derived.Test.YtghkpmafocacoaaZAG
namespace Go.Proofs.Ytghkpmafocacoaa
set_option maxRecDepth 100000
open Go.RowKit
end Go.Proofs.Ytghkpmafocacoaa
namespace Go.Proofs.Ytghkpmafocacoaa
set_option maxRecDepth 100000
open Go.ChangeShapes Go.WideShapes Go.RowKit Go.Deep
section
variable {H : Type} {enc : TypeId × Value → H} {w : World} {base : Nat} {spare : Nat → Bool} {held : Bool}
end
end Go.Proofs.Ytghkpmafocacoaa
namespace Go.Proofs.Ytghkpmafocacoaa
set_option maxRecDepth 100000
open Go.ChangeShapes Go.WideShapes Go.RowKit Go.Deep
section
variable {H : Type} {enc : TypeId × Value → H} {w : World} {base : Nat}
end
/-- The first k statements of a list lie in a row of cells. -/
def Fill (cs : Array Value) (ps : List St) (n k : Nat) : Prop := cs.size = n * 7 ∧ ∀ i s, i < k → ps[i]? = some s → ∀ j u, s.cells[j]? = some u → cs[i * 7 + j]? = some u
def put7 (cs : Array Value) (o : Nat) (s : St) : Array Value :=
  ((((((cs.setIfInBounds o (.int .i64 s.k)).setIfInBounds (o + 1) (.int .i64 s.a)).setIfInBounds (o + 2) (.int .i64 s.b)).setIfInBounds (o + 3) (.int .i64 s.c)).setIfInBounds (o + 4) (.int .i64 s.u)).setIfInBounds (o + 5) (.int .i64 s.v)).setIfInBounds (o + 6) (.int .i64 s.x)
theorem put_at {cs : Array Value} {i x : Nat} {v : Value} (h : x < cs.size) (e : i = x := by omega) : (cs.setIfInBounds i v)[x]? = some v := by subst e; simp [h]
theorem put_ne {cs : Array Value} {i x : Nat} {v : Value} (h : i ≠ x) : (cs.setIfInBounds i v)[x]? = cs[x]? := by simp [h]
theorem put7_size (cs : Array Value) (o : Nat) (s : St) : (put7 cs o s).size = cs.size := by simp [put7]
theorem put7_far (cs : Array Value) (o x : Nat) (s : St) (h : x < o ∨ o + 7 ≤ x) : (put7 cs o s)[x]? = cs[x]? := by
  unfold put7
  simp only [Array.getElem?_setIfInBounds, Array.size_setIfInBounds]
  repeat rw [if_neg (by omega)]
theorem put7_at (cs : Array Value) (o : Nat) (s : St) (h : o + 7 ≤ cs.size) {j : Nat} {u : Value} (hu : s.cells[j]? = some u) : (put7 cs o s)[o + j]? = some u := by
  have hj : j < 7 := by have := (List.getElem?_eq_some_iff.1 hu).1; simpa [St.cells] using this
  unfold put7
  obtain rfl | rfl | rfl | rfl | rfl | rfl | rfl : j = 0 ∨ j = 1 ∨ j = 2 ∨ j = 3 ∨ j = 4 ∨ j = 5 ∨ j = 6 := by omega
  · rw [put_ne (by omega), put_ne (by omega), put_ne (by omega), put_ne (by omega), put_ne (by omega), put_ne (by omega), put_at (by simp; omega)]; exact hu
  · rw [put_ne (by omega), put_ne (by omega), put_ne (by omega), put_ne (by omega), put_ne (by omega), put_at (by simp; omega)]; exact hu
  · rw [put_ne (by omega), put_ne (by omega), put_ne (by omega), put_ne (by omega), put_at (by simp; omega)]; exact hu
  · rw [put_ne (by omega), put_ne (by omega), put_ne (by omega), put_at (by simp; omega)]; exact hu
  · rw [put_ne (by omega), put_ne (by omega), put_at (by simp; omega)]; exact hu
  · rw [put_ne (by omega), put_at (by simp; omega)]; exact hu
  · rw [put_at (by simp; omega)]; exact hu
theorem Fill.step {cs : Array Value} {ps : List St} {n k : Nat} {s : St} (h : Fill cs ps n k) (hs : ps[k]? = some s) (hk : k < n) : Fill (put7 cs (k * 7) s) ps n (k + 1) := by
  refine ⟨by rw [put7_size]; exact h.1, fun i q hi hq j u hu => ?_⟩
  have hj : j < 7 := by have := (List.getElem?_eq_some_iff.1 hu).1; simpa [St.cells] using this
  by_cases hik : i = k
  · subst hik
    obtain rfl : s = q := Option.some.inj (hs.symm.trans hq)
    exact put7_at cs _ _ (by rw [h.1]; omega) hu
  · rw [put7_far cs _ _ _ (by omega)]
    exact h.2 i q (by omega) hq j u hu
theorem Fill.done {cs : Array Value} {ps : List St} {n : Nat} (h : Fill cs ps n n) (hL : ps.length = n) : cs.toList = flat ps := by
  apply List.ext_getElem?
  intro x
  rw [Array.getElem?_toList]
  by_cases hx : x < n * 7
  · have hi : x / 7 < ps.length := by rw [hL]; omega
    have hr : x % 7 < (ps[x / 7]).cells.length := by simp [St.cells]; omega
    have h1 := h.2 (x / 7) ps[x / 7] (by omega) (List.getElem?_eq_getElem hi) (x % 7) _ (List.getElem?_eq_getElem hr)
    have h2 := flat_at (List.getElem?_eq_getElem hi) (List.getElem?_eq_getElem hr)
    rw [show x / 7 * 7 + x % 7 = x by omega] at h1 h2
    rw [h1, h2]
  · rw [Array.getElem?_eq_none (by rw [h.1]; omega), List.getElem?_eq_none (by rw [flat_length, hL]; omega)]
theorem Has.put7 {w : World} {g : Nat} {cs : Array Value} (h : Has w g 116 cs) (o : Nat) (s : St) :
    Has (((((((w.setCell ⟨g, o, none⟩ (.int .i64 s.k)).setCell ⟨g, o + 1, none⟩ (.int .i64 s.a)).setCell ⟨g, o + 2, none⟩ (.int .i64 s.b)).setCell ⟨g, o + 3, none⟩ (.int .i64 s.c)).setCell ⟨g, o + 4, none⟩ (.int .i64 s.u)).setCell ⟨g, o + 5, none⟩ (.int .i64 s.v)).setCell ⟨g, o + 6, none⟩ (.int .i64 s.x)) g 116 (put7 cs o s) :=
  ((((((h.put o _).put (o + 1) _).put (o + 2) _).put (o + 3) _).put (o + 4) _).put (o + 5) _).put (o + 6) _
/-- A block that holds a list's cells reads as that list. -/
theorem Has.lst {w : World} {g n : Nat} {cs : Array Value} {ps : List St} (h : Has w g 116 cs) (hf : cs.toList = flat ps) (hL : ps.length = n) : Lst w w.heap.size (some ⟨g, 0, none⟩) n ps := by
  refine ⟨hL, fun _ => ⟨g, 0, rfl, h.lt, fun k s hs j u hu => ?_⟩⟩
  rw [Nat.zero_add, h.cell, ← Array.getElem?_toList, hf]
  exact flat_at hs hu
end Go.Proofs.Ytghkpmafocacoaa
namespace Go.Proofs.Ytghkpmafocacoaa
set_option maxRecDepth 100000
open Go.RowKit
/-- The statement whose seven numbers are m, m + 1, .., m + 6. -/
def mkSt (m : Int) : St := ⟨m, m + 1, m + 1 + 1, m + 1 + 1 + 1, m + 1 + 1 + 1 + 1, m + 1 + 1 + 1 + 1 + 1, m + 1 + 1 + 1 + 1 + 1 + 1⟩
/-- n statements, numbered through from m on. -/
def marks (m : Int) (n : Nat) : List St := (List.range n).map fun (i : Nat) => mkSt (m + 7 * i)
theorem marks_length (m : Int) (n : Nat) : (marks m n).length = n := by simp [marks]
theorem marks_get (m : Int) {n i : Nat} (h : i < n) : (marks m n)[i]? = some (mkSt (m + 7 * i)) := by
  unfold marks
  rw [List.getElem?_map, List.getElem?_range h]; rfl
/-- Only the block of A has turned. -/
def Only (w w' : World) (A : Option Addr) : Prop := w.grownBy w' (A.map (·.block))
/-- The first k statements' marks lie in a row of cells. -/
def Mk (cs : Array Value) (m : Int) (n k : Nat) : Prop := n * 7 ≤ cs.size ∧ ∀ i, i < k → ∀ j u, (mkSt (m + 7 * i)).cells[j]? = some u → cs[i * 7 + j]? = some u
theorem Mk.step {cs : Array Value} {m : Int} {n k : Nat} (h : Mk cs m n k) (hk : k < n) : Mk (put7 cs (k * 7) (mkSt (m + 7 * k))) m n (k + 1) := by
  refine ⟨by rw [put7_size]; exact h.1, fun i hi j u hu => ?_⟩
  have hj : j < 7 := by have := (List.getElem?_eq_some_iff.1 hu).1; simpa [St.cells] using this
  by_cases hik : i = k
  · subst hik
    exact put7_at cs _ _ (by have := h.1; omega) hu
  · rw [put7_far cs _ _ _ (by omega)]
    exact h.2 i (by omega) j u hu
theorem Mk.lst {w : World} {g n : Nat} {cs : Array Value} {m : Int} (hh : Has w g 116 cs) (h : Mk cs m n n) : Lst w w.heap.size (some ⟨g, 0, none⟩) n (marks m n) := by
  refine ⟨marks_length m n, fun _ => ⟨g, 0, rfl, hh.lt, fun k s hs j u hu => ?_⟩⟩
  have hk : k < n := by have := (List.getElem?_eq_some_iff.1 hs).1; rwa [marks_length] at this
  rw [marks_get m hk] at hs
  obtain rfl := Option.some.inj hs
  rw [Nat.zero_add, hh.cell]
  exact h.2 k hk j u hu
theorem Has.size_cell {w : World} {g : Nat} {t : TypeId} {cs : Array Value} (h : Has w g t cs) {x : Nat} (hx : x < cs.size) : ∃ u, w.cell? ⟨g, x, none⟩ = some u := ⟨_, (h.cell x).trans (Array.getElem?_eq_getElem hx)⟩
end Go.Proofs.Ytghkpmafocacoaa
namespace Go.Proofs.Ytghkpmafocacoaa
set_option maxRecDepth 100000
set_option linter.unusedVariables false
open Go.RowKit
end Go.Proofs.Ytghkpmafocacoaa
