/- The laws' copies of a statement. Arguments opened: a statement by value, and lists of statements. The laws' own helpers over lists of statements. The laws' marks: a list's memory overwritten number by number, and read again. The laws' count of what came in. -/
import Derived.Test.YtghkpmafocacoaaStO
import Derived.ProofKit
import Derived.OpenShut
import Derived.Deep.Slices
import Derived.Test.YtghkpmafocacoaaUnP
import Derived.StillTailTactics
import Derived.Deep.RegionHeld3
namespace Go.Proofs.Ytghkpmafocacoaa
set_option maxRecDepth 100000
open Go.RowKit

theorem toIntA3_any (u v x : Int) (w : World) :
    Calls Try.prog 124 #[.agg #[.int .i64 u, .int .i64 v, .int .i64 x]] w fun e w' => e = .returned (.agg #[.int .i64 u, .int .i64 v, .int .i64 x]) ∧ Below w.heap.size w w' := by
  go_enter Try.func124, Try.ntmps124
  go_wp2
  go_loopw [4] (fun i wr => ∃ p q r : Int, wr = ((w.alloc (.cells #[.int .i64 u, .int .i64 v, .int .i64 x] 45)).alloc (.cells #[.int .i64 0, .int .i64 0, .int .i64 0] 45)).alloc (.cells #[.int .i64 p, .int .i64 q, .int .i64 r] 45) ∧ (i = .int .i64 0 ∨ (i = .int .i64 1 ∧ p = u) ∨ (i = .int .i64 2 ∧ p = u ∧ q = v) ∨ (i = .int .i64 3 ∧ p = u ∧ q = v ∧ r = x))) (fun i _ => 3 - (intOf i).toNat)
  case atStart => exact ⟨0, 0, 0, rfl, .inl rfl⟩
  case round =>
    obtain ⟨p, q, r, rfl, rfl | ⟨rfl, rfl⟩ | ⟨rfl, rfl, rfl⟩ | ⟨rfl, rfl, rfl, rfl⟩⟩ := hrel
    · go_wp2
      go_roundw
      case rel => exact ⟨u, q, r, rfl, .inr (.inl ⟨rfl, rfl⟩)⟩
      case measure => simp [intOf]
    · go_wp2
      go_roundw
      case rel => exact ⟨_, v, r, rfl, .inr (.inr (.inl ⟨rfl, rfl, rfl⟩))⟩
      case measure => simp [intOf]
    · go_wp2
      go_roundw
      case rel => exact ⟨_, _, x, rfl, .inr (.inr (.inr ⟨rfl, rfl, rfl, rfl⟩))⟩
      case measure => simp [intOf]
    · go_wp2
      refine bodyPost_ret (v := .agg #[.int .i64 p, .int .i64 q, .int .i64 r]) (by simp [results, Try.results124, go_sem]) rfl ⟨rfl, ?_⟩
      exact (((Below.refl _ _).alloc (Nat.le_refl _) _).alloc (by simp) _).alloc (by simp; omega) _

end Go.Proofs.Ytghkpmafocacoaa

namespace Go.Proofs.Ytghkpmafocacoaa
set_option maxRecDepth 100000
open Go.ChangeShapes Go.WideShapes Go.RowKit Go.Deep

section
variable {H : Type} {enc : TypeId × Value → H} {w : World} {base : Nat} {spare : Nat → Bool} {held : Bool}
theorem cells_int : Try.prog.cellsOf 3 = 1 := by kernel_rfl
theorem cells_w : Try.prog.cellsOf 45 = 3 := by kernel_rfl
end
end Go.Proofs.Ytghkpmafocacoaa

namespace Go.Proofs.Ytghkpmafocacoaa
set_option maxRecDepth 100000
open Go.ChangeShapes Go.WideShapes Go.RowKit Go.Deep

section
variable {H : Type} {enc : TypeId × Value → H} {w : World} {base : Nat}
end

/-- What szStmtS leaves of its first number. -/
def leftOf (n : Nat) : Int := if n ≤ 1048576 then (1048576 : Int) - n else -1

theorem eqIntA3_same (u v x : Int) (w : World) :
    Calls Try.prog 125 #[.agg #[.int .i64 u, .int .i64 v, .int .i64 x], .agg #[.int .i64 u, .int .i64 v, .int .i64 x]] w fun e w' => e = .returned (.bool true) ∧ Below w.heap.size w w' := by
  go_enter Try.func125, Try.ntmps125
  go_wp2
  go_loopw [5] (fun i wr => (i = .int .i64 0 ∨ i = .int .i64 1 ∨ i = .int .i64 2 ∨ i = .int .i64 3) ∧ ∃ nq, wr = ((w.alloc (.cells #[.int .i64 u, .int .i64 v, .int .i64 x] 45)).alloc (.cells #[.int .i64 u, .int .i64 v, .int .i64 x] 45)).drewN nq) (fun i _ => 3 - (intOf i).toNat)
  case atStart => exact ⟨.inl rfl, 0, rfl⟩
  case round =>
    obtain ⟨hi, nq, rfl⟩ := hrel
    rcases hi with rfl | rfl | rfl | rfl
    · go_wp2
      go_quiet (fail)
      go_wp2
      exact ⟨⟨.inr (.inl rfl), _, rfl⟩, by simp [intOf]⟩
    · go_wp2
      go_quiet (fail)
      go_wp2
      exact ⟨⟨.inr (.inr (.inl rfl)), _, rfl⟩, by simp [intOf]⟩
    · go_wp2
      go_quiet (fail)
      go_wp2
      exact ⟨⟨.inr (.inr (.inr rfl)), _, rfl⟩, by simp [intOf]⟩
    · go_wp2
      go_ret
      exact ⟨rfl, below_drewN (((Below.refl _ _).alloc (Nat.le_refl _) _).alloc (by simp) _) _⟩

/-- The first k statements of a list lie in a row of cells. -/
def Fill (cs : Array Value) (ps : List St) (n k : Nat) : Prop := cs.size = n * 7 ∧ ∀ i s, i < k → ps[i]? = some s → ∀ j u, s.cells[j]? = some u → cs[i * 7 + j]? = some u

def put7 (cs : Array Value) (o : Nat) (s : St) : Array Value :=
  ((((((cs.setIfInBounds o (.int .i64 s.k)).setIfInBounds (o + 1) (.int .i64 s.a)).setIfInBounds (o + 2) (.int .i64 s.b)).setIfInBounds (o + 3) (.int .i64 s.c)).setIfInBounds (o + 4) (.int .i64 s.u)).setIfInBounds (o + 5) (.int .i64 s.v)).setIfInBounds (o + 6) (.int .i64 s.x)

theorem put_at {cs : Array Value} {i x : Nat} {v : Value} (h : x < cs.size) (e : i = x := by omega) : (cs.setIfInBounds i v)[x]? = some v := by subst e; simp [h]
theorem put_ne {cs : Array Value} {i x : Nat} {v : Value} (h : i ≠ x) : (cs.setIfInBounds i v)[x]? = cs[x]? := by simp [h]
theorem put7_size (cs : Array Value) (o : Nat) (s : St) : (put7 cs o s).size = cs.size := by simp [put7]
theorem put7_far (cs : Array Value) (o x : Nat) (s : St) (h : x < o ∨ o + 7 ≤ x) : (put7 cs o s)[x]? = cs[x]? := by
  unfold put7
  simp only [Array.getElem?_setIfInBounds, Array.size_setIfInBounds]
  repeat rw [if_neg (by omega)]
theorem put7_at (cs : Array Value) (o : Nat) (s : St) (h : o + 7 ≤ cs.size) {j : Nat} {u : Value} (hu : s.cells[j]? = some u) : (put7 cs o s)[o + j]? = some u := by
  have hj : j < 7 := by have := (List.getElem?_eq_some_iff.1 hu).1; simpa [St.cells] using this
  unfold put7
  obtain rfl | rfl | rfl | rfl | rfl | rfl | rfl : j = 0 ∨ j = 1 ∨ j = 2 ∨ j = 3 ∨ j = 4 ∨ j = 5 ∨ j = 6 := by omega
  · rw [put_ne (by omega), put_ne (by omega), put_ne (by omega), put_ne (by omega), put_ne (by omega), put_ne (by omega), put_at (by simp; omega)]; exact hu
  · rw [put_ne (by omega), put_ne (by omega), put_ne (by omega), put_ne (by omega), put_ne (by omega), put_at (by simp; omega)]; exact hu
  · rw [put_ne (by omega), put_ne (by omega), put_ne (by omega), put_ne (by omega), put_at (by simp; omega)]; exact hu
  · rw [put_ne (by omega), put_ne (by omega), put_ne (by omega), put_at (by simp; omega)]; exact hu
  · rw [put_ne (by omega), put_ne (by omega), put_at (by simp; omega)]; exact hu
  · rw [put_ne (by omega), put_at (by simp; omega)]; exact hu
  · rw [put_at (by simp; omega)]; exact hu

theorem Fill.step {cs : Array Value} {ps : List St} {n k : Nat} {s : St} (h : Fill cs ps n k) (hs : ps[k]? = some s) (hk : k < n) : Fill (put7 cs (k * 7) s) ps n (k + 1) := by
  refine ⟨by rw [put7_size]; exact h.1, fun i q hi hq j u hu => ?_⟩
  have hj : j < 7 := by have := (List.getElem?_eq_some_iff.1 hu).1; simpa [St.cells] using this
  by_cases hik : i = k
  · subst hik
    obtain rfl : s = q := Option.some.inj (hs.symm.trans hq)
    exact put7_at cs _ _ (by rw [h.1]; omega) hu
  · rw [put7_far cs _ _ _ (by omega)]
    exact h.2 i q (by omega) hq j u hu

theorem Fill.done {cs : Array Value} {ps : List St} {n : Nat} (h : Fill cs ps n n) (hL : ps.length = n) : cs.toList = flat ps := by
  apply List.ext_getElem?
  intro x
  rw [Array.getElem?_toList]
  by_cases hx : x < n * 7
  · have hi : x / 7 < ps.length := by rw [hL]; omega
    have hr : x % 7 < (ps[x / 7]).cells.length := by simp [St.cells]; omega
    have h1 := h.2 (x / 7) ps[x / 7] (by omega) (List.getElem?_eq_getElem hi) (x % 7) _ (List.getElem?_eq_getElem hr)
    have h2 := flat_at (List.getElem?_eq_getElem hi) (List.getElem?_eq_getElem hr)
    rw [show x / 7 * 7 + x % 7 = x by omega] at h1 h2
    rw [h1, h2]
  · rw [Array.getElem?_eq_none (by rw [h.1]; omega), List.getElem?_eq_none (by rw [flat_length, hL]; omega)]

theorem Has.put7 {w : World} {g : Nat} {cs : Array Value} (h : Has w g 116 cs) (o : Nat) (s : St) :
    Has (((((((w.setCell ⟨g, o, none⟩ (.int .i64 s.k)).setCell ⟨g, o + 1, none⟩ (.int .i64 s.a)).setCell ⟨g, o + 2, none⟩ (.int .i64 s.b)).setCell ⟨g, o + 3, none⟩ (.int .i64 s.c)).setCell ⟨g, o + 4, none⟩ (.int .i64 s.u)).setCell ⟨g, o + 5, none⟩ (.int .i64 s.v)).setCell ⟨g, o + 6, none⟩ (.int .i64 s.x)) g 116 (put7 cs o s) :=
  ((((((h.put o _).put (o + 1) _).put (o + 2) _).put (o + 3) _).put (o + 4) _).put (o + 5) _).put (o + 6) _

/-- A block that holds a list's cells reads as that list. -/
theorem Has.lst {w : World} {g n : Nat} {cs : Array Value} {ps : List St} (h : Has w g 116 cs) (hf : cs.toList = flat ps) (hL : ps.length = n) : Lst w w.heap.size (some ⟨g, 0, none⟩) n ps := by
  refine ⟨hL, fun _ => ⟨g, 0, rfl, h.lt, fun k s hs j u hu => ?_⟩⟩
  rw [Nat.zero_add, h.cell, ← Array.getElem?_toList, hf]
  exact flat_at hs hu

/-- How a copy of a list ends. -/
def Copied (w : World) (n : Nat) (ps : List St) (e : Ending) (w' : World) : Prop :=
  ∃ g cs, e = .returned (.slice (some ⟨g, 0, none⟩) n n) ∧ w.heap.size ≤ g ∧ Has w' g 116 cs ∧ cs.toList = flat ps ∧ Below w.heap.size w w'

end Go.Proofs.Ytghkpmafocacoaa

namespace Go.Proofs.Ytghkpmafocacoaa
set_option maxRecDepth 100000
open Go.RowKit

/-- The statement whose seven numbers are m, m + 1, .., m + 6. -/
def mkSt (m : Int) : St := ⟨m, m + 1, m + 1 + 1, m + 1 + 1 + 1, m + 1 + 1 + 1 + 1, m + 1 + 1 + 1 + 1 + 1, m + 1 + 1 + 1 + 1 + 1 + 1⟩
/-- n statements, numbered through from m on. -/
def marks (m : Int) (n : Nat) : List St := (List.range n).map fun (i : Nat) => mkSt (m + 7 * i)
theorem marks_length (m : Int) (n : Nat) : (marks m n).length = n := by simp [marks]
theorem marks_get (m : Int) {n i : Nat} (h : i < n) : (marks m n)[i]? = some (mkSt (m + 7 * i)) := by
  unfold marks
  rw [List.getElem?_map, List.getElem?_range h]; rfl

/-- A slice whose cells may be written: one block of the call's own. -/
def Wr (w : World) (A : Option Addr) (n : Nat) : Prop := 0 < n → ∃ g cs, A = some ⟨g, 0, none⟩ ∧ Has w g 116 cs ∧ n * 7 ≤ cs.size

/-- Only the block of A has turned. -/
def Only (w w' : World) (A : Option Addr) : Prop := w.grownBy w' (A.map (·.block))

theorem Only.of_same {w w' : World} {A : Option Addr} (h : w = w') : Only w w' A := by subst h; exact World.grownBy.refl w _

/-- The first k statements' marks lie in a row of cells. -/
def Mk (cs : Array Value) (m : Int) (n k : Nat) : Prop := n * 7 ≤ cs.size ∧ ∀ i, i < k → ∀ j u, (mkSt (m + 7 * i)).cells[j]? = some u → cs[i * 7 + j]? = some u

theorem Mk.step {cs : Array Value} {m : Int} {n k : Nat} (h : Mk cs m n k) (hk : k < n) : Mk (put7 cs (k * 7) (mkSt (m + 7 * k))) m n (k + 1) := by
  refine ⟨by rw [put7_size]; exact h.1, fun i hi j u hu => ?_⟩
  have hj : j < 7 := by have := (List.getElem?_eq_some_iff.1 hu).1; simpa [St.cells] using this
  by_cases hik : i = k
  · subst hik
    exact put7_at cs _ _ (by have := h.1; omega) hu
  · rw [put7_far cs _ _ _ (by omega)]
    exact h.2 i (by omega) j u hu

theorem Mk.lst {w : World} {g n : Nat} {cs : Array Value} {m : Int} (hh : Has w g 116 cs) (h : Mk cs m n n) : Lst w w.heap.size (some ⟨g, 0, none⟩) n (marks m n) := by
  refine ⟨marks_length m n, fun _ => ⟨g, 0, rfl, hh.lt, fun k s hs j u hu => ?_⟩⟩
  have hk : k < n := by have := (List.getElem?_eq_some_iff.1 hs).1; rwa [marks_length] at this
  rw [marks_get m hk] at hs
  obtain rfl := Option.some.inj hs
  rw [Nat.zero_add, hh.cell]
  exact h.2 k hk j u hu

theorem only_put {w wr : World} {g : Nat} (h : w.grownBy wr (some g)) (o : Nat) (u : Value) : w.grownBy (wr.setCell ⟨g, o, none⟩ u) (some g) :=
  ⟨h.os, h.tape, h.output, by simpa [World.setCell] using h.size, fun i hi hne => (Below.heap_setCell wr _ u i (by rintro rfl; exact hne rfl)).trans (h.block i hi hne)⟩

/-- Four of seven numbers written. -/
def put4 (cs : Array Value) (o : Nat) (m : Int) : Array Value := (((cs.setIfInBounds o (.int .i64 m)).setIfInBounds (o + 1) (.int .i64 (m + 1))).setIfInBounds (o + 2) (.int .i64 (m + 1 + 1))).setIfInBounds (o + 3) (.int .i64 (m + 1 + 1 + 1))
def put5 (cs : Array Value) (o : Nat) (m : Int) : Array Value := (put4 cs o m).setIfInBounds (o + 4) (.int .i64 (m + 1 + 1 + 1 + 1))
def put6 (cs : Array Value) (o : Nat) (m : Int) : Array Value := (put5 cs o m).setIfInBounds (o + 5) (.int .i64 (m + 1 + 1 + 1 + 1 + 1))
theorem put7_eq (cs : Array Value) (o : Nat) (m : Int) : put7 cs o (mkSt m) = (put6 cs o m).setIfInBounds (o + 6) (.int .i64 (m + 1 + 1 + 1 + 1 + 1 + 1)) := rfl
theorem Has.size_cell {w : World} {g : Nat} {t : TypeId} {cs : Array Value} (h : Has w g t cs) {x : Nat} (hx : x < cs.size) : ∃ u, w.cell? ⟨g, x, none⟩ = some u := ⟨_, (h.cell x).trans (Array.getElem?_eq_getElem hx)⟩

/-- How marking ends. -/
def Marked (w : World) (A : Option Addr) (n : Nat) (m : Int) (e : Ending) (w' : World) : Prop :=
  e = .returned (.int .i64 (m + 7 * n)) ∧ Only w w' A ∧ Lst w' w'.heap.size A n (marks m n)

end Go.Proofs.Ytghkpmafocacoaa

namespace Go.Proofs.Ytghkpmafocacoaa
set_option maxRecDepth 100000
set_option linter.unusedVariables false
open Go.RowKit

end Go.Proofs.Ytghkpmafocacoaa
