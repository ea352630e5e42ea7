/- Parts of the proof: Dr, Kt. -/
import Derived.Test.YtkggejmamhakaaaZAC
import Derived.Test.YtkggejmamhakaaaZAH
import Derived.ProofKit
import Derived.OpenShut
import Derived.Deep.Slices
import Derived.StillTailTactics
import Derived.Deep.RegionHeld3
import Derived.Test.YtkggejmamhakaaaZAD
namespace Go.Proofs.Ytkggejmamhakaaa
set_option maxRecDepth 100000
open Go.RowKit
theorem Byt.more {w : World} {B B' : Nat} {A : Option Addr} {n : Nat} (h : Byt w B A n) (hB : B ≤ B') : Byt w B' A n := fun hn => by
  obtain ⟨g, off, e, hg, hc⟩ := h hn
  exact ⟨g, off, e, by omega, hc⟩
end Go.Proofs.Ytkggejmamhakaaa
namespace Go.Proofs.Ytkggejmamhakaaa
set_option maxRecDepth 100000
open Go.RowKit
theorem Chg.grown {a b c : World} {R : Nat} {row : Option Nat} (h : Chg a b R) (hg : b.grownBy c row) (hr : ∀ k, row = some k → a.heap.size ≤ k) : Chg a c R :=
  ⟨hg.os.trans h.os, hg.tape.trans h.tape, hg.output.trans h.output, Nat.le_trans h.size hg.size,
    fun i hi hne => (hg.block i (Nat.lt_of_lt_of_le hi h.size) (fun e => by have := hr i e.symm; omega)).trans (h.block i hi hne)⟩
theorem Rdr.grown {w w' : World} {B R : Nat} {A : Option Addr} {n c p : Nat} {row : Option Nat} (h : Rdr w B R A n c p) (hg : w.grownBy w' row) (hr : ∀ k, row = some k → B ≤ k ∧ k ≠ R) (hB : B ≤ w.heap.size) : Rdr w' B R A n c p :=
  ⟨(hg.block R h.lt (fun e => (hr R e.symm).2 rfl)).trans h.1, h.2.1, h.2.2.keep ((Below.refl B w).grown hg hB (fun k hk => (hr k hk).1))⟩
theorem Own.chg {w w' : World} {base R : Nat} {v : Value} {os : List St} (h : Own w base v os) (hc : Chg w w' R) (hR : R < base) : Own w' base v os := by
  refine World.ownsRow.kept h hc ?_
  cases hv : v.ownBlock with
  | none => exact .inl rfl
  | some k =>
    refine .inr fun e => ?_
    have h1 := (World.ownsRow.lt h k hv).1
    injection e with e
    omega
/-- Statements in a new block of their own. -/
theorem new_flat (w : World) (arr : Array Value) (qs : List St) (h : arr.toList = flat qs) : ∀ j u, (flat qs)[j]? = some u → (w.alloc (.cells arr 63)).cell? ((⟨w.heap.size, 0, none⟩ : Addr).add j) = some u := by
  intro j u hu
  have ha : ((⟨w.heap.size, 0, none⟩ : Addr).add j) = ⟨w.heap.size, j, none⟩ := by
    unfold Addr.add
    split
    · rename_i h0; rw [h0]
    · simp
  rw [ha, (Has.new w _ _).cell j, ← Array.getElem?_toList, h]
  exact hu
def St.put (s : St) : Nat → Int → St
  | 0, x => { s with k := x }
  | 1, x => { s with a := x }
  | 2, x => { s with b := x }
  | 3, x => { s with c := x }
  | 4, x => { s with u := x }
  | 5, x => { s with v := x }
  | _, x => { s with x := x }
theorem St.put_cells (s : St) (x : Int) {o : Nat} (h : o < 7) : (s.put o x).cells = s.cells.set o (.int .i64 x) := by
  obtain rfl | rfl | rfl | rfl | rfl | rfl | rfl : o = 0 ∨ o = 1 ∨ o = 2 ∨ o = 3 ∨ o = 4 ∨ o = 5 ∨ o = 6 := by omega
  all_goals rfl
theorem flat_num (x : Int) : ∀ (os : List St) (o : Nat), ∃ os', os'.length = os.length ∧ flat os' = (flat os).set o (.int .i64 x)
  | [], o => ⟨[], rfl, by simp [flat]⟩
  | s :: r, o => by
    have e : ∀ (q : St) (l : List St), flat (q :: l) = q.cells ++ flat l := fun _ _ => rfl
    have hl : s.cells.length = 7 := rfl
    by_cases h : o < 7
    · refine ⟨s.put o x :: r, rfl, ?_⟩
      rw [e, e, List.set_append_left _ _ (by omega), St.put_cells s x h]
    · obtain ⟨r', h1, h2⟩ := flat_num x r (o - 7)
      refine ⟨s :: r', by simp [h1], ?_⟩
      rw [e, e, h2, List.set_append_right _ _ (by omega), hl]
/-- One cell of what a call owns, overwritten by a number: it still owns as many statements. -/
theorem own_put {w : World} {base g n cap : Nat} {os : List St} (h : Own w base (.slice (some ⟨g, 0, none⟩) n cap) os) (o : Nat) (x : Int) : ∃ os', os'.length = os.length ∧ Own (w.setCell ⟨g, o, none⟩ (.int .i64 x)) base (.slice (some ⟨g, 0, none⟩) n cap) os' := by
  rcases h.2 with ⟨hv, _⟩ | ⟨g', cap', cur, hv, hg, hh, h1, h2, h3, h4⟩
  · injection hv with hv _ _
    cases hv
  · have e1 : g = g' := by injection hv with hv _ _; injection hv with hv; injection hv
    subst e1
    obtain ⟨os', hl, hf⟩ := flat_num x os o
    refine ⟨os', hl, by rw [flat_length], .inr ⟨g, cap', cur.setIfInBounds o (.int .i64 x), by rw [hl]; exact hv, hg, ?_, by rw [hl]; exact h1, h2, by simpa using h3, ?_⟩⟩
    · exact Has.put (t := 63) (cs := cur) hh o _
    · rw [hl, hf, Array.toList_setIfInBounds, List.take_set, h4]
/-- What a call owns and is not empty lies in a block that is known. -/
theorem own_has {w : World} {base n cap : Nat} {A : Option Addr} {os : List St} (h : Own w base (.slice A n cap) os) (h0 : 0 < os.length) : ∃ g cur, A = some ⟨g, 0, none⟩ ∧ base ≤ g ∧ Has w g 63 cur ∧ os.length * 7 ≤ cur.size := by
  rcases h.2 with ⟨_, h1⟩ | ⟨g, cap', cur, hv, hg, hh, h1, h2, h3, h4⟩
  · omega
  · injection hv with e1 _ _
    exact ⟨g, cur, e1, hg, hh, by rw [h3]; omega⟩
def Prgd (w : World) (B R : Nat) (A : Option Addr) (n c p : Nat) (e : Ending) (w' : World) : Prop :=
  ∃ (v : Value) (os : List St) (p' : Nat), e = .returned v ∧ Own w' w.heap.size v os ∧ 1 ≤ os.length ∧ os.length ≤ 10 ∧ p' ≤ p + 200 ∧ Rdr w' B R A n c p' ∧ Chg w w' R
end Go.Proofs.Ytkggejmamhakaaa
namespace Go.Proofs.Ytkggejmamhakaaa
set_option maxRecDepth 100000
open Go.RowKit
end Go.Proofs.Ytkggejmamhakaaa

namespace Go.Proofs.Ytkggejmamhakaaa
set_option maxRecDepth 100000
open Go.RowKit
end Go.Proofs.Ytkggejmamhakaaa
namespace Go.Proofs.Ytkggejmamhakaaa
set_option maxRecDepth 100000
open Go.ChangeShapes Go.WideShapes Go.RowKit Go.Deep
section
variable {H : Type} {enc : TypeId × Value → H} {w : World} {base : Nat} {spare : Nat → Bool} {held : Bool}
end
end Go.Proofs.Ytkggejmamhakaaa
namespace Go.Proofs.Ytkggejmamhakaaa
set_option maxRecDepth 100000
open Go.ChangeShapes Go.WideShapes Go.RowKit Go.Deep
section
variable {H : Type} {enc : TypeId × Value → H} {w : World} {base : Nat}
end
/-- The first k statements of a list lie in a row of cells. -/
def Fill (cs : Array Value) (ps : List St) (n k : Nat) : Prop := cs.size = n * 7 ∧ ∀ i s, i < k → ps[i]? = some s → ∀ j u, s.cells[j]? = some u → cs[i * 7 + j]? = some u
def put7 (cs : Array Value) (o : Nat) (s : St) : Array Value :=
  ((((((cs.setIfInBounds o (.int .i64 s.k)).setIfInBounds (o + 1) (.int .i64 s.a)).setIfInBounds (o + 2) (.int .i64 s.b)).setIfInBounds (o + 3) (.int .i64 s.c)).setIfInBounds (o + 4) (.int .i64 s.u)).setIfInBounds (o + 5) (.int .i64 s.v)).setIfInBounds (o + 6) (.int .i64 s.x)
theorem put_at {cs : Array Value} {i x : Nat} {v : Value} (h : x < cs.size) (e : i = x := by omega) : (cs.setIfInBounds i v)[x]? = some v := by subst e; simp [h]
theorem put_ne {cs : Array Value} {i x : Nat} {v : Value} (h : i ≠ x) : (cs.setIfInBounds i v)[x]? = cs[x]? := by simp [h]
theorem put7_size (cs : Array Value) (o : Nat) (s : St) : (put7 cs o s).size = cs.size := by simp [put7]
theorem put7_far (cs : Array Value) (o x : Nat) (s : St) (h : x < o ∨ o + 7 ≤ x) : (put7 cs o s)[x]? = cs[x]? := by
  unfold put7
  simp only [Array.getElem?_setIfInBounds, Array.size_setIfInBounds]
  repeat rw [if_neg (by omega)]
theorem put7_at (cs : Array Value) (o : Nat) (s : St) (h : o + 7 ≤ cs.size) {j : Nat} {u : Value} (hu : s.cells[j]? = some u) : (put7 cs o s)[o + j]? = some u := by
  have hj : j < 7 := by have := (List.getElem?_eq_some_iff.1 hu).1; simpa [St.cells] using this
  unfold put7
  obtain rfl | rfl | rfl | rfl | rfl | rfl | rfl : j = 0 ∨ j = 1 ∨ j = 2 ∨ j = 3 ∨ j = 4 ∨ j = 5 ∨ j = 6 := by omega
  · rw [put_ne (by omega), put_ne (by omega), put_ne (by omega), put_ne (by omega), put_ne (by omega), put_ne (by omega), put_at (by simp; omega)]; exact hu
  · rw [put_ne (by omega), put_ne (by omega), put_ne (by omega), put_ne (by omega), put_ne (by omega), put_at (by simp; omega)]; exact hu
  · rw [put_ne (by omega), put_ne (by omega), put_ne (by omega), put_ne (by omega), put_at (by simp; omega)]; exact hu
  · rw [put_ne (by omega), put_ne (by omega), put_ne (by omega), put_at (by simp; omega)]; exact hu
  · rw [put_ne (by omega), put_ne (by omega), put_at (by simp; omega)]; exact hu
  · rw [put_ne (by omega), put_at (by simp; omega)]; exact hu
  · rw [put_at (by simp; omega)]; exact hu
theorem Fill.step {cs : Array Value} {ps : List St} {n k : Nat} {s : St} (h : Fill cs ps n k) (hs : ps[k]? = some s) (hk : k < n) : Fill (put7 cs (k * 7) s) ps n (k + 1) := by
  refine ⟨by rw [put7_size]; exact h.1, fun i q hi hq j u hu => ?_⟩
  have hj : j < 7 := by have := (List.getElem?_eq_some_iff.1 hu).1; simpa [St.cells] using this
  by_cases hik : i = k
  · subst hik
    obtain rfl : s = q := Option.some.inj (hs.symm.trans hq)
    exact put7_at cs _ _ (by rw [h.1]; omega) hu
  · rw [put7_far cs _ _ _ (by omega)]
    exact h.2 i q (by omega) hq j u hu
theorem Fill.done {cs : Array Value} {ps : List St} {n : Nat} (h : Fill cs ps n n) (hL : ps.length = n) : cs.toList = flat ps := by
  apply List.ext_getElem?
  intro x
  rw [Array.getElem?_toList]
  by_cases hx : x < n * 7
  · have hi : x / 7 < ps.length := by rw [hL]; omega
    have hr : x % 7 < (ps[x / 7]).cells.length := by simp [St.cells]; omega
    have h1 := h.2 (x / 7) ps[x / 7] (by omega) (List.getElem?_eq_getElem hi) (x % 7) _ (List.getElem?_eq_getElem hr)
    have h2 := flat_at (List.getElem?_eq_getElem hi) (List.getElem?_eq_getElem hr)
    rw [show x / 7 * 7 + x % 7 = x by omega] at h1 h2
    rw [h1, h2]
  · rw [Array.getElem?_eq_none (by rw [h.1]; omega), List.getElem?_eq_none (by rw [flat_length, hL]; omega)]
theorem Has.put7 {w : World} {g : Nat} {cs : Array Value} (h : Has w g 63 cs) (o : Nat) (s : St) :
    Has (((((((w.setCell ⟨g, o, none⟩ (.int .i64 s.k)).setCell ⟨g, o + 1, none⟩ (.int .i64 s.a)).setCell ⟨g, o + 2, none⟩ (.int .i64 s.b)).setCell ⟨g, o + 3, none⟩ (.int .i64 s.c)).setCell ⟨g, o + 4, none⟩ (.int .i64 s.u)).setCell ⟨g, o + 5, none⟩ (.int .i64 s.v)).setCell ⟨g, o + 6, none⟩ (.int .i64 s.x)) g 63 (put7 cs o s) :=
  ((((((h.put o _).put (o + 1) _).put (o + 2) _).put (o + 3) _).put (o + 4) _).put (o + 5) _).put (o + 6) _
/-- A block that holds a list's cells reads as that list. -/
theorem Has.lst {w : World} {g n : Nat} {cs : Array Value} {ps : List St} (h : Has w g 63 cs) (hf : cs.toList = flat ps) (hL : ps.length = n) : Lst w w.heap.size (some ⟨g, 0, none⟩) n ps := by
  refine ⟨hL, fun _ => ⟨g, 0, rfl, h.lt, fun k s hs j u hu => ?_⟩⟩
  rw [Nat.zero_add, h.cell, ← Array.getElem?_toList, hf]
  exact flat_at hs hu
end Go.Proofs.Ytkggejmamhakaaa
namespace Go.Proofs.Ytkggejmamhakaaa
set_option maxRecDepth 100000
open Go.RowKit
/-- The statement whose seven numbers are m, m + 1, .., m + 6. -/
def mkSt (m : Int) : St := ⟨m, m + 1, m + 1 + 1, m + 1 + 1 + 1, m + 1 + 1 + 1 + 1, m + 1 + 1 + 1 + 1 + 1, m + 1 + 1 + 1 + 1 + 1 + 1⟩
/-- n statements, numbered through from m on. -/
def marks (m : Int) (n : Nat) : List St := (List.range n).map fun (i : Nat) => mkSt (m + 7 * i)
theorem marks_length (m : Int) (n : Nat) : (marks m n).length = n := by simp [marks]
theorem marks_get (m : Int) {n i : Nat} (h : i < n) : (marks m n)[i]? = some (mkSt (m + 7 * i)) := by
  unfold marks
  rw [List.getElem?_map, List.getElem?_range h]; rfl
/-- Only the block of A has turned. -/
def Only (w w' : World) (A : Option Addr) : Prop := w.grownBy w' (A.map (·.block))
/-- The first k statements' marks lie in a row of cells. -/
def Mk (cs : Array Value) (m : Int) (n k : Nat) : Prop := n * 7 ≤ cs.size ∧ ∀ i, i < k → ∀ j u, (mkSt (m + 7 * i)).cells[j]? = some u → cs[i * 7 + j]? = some u
theorem Mk.step {cs : Array Value} {m : Int} {n k : Nat} (h : Mk cs m n k) (hk : k < n) : Mk (put7 cs (k * 7) (mkSt (m + 7 * k))) m n (k + 1) := by
  refine ⟨by rw [put7_size]; exact h.1, fun i hi j u hu => ?_⟩
  have hj : j < 7 := by have := (List.getElem?_eq_some_iff.1 hu).1; simpa [St.cells] using this
  by_cases hik : i = k
  · subst hik
    exact put7_at cs _ _ (by have := h.1; omega) hu
  · rw [put7_far cs _ _ _ (by omega)]
    exact h.2 i (by omega) j u hu
theorem Mk.lst {w : World} {g n : Nat} {cs : Array Value} {m : Int} (hh : Has w g 63 cs) (h : Mk cs m n n) : Lst w w.heap.size (some ⟨g, 0, none⟩) n (marks m n) := by
  refine ⟨marks_length m n, fun _ => ⟨g, 0, rfl, hh.lt, fun k s hs j u hu => ?_⟩⟩
  have hk : k < n := by have := (List.getElem?_eq_some_iff.1 hs).1; rwa [marks_length] at this
  rw [marks_get m hk] at hs
  obtain rfl := Option.some.inj hs
  rw [Nat.zero_add, hh.cell]
  exact h.2 k hk j u hu
theorem Has.size_cell {w : World} {g : Nat} {t : TypeId} {cs : Array Value} (h : Has w g t cs) {x : Nat} (hx : x < cs.size) : ∃ u, w.cell? ⟨g, x, none⟩ = some u := ⟨_, (h.cell x).trans (Array.getElem?_eq_getElem hx)⟩
end Go.Proofs.Ytkggejmamhakaaa
namespace Go.Proofs.Ytkggejmamhakaaa
set_option maxRecDepth 100000
set_option linter.unusedVariables false
open Go.RowKit
end Go.Proofs.Ytkggejmamhakaaa
