/- Drawn arguments of chapter 1 that are statements and numbers. Drawn programs. Drawn programs, one in twenty spoilt. -/
import Derived.Test.YtdegfbdoeklhnaaRd
import Derived.Test.YtdegfbdoeklhnaaUnP
namespace Go.Proofs.Ytdegfbdoeklhnaa
set_option maxRecDepth 100000
open Go.RowKit

theorem Byt.more {w : World} {B B' : Nat} {A : Option Addr} {n : Nat} (h : Byt w B A n) (hB : B ≤ B') : Byt w B' A n := fun hn => by
  obtain ⟨g, off, e, hg, hc⟩ := h hn
  exact ⟨g, off, e, by omega, hc⟩

def StD (w : World) (e : Ending) (w' : World) : Prop :=
  ∃ (k a b d u v x : Int), e = .returned (.agg #[.int .i64 k, .int .i64 a, .int .i64 b, .int .i64 d, .int .i64 u, .int .i64 v, .int .i64 x]) ∧ Below w.heap.size w w'

def NumsD (w : World) (e : Ending) (w' : World) : Prop := ∃ s v x : Int, e = .returned (.tuple #[.int .i64 s, .int .i64 v, .int .i64 x]) ∧ Below w.heap.size w w'

end Go.Proofs.Ytdegfbdoeklhnaa

namespace Go.Proofs.Ytdegfbdoeklhnaa
set_option maxRecDepth 100000
open Go.RowKit

theorem Chg.grown {a b c : World} {R : Nat} {row : Option Nat} (h : Chg a b R) (hg : b.grownBy c row) (hr : ∀ k, row = some k → a.heap.size ≤ k) : Chg a c R :=
  ⟨hg.os.trans h.os, hg.tape.trans h.tape, hg.output.trans h.output, Nat.le_trans h.size hg.size,
    fun i hi hne => (hg.block i (Nat.lt_of_lt_of_le hi h.size) (fun e => by have := hr i e.symm; omega)).trans (h.block i hi hne)⟩
theorem Rdr.grown {w w' : World} {B R : Nat} {A : Option Addr} {n c p : Nat} {row : Option Nat} (h : Rdr w B R A n c p) (hg : w.grownBy w' row) (hr : ∀ k, row = some k → B ≤ k ∧ k ≠ R) (hB : B ≤ w.heap.size) : Rdr w' B R A n c p :=
  ⟨(hg.block R h.lt (fun e => (hr R e.symm).2 rfl)).trans h.1, h.2.1, h.2.2.keep ((Below.refl B w).grown hg hB (fun k hk => (hr k hk).1))⟩
theorem Own.chg {w w' : World} {base R : Nat} {v : Value} {os : List St} (h : Own w base v os) (hc : Chg w w' R) (hR : R < base) : Own w' base v os := by
  refine World.ownsRow.kept h hc ?_
  cases hv : v.ownBlock with
  | none => exact .inl rfl
  | some k =>
    refine .inr fun e => ?_
    have h1 := (World.ownsRow.lt h k hv).1
    injection e with e
    omega

/-- Statements in a new block of their own. -/
theorem new_flat (w : World) (arr : Array Value) (qs : List St) (h : arr.toList = flat qs) : ∀ j u, (flat qs)[j]? = some u → (w.alloc (.cells arr 85)).cell? ((⟨w.heap.size, 0, none⟩ : Addr).add j) = some u := by
  intro j u hu
  have ha : ((⟨w.heap.size, 0, none⟩ : Addr).add j) = ⟨w.heap.size, j, none⟩ := by
    unfold Addr.add
    split
    · rename_i h0; rw [h0]
    · simp
  rw [ha, (Has.new w _ _).cell j, ← Array.getElem?_toList, h]
  exact hu

def St.put (s : St) : Nat → Int → St
  | 0, x => { s with k := x }
  | 1, x => { s with a := x }
  | 2, x => { s with b := x }
  | 3, x => { s with c := x }
  | 4, x => { s with u := x }
  | 5, x => { s with v := x }
  | _, x => { s with x := x }
theorem St.put_cells (s : St) (x : Int) {o : Nat} (h : o < 7) : (s.put o x).cells = s.cells.set o (.int .i64 x) := by
  obtain rfl | rfl | rfl | rfl | rfl | rfl | rfl : o = 0 ∨ o = 1 ∨ o = 2 ∨ o = 3 ∨ o = 4 ∨ o = 5 ∨ o = 6 := by omega
  all_goals rfl
theorem flat_num (x : Int) : ∀ (os : List St) (o : Nat), ∃ os', os'.length = os.length ∧ flat os' = (flat os).set o (.int .i64 x)
  | [], o => ⟨[], rfl, by simp [flat]⟩
  | s :: r, o => by
    have e : ∀ (q : St) (l : List St), flat (q :: l) = q.cells ++ flat l := fun _ _ => rfl
    have hl : s.cells.length = 7 := rfl
    by_cases h : o < 7
    · refine ⟨s.put o x :: r, rfl, ?_⟩
      rw [e, e, List.set_append_left _ _ (by omega), St.put_cells s x h]
    · obtain ⟨r', h1, h2⟩ := flat_num x r (o - 7)
      refine ⟨s :: r', by simp [h1], ?_⟩
      rw [e, e, h2, List.set_append_right _ _ (by omega), hl]

/-- One cell of what a call owns, overwritten by a number: it still owns as many statements. -/
theorem own_put {w : World} {base g n cap : Nat} {os : List St} (h : Own w base (.slice (some ⟨g, 0, none⟩) n cap) os) (o : Nat) (x : Int) : ∃ os', os'.length = os.length ∧ Own (w.setCell ⟨g, o, none⟩ (.int .i64 x)) base (.slice (some ⟨g, 0, none⟩) n cap) os' := by
  rcases h.2 with ⟨hv, _⟩ | ⟨g', cap', cur, hv, hg, hh, h1, h2, h3, h4⟩
  · injection hv with hv _ _
    cases hv
  · have e1 : g = g' := by injection hv with hv _ _; injection hv with hv; injection hv
    subst e1
    obtain ⟨os', hl, hf⟩ := flat_num x os o
    refine ⟨os', hl, by rw [flat_length], .inr ⟨g, cap', cur.setIfInBounds o (.int .i64 x), by rw [hl]; exact hv, hg, ?_, by rw [hl]; exact h1, h2, by simpa using h3, ?_⟩⟩
    · exact Has.put (t := 85) (cs := cur) hh o _
    · rw [hl, hf, Array.toList_setIfInBounds, List.take_set, h4]

/-- What a call owns and is not empty lies in a block that is known. -/
theorem own_has {w : World} {base n cap : Nat} {A : Option Addr} {os : List St} (h : Own w base (.slice A n cap) os) (h0 : 0 < os.length) : ∃ g cur, A = some ⟨g, 0, none⟩ ∧ base ≤ g ∧ Has w g 85 cur ∧ os.length * 7 ≤ cur.size := by
  rcases h.2 with ⟨_, h1⟩ | ⟨g, cap', cur, hv, hg, hh, h1, h2, h3, h4⟩
  · omega
  · injection hv with e1 _ _
    exact ⟨g, cur, e1, hg, hh, by rw [h3]; omega⟩

def Prgd (w : World) (B R : Nat) (A : Option Addr) (n c p : Nat) (e : Ending) (w' : World) : Prop :=
  ∃ (v : Value) (os : List St) (p' : Nat), e = .returned v ∧ Own w' w.heap.size v os ∧ 1 ≤ os.length ∧ os.length ≤ 10 ∧ p' ≤ p + 200 ∧ Rdr w' B R A n c p' ∧ Chg w w' R

end Go.Proofs.Ytdegfbdoeklhnaa

namespace Go.Proofs.Ytdegfbdoeklhnaa
set_option maxRecDepth 100000
open Go.RowKit

theorem cell_in {w : World} {g : Nat} {t : TypeId} {cs : Array Value} (h : Has w g t cs) {x : Nat} (hx : x < cs.size) : ∃ u, w.cell? ⟨g, x, none⟩ = some u := ⟨_, (h.cell x).trans (Array.getElem?_eq_getElem hx)⟩

def lenOf : Value → Nat | .slice _ n _ => n | _ => 0

def Anyd (w : World) (e : Ending) (w' : World) : Prop :=
  ∃ (v : Value) (os : List St), e = .returned v ∧ Own w' w.heap.size v os ∧ os.length ≤ 11 ∧ Below w.heap.size w w'

/-- A program that is drawn, and the source of numbers behind it. -/
def AnyR (w : World) (R : Nat) (A : Option Addr) (n c p : Nat) (e : Ending) (w' : World) : Prop :=
  ∃ (v : Value) (os : List St) (p' : Nat), e = .returned v ∧ Own w' (w.heap.size + 1) v os ∧ os.length ≤ 11 ∧ Below w.heap.size w w' ∧ Rdr w' R R A n c p' ∧ p' ≤ p + 1000

end Go.Proofs.Ytdegfbdoeklhnaa
