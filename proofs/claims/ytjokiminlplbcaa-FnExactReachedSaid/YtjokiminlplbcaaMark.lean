/- The laws' marks: a list's memory overwritten number by number, and read again. -/
import Derived.Test.YtjokiminlplbcaaKit
namespace Go.Proofs.Ytjokiminlplbcaa
set_option maxRecDepth 100000
open Go.RowKit

/-- The statement whose seven numbers are m, m + 1, .., m + 6. -/
def mkSt (m : Int) : St := ⟨m, m + 1, m + 1 + 1, m + 1 + 1 + 1, m + 1 + 1 + 1 + 1, m + 1 + 1 + 1 + 1 + 1, m + 1 + 1 + 1 + 1 + 1 + 1⟩
/-- n statements, numbered through from m on. -/
def marks (m : Int) (n : Nat) : List St := (List.range n).map fun (i : Nat) => mkSt (m + 7 * i)
theorem marks_length (m : Int) (n : Nat) : (marks m n).length = n := by simp [marks]
theorem marks_get (m : Int) {n i : Nat} (h : i < n) : (marks m n)[i]? = some (mkSt (m + 7 * i)) := by
  unfold marks
  rw [List.getElem?_map, List.getElem?_range h]; rfl

/-- A slice whose cells may be written: one block of the call's own. -/
def Wr (w : World) (A : Option Addr) (n : Nat) : Prop := 0 < n → ∃ g cs, A = some ⟨g, 0, none⟩ ∧ Has w g 83 cs ∧ n * 7 ≤ cs.size

/-- Only the block of A has turned. -/
def Only (w w' : World) (A : Option Addr) : Prop := w.grownBy w' (A.map (·.block))

theorem Only.of_same {w w' : World} {A : Option Addr} (h : w = w') : Only w w' A := by subst h; exact World.grownBy.refl w _

/-- The first k statements' marks lie in a row of cells. -/
def Mk (cs : Array Value) (m : Int) (n k : Nat) : Prop := n * 7 ≤ cs.size ∧ ∀ i, i < k → ∀ j u, (mkSt (m + 7 * i)).cells[j]? = some u → cs[i * 7 + j]? = some u

theorem Mk.step {cs : Array Value} {m : Int} {n k : Nat} (h : Mk cs m n k) (hk : k < n) : Mk (put7 cs (k * 7) (mkSt (m + 7 * k))) m n (k + 1) := by
  refine ⟨by rw [put7_size]; exact h.1, fun i hi j u hu => ?_⟩
  have hj : j < 7 := by have := (List.getElem?_eq_some_iff.1 hu).1; simpa [St.cells] using this
  by_cases hik : i = k
  · subst hik
    exact put7_at cs _ _ (by have := h.1; omega) hu
  · rw [put7_far cs _ _ _ (by omega)]
    exact h.2 i (by omega) j u hu

theorem Mk.lst {w : World} {g n : Nat} {cs : Array Value} {m : Int} (hh : Has w g 83 cs) (h : Mk cs m n n) : Lst w w.heap.size (some ⟨g, 0, none⟩) n (marks m n) := by
  refine ⟨marks_length m n, fun _ => ⟨g, 0, rfl, hh.lt, fun k s hs j u hu => ?_⟩⟩
  have hk : k < n := by have := (List.getElem?_eq_some_iff.1 hs).1; rwa [marks_length] at this
  rw [marks_get m hk] at hs
  obtain rfl := Option.some.inj hs
  rw [Nat.zero_add, hh.cell]
  exact h.2 k hk j u hu

theorem heldStmtS_any (A : Option Addr) (n c : Nat) (m : Int) (w : World) (h : Lst w w.heap.size A n (marks m n)) (hm : 1 ≤ m) (hm2 : m ≤ 1000000000) (hn : n ≤ 100000000) :
    Calls Try.prog 54 #[.slice A n c, .int .i64 m] w fun e w' => e = .returned (.int .i64 (m + 7 * n)) ∧ w = w' := by
  have hH := Lib.hid h
  clear h
  go_enter Try.func54, Try.ntmps54
  go_wp2
  go_loop [1, 5] (fun q i => ∃ k : Nat, k ≤ n ∧ i = .int .i64 k ∧ q = .int .i64 (m + 7 * k)) (fun _ i => n - (intOf i).toNat)
  case atStart => exact ⟨0, Nat.zero_le _, rfl, by simp⟩
  case round =>
    obtain ⟨k, hk, rfl, rfl⟩ := hrel
    by_cases hlt : k < n
    · obtain ⟨g, off, s, rfl, hg, hs, hat⟩ := hH.out.at_ hlt
      rw [marks_get m hlt] at hs
      obtain rfl := Option.some.inj hs
      obtain ⟨c0, c1, c2, c3, c4, c5, c6⟩ := hat.open_
      simp only [mkSt] at c0 c1 c2 c3 c4 c5 c6
      clear hs hat
      go_wp2
      go_loop [1, 6] (fun q i => (i = .int .i64 0 ∧ q = .int .i64 (m + 7 * k + 1 + 1 + 1 + 1)) ∨ (i = .int .i64 1 ∧ q = .int .i64 (m + 7 * k + 1 + 1 + 1 + 1 + 1)) ∨ (i = .int .i64 2 ∧ q = .int .i64 (m + 7 * k + 1 + 1 + 1 + 1 + 1 + 1)) ∨ (i = .int .i64 3 ∧ q = .int .i64 (m + 7 * k + 1 + 1 + 1 + 1 + 1 + 1 + 1))) (fun _ i => 3 - (intOf i).toNat)
      case atStart => exact .inl ⟨rfl, rfl⟩
      case round =>
        rcases hrel with ⟨rfl, rfl⟩ | ⟨rfl, rfl⟩ | ⟨rfl, rfl⟩ | ⟨rfl, rfl⟩
        · go_wp2
          go_round
          case rel => exact .inr (.inl ⟨rfl, rfl⟩)
          case measure => simp [intOf]
        · go_wp2
          go_round
          case rel => exact .inr (.inr (.inl ⟨rfl, rfl⟩))
          case measure => simp [intOf]
        · go_wp2
          go_round
          case rel => exact .inr (.inr (.inr ⟨rfl, rfl⟩))
          case measure => simp [intOf]
        · go_wp2
          exact ⟨⟨k + 1, by omega, by go_num, congrArg (Value.int .i64) (by omega)⟩, by simp [intOf]; omega⟩
    · obtain rfl : n = k := by omega
      go_wp2
      go_ret
      exact ⟨rfl, rfl⟩

theorem only_put {w wr : World} {g : Nat} (h : w.grownBy wr (some g)) (o : Nat) (u : Value) : w.grownBy (wr.setCell ⟨g, o, none⟩ u) (some g) :=
  ⟨h.os, h.tape, h.output, by simpa [World.setCell] using h.size, fun i hi hne => (Below.heap_setCell wr _ u i (by rintro rfl; exact hne rfl)).trans (h.block i hi hne)⟩

/-- Four of seven numbers written. -/
def put4 (cs : Array Value) (o : Nat) (m : Int) : Array Value := (((cs.setIfInBounds o (.int .i64 m)).setIfInBounds (o + 1) (.int .i64 (m + 1))).setIfInBounds (o + 2) (.int .i64 (m + 1 + 1))).setIfInBounds (o + 3) (.int .i64 (m + 1 + 1 + 1))
def put5 (cs : Array Value) (o : Nat) (m : Int) : Array Value := (put4 cs o m).setIfInBounds (o + 4) (.int .i64 (m + 1 + 1 + 1 + 1))
def put6 (cs : Array Value) (o : Nat) (m : Int) : Array Value := (put5 cs o m).setIfInBounds (o + 5) (.int .i64 (m + 1 + 1 + 1 + 1 + 1))
theorem put7_eq (cs : Array Value) (o : Nat) (m : Int) : put7 cs o (mkSt m) = (put6 cs o m).setIfInBounds (o + 6) (.int .i64 (m + 1 + 1 + 1 + 1 + 1 + 1)) := rfl
theorem Has.size_cell {w : World} {g : Nat} {t : TypeId} {cs : Array Value} (h : Has w g t cs) {x : Nat} (hx : x < cs.size) : ∃ u, w.cell? ⟨g, x, none⟩ = some u := ⟨_, (h.cell x).trans (Array.getElem?_eq_getElem hx)⟩

/-- How marking ends. -/
def Marked (w : World) (A : Option Addr) (n : Nat) (m : Int) (e : Ending) (w' : World) : Prop :=
  e = .returned (.int .i64 (m + 7 * n)) ∧ Only w w' A ∧ Lst w' w'.heap.size A n (marks m n)

set_option maxHeartbeats 1000000 in
theorem markStmtS_any (A : Option Addr) (n c : Nat) (m : Int) (w : World) (h : Wr w A n) (hm : 1 ≤ m) (hm2 : m ≤ 1000000000) (hn : n ≤ 100000000) :
    Calls Try.prog 44 #[.slice A n c, .int .i64 m] w (Marked w A n m) := by
  by_cases hn0 : n = 0
  · subst hn0
    clear h
    go_enter Try.func44, Try.ntmps44
    go_wp2
    go_loop [1, 5] (fun q i => i = .int .i64 0 ∧ q = .int .i64 m) (fun _ i => 0)
    case atStart => exact ⟨rfl, rfl⟩
    case round =>
      obtain ⟨rfl, rfl⟩ := hrel
      go_wp2
      go_ret
      exact ⟨ret_int (by omega), Only.of_same rfl, rfl, fun h => absurd h (by omega)⟩
  · obtain ⟨g, cs0, rfl, hh0, hs0⟩ := h (by omega)
    have hH0 := Lib.hid hh0
    clear hh0
    go_enter Try.func44, Try.ntmps44
    go_wp2
    go_loopw [1, 5] (fun q i wr => ∃ (k : Nat) (cs : Array Value), k ≤ n ∧ i = .int .i64 k ∧ q = .int .i64 (m + 7 * k) ∧ Has wr g 83 cs ∧ Mk cs m n k ∧ w.grownBy wr (some g)) (fun _ i _ => n - (intOf i).toNat)
    case atStart => exact ⟨0, cs0, Nat.zero_le _, rfl, by simp, hH0.out, ⟨hs0, fun i hi => absurd hi (by omega)⟩, World.grownBy.refl w _⟩
    case round =>
      obtain ⟨k, cs, hk, rfl, rfl, hhas, hmk, hgr⟩ := hrel
      have hHas := Lib.hid hhas
      have hMk := Lib.hid hmk
      have hGr := Lib.hid hgr
      clear hgr
      by_cases hlt : k < n
      · have hfz := hhas.frozen
        have hsz := hmk.1
        obtain ⟨u0, e0⟩ := hhas.size_cell (x := k * 7) (by omega)
        obtain ⟨u1, e1⟩ := hhas.size_cell (x := k * 7 + 1) (by omega)
        obtain ⟨u2, e2⟩ := hhas.size_cell (x := k * 7 + 2) (by omega)
        obtain ⟨u3, e3⟩ := hhas.size_cell (x := k * 7 + 3) (by omega)
        clear hhas hmk
        go_wp2
        have hP4 := Lib.hid ((((hHas.out.put (k * 7) (.int .i64 (m + 7 * k))).put (k * 7 + 1) (.int .i64 (m + 7 * k + 1))).put (k * 7 + 2) (.int .i64 (m + 7 * k + 1 + 1))).put (k * 7 + 3) (.int .i64 (m + 7 * k + 1 + 1 + 1)))
        have hG4 := Lib.hid (only_put (only_put (only_put (only_put hGr.out (k * 7) (.int .i64 (m + 7 * k))) (k * 7 + 1) (.int .i64 (m + 7 * k + 1))) (k * 7 + 2) (.int .i64 (m + 7 * k + 1 + 1))) (k * 7 + 3) (.int .i64 (m + 7 * k + 1 + 1 + 1)))
        go_loopw [1, 6] (fun q i wq => (i = .int .i64 0 ∧ q = .int .i64 (m + 7 * k + 1 + 1 + 1 + 1) ∧ Has wq g 83 (put4 cs (k * 7) (m + 7 * k)) ∧ w.grownBy wq (some g)) ∨ (i = .int .i64 1 ∧ q = .int .i64 (m + 7 * k + 1 + 1 + 1 + 1 + 1) ∧ Has wq g 83 (put5 cs (k * 7) (m + 7 * k)) ∧ w.grownBy wq (some g)) ∨ (i = .int .i64 2 ∧ q = .int .i64 (m + 7 * k + 1 + 1 + 1 + 1 + 1 + 1) ∧ Has wq g 83 (put6 cs (k * 7) (m + 7 * k)) ∧ w.grownBy wq (some g)) ∨ (i = .int .i64 3 ∧ q = .int .i64 (m + 7 * k + 1 + 1 + 1 + 1 + 1 + 1 + 1) ∧ Has wq g 83 (put7 cs (k * 7) (mkSt (m + 7 * k))) ∧ w.grownBy wq (some g))) (fun _ i _ => 3 - (intOf i).toNat)
        case atStart => exact .inl ⟨rfl, rfl, hP4.out, hG4.out⟩
        case round =>
          clear e0 e1 e2 e3 hfz
          rcases hrel with ⟨rfl, rfl, hp, hg⟩ | ⟨rfl, rfl, hp, hg⟩ | ⟨rfl, rfl, hp, hg⟩ | ⟨rfl, rfl, hp, hg⟩
          · obtain ⟨v0, f0⟩ := hp.size_cell (x := k * 7 + 4) (by simp [put4]; omega)
            have hfz := hp.frozen
            have hN := Lib.hid (hp.put (k * 7 + 4) (.int .i64 (m + 7 * k + 1 + 1 + 1 + 1)))
            have hG := Lib.hid (only_put hg (k * 7 + 4) (.int .i64 (m + 7 * k + 1 + 1 + 1 + 1)))
            clear hp hg
            go_wp2
            go_roundw
            case rel => exact .inr (.inl ⟨rfl, rfl, hN.out, hG.out⟩)
            case measure => simp [intOf]
          · obtain ⟨v0, f0⟩ := hp.size_cell (x := k * 7 + 5) (by simp [put4, put5]; omega)
            have hfz := hp.frozen
            have hN := Lib.hid (hp.put (k * 7 + 5) (.int .i64 (m + 7 * k + 1 + 1 + 1 + 1 + 1)))
            have hG := Lib.hid (only_put hg (k * 7 + 5) (.int .i64 (m + 7 * k + 1 + 1 + 1 + 1 + 1)))
            clear hp hg
            go_wp2
            go_roundw
            case rel => exact .inr (.inr (.inl ⟨rfl, rfl, hN.out, hG.out⟩))
            case measure => simp [intOf]
          · obtain ⟨v0, f0⟩ := hp.size_cell (x := k * 7 + 6) (by simp [put4, put5, put6]; omega)
            have hfz := hp.frozen
            have hN := Lib.hid (hp.put (k * 7 + 6) (.int .i64 (m + 7 * k + 1 + 1 + 1 + 1 + 1 + 1)))
            have hG := Lib.hid (only_put hg (k * 7 + 6) (.int .i64 (m + 7 * k + 1 + 1 + 1 + 1 + 1 + 1)))
            clear hp hg
            go_wp2
            go_roundw
            case rel => exact .inr (.inr (.inr (⟨rfl, rfl, hN.out, hG.out⟩)))
            case measure => simp [intOf]
          · have hP := Lib.hid hp
            have hG := Lib.hid hg
            clear hp hg
            go_wp2
            exact ⟨⟨k + 1, _, by omega, by go_num, congrArg (Value.int .i64) (by omega), hP.out, hMk.out.step hlt, hG.out⟩, by simp [intOf]; omega⟩
      · obtain rfl : n = k := by omega
        have hLs := Lib.hid (Mk.lst hHas.out hMk.out)
        go_wp2
        go_ret
        exact ⟨rfl, hGr.out, hLs.out⟩

end Go.Proofs.Ytjokiminlplbcaa
