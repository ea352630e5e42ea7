/- What is seen of a program: its weights by the states with 0 for what is not asked; slices tell the same; plain. -/
import Derived.Test.YtkibkmheomlafaaG1
import Derived.Test.YtkibkmheomlafaaAr
import Derived.Test.YtkibkmheomlafaaVp
namespace Go.Proofs.Ytkibkmheomlafaa
set_option maxRecDepth 100000
set_option linter.unusedVariables false
open Go.RowKit

/-- A state with 0 for one variable that is not asked; for all up to a number. -/
def mk1 (S : Int) (v : Nat) (x : Int) : Int := if tb S v = true then x else withValue x v 0
def mkT (S : Int) : Nat → Int → Int
  | 0, x => x
  | v + 1, x => mk1 S v (mkT S v x)
def mk (S x : Int) : Int := mkT S 4 x
theorem mk1_bd {S x : Int} {v : Nat} (hv : v ≤ 3) (hx : 0 ≤ x ∧ x ≤ 80) : 0 ≤ mk1 S v x ∧ mk1 S v x ≤ 80 := by
  unfold mk1
  split
  · exact hx
  · exact with_bd hx (by omega) (by decide)
theorem mkT_bd {S : Int} : ∀ (v : Nat), v ≤ 4 → ∀ {x : Int}, 0 ≤ x ∧ x ≤ 80 → 0 ≤ mkT S v x ∧ mkT S v x ≤ 80
  | 0, _, x, hx => hx
  | v + 1, hv, x, hx => mk1_bd (by omega) (mkT_bd v (by omega) hx)
theorem mk_bd {S x : Int} (hx : 0 ≤ x ∧ x ≤ 80) : 0 ≤ mk S x ∧ mk S x ≤ 80 := mkT_bd 4 (by decide) hx
theorem mk1_comm {S x y : Int} {u v : Nat} (hu : u ≤ 3) (hv : v ≤ 3) (hne : u ≠ v) (hx : 0 ≤ x ∧ x ≤ 80) (hy : 0 ≤ y ∧ y ≤ 2) : mk1 S u (withValue x v y) = withValue (mk1 S u x) v y := by
  unfold mk1
  split
  · rfl
  · exact with_comm hx (by omega) (by omega) (by omega) hy (by decide)
theorem mkT_comm {S y : Int} {v : Nat} (hv : v ≤ 3) (hy : 0 ≤ y ∧ y ≤ 2) : ∀ (u : Nat), u ≤ v → ∀ {x : Int}, 0 ≤ x ∧ x ≤ 80 → mkT S u (withValue x v y) = withValue (mkT S u x) v y
  | 0, _, x, hx => rfl
  | u + 1, hu, x, hx => by
    show mk1 S u (mkT S u (withValue x v y)) = withValue (mk1 S u (mkT S u x)) v y
    rw [mkT_comm hv hy u (by omega) hx, mk1_comm (by omega) hv (by omega) (mkT_bd u (by omega) hx) hy]
theorem mkT_free {S : Int} {v : Nat} (hv : v ≤ 3) (ht : tb S v = false) {x y : Int} (hx : 0 ≤ x ∧ x ≤ 80) (hy : 0 ≤ y ∧ y ≤ 2) : ∀ (u : Nat), v < u → mkT S u (withValue x v y) = mkT S u x
  | 0, h => absurd h (by omega)
  | u + 1, h => by
    show mk1 S u (mkT S u (withValue x v y)) = mk1 S u (mkT S u x)
    by_cases he : v = u
    · subst he
      rw [mkT_comm hv hy v (Nat.le_refl _) hx]
      unfold mk1
      rw [if_neg (by rw [ht]; decide), if_neg (by rw [ht]; decide), with_with (mkT_bd v (by omega) hx) (by omega) hy (by decide)]
    · rw [mkT_free hv ht hx hy u (by omega)]
theorem mk_dep (S q : Int) : Dep S (fun st => if mk S st = q then 1 else 0) := fun v hv ht st y hs hy => by
  show (if mk S (withValue st v y) = q then (1 : Int) else 0) = _
  unfold mk
  rw [mkT_free hv ht hs hy 4 (by omega)]
/-- The list of weights as it is seen. -/
def seen (S : Int) (ws : List Int) : List Int := keyed 81 (fun st => mk S st) ws
theorem seen_len (S : Int) (ws : List Int) : (seen S ws).length = 81 := keyed_len _ _ _
theorem seen_at {ps : List St} (hok : ∀ s ∈ ps, s.ok = true) (S : Int) {q : Nat} (h : q < 81) : (seen S (wts ps 0))[q]? = some (val (fun st => if mk S st = q then 1 else 0) ps 0 0) := by
  unfold seen
  rw [keyed_at _ _ _ h, val_states _ hok (by decide)]
/-- A slice is seen as the program is, but for the number told. -/
theorem seen_slice {ps : List St} (h : plainOk ps = true) (S : Int) : ∀ (i : Nat) (d : Int), (seen S (weightsFrom ps 0))[i]? = some d → ∃ e, (seen S (weightsFrom (sl ps S) 0))[i]? = some e ∧ byL ps S * e = d := by
  intro i d hd
  have hi : i < 81 := by have := (List.getElem?_eq_some_iff.1 hd).1; rw [seen_len] at this; exact this
  have hok := (plain_iff.1 h).2
  have hq := sl_plain (L := S) h
  have hokq := (plain_iff.1 hq).2
  rw [wts_plain h (by decide), seen_at (fun s hs => (hok s hs).1) S hi] at hd
  refine ⟨_, by rw [wts_plain hq (by decide)]; exact seen_at (fun s hs => (hokq s hs).1) S hi, ?_⟩
  injection hd with hd
  rw [← hd]
  exact (slice_val hok (mk_dep S i)).2 0 (by decide)
theorem byL_pos : ∀ {ps : List St}, (∀ s ∈ ps, s.ok = true ∧ s.k < 6) → ∀ L : Int, 1 ≤ byL ps L ∧ byL ps L ≤ sumWs ps
  | [], _, L => by simp [byL, sumWs]
  | s :: r, hok, L => by
    have ho := hok s List.mem_cons_self
    obtain ⟨h1, h2⟩ := byL_pos (fun t ht => hok t (List.mem_cons_of_mem s ht)) L
    have hb := sumW_bd ho.1 ho.2
    rw [byL, sumWs]
    split
    · refine ⟨h1, ?_⟩
      have := Int.mul_le_mul hb.1 h2 (by omega) (by omega)
      omega
    · rename_i hn
      have hn' : s.isN (needL r L) = false := by simpa using hn
      unfold St.isN at hn'
      rw [Bool.or_eq_false_iff] at hn'
      have hk := of_decide_eq_false hn'.1
      have hf : 1 ≤ facBy 2 s ∧ facBy 2 s ≤ sumW s := by
        have hw := ok_w ho.1 ho.2
        unfold facBy sumW
        rw [if_neg (by decide)]
        split
        · rename_i hd
          have h2k : 2 ≤ s.k := by
            have := hd.2
            unfold St.draws at this
            simp at this
            omega
          rw [if_pos h2k]
          have := hw.2.2.2 h2k
          omega
        · split <;> omega
      have h3 := Int.mul_le_mul hf.1 h1 (by omega) (by omega)
      have h4 := Int.mul_le_mul hf.2 h2 (by omega) (by omega)
      omega
/-- What does not hang ahead of statements may have any value there. -/
theorem live_any {ps : List St} (hok : ∀ s ∈ ps, s.ok = true ∧ s.k < 6) {S : Int} {v : Nat} (hv : v ≤ 3) (ht : tb (needL ps S) v = false) {st y : Int} (hs : 0 ≤ st ∧ st ≤ 80) (hy : 0 ≤ y ∧ y ≤ 2) : val (fun _ => 1) ps 0 (withValue st v y) = val (fun _ => 1) ps 0 st :=
  (slice_val hok (L := S) (h := fun _ => 1) (fun _ _ _ _ _ _ _ => rfl)).1 v hv ht st y hs hy
end Go.Proofs.Ytkibkmheomlafaa
