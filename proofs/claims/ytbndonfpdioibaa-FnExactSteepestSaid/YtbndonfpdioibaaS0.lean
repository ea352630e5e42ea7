/- Slopes, plain: by how much weights grow with one weight of a statement. -/
import Derived.Test.YtbndonfpdioibaaLiv
import Derived.Test.YtbndonfpdioibaaSp
namespace Go.Proofs.Ytbndonfpdioibaa
set_option maxRecDepth 100000
set_option linter.unusedVariables false
open Go.RowKit

def St.more (s : St) (c : Int) : St := ⟨s.k, s.a, s.b, s.c, if c = 0 then s.u + 1 else s.u, if c = 1 then s.v + 1 else s.v, if c = 2 then s.x + 1 else s.x⟩
theorem uses_bd {s : St} (ho : s.ok = true) (h : s.hasW = true) {st : Int} (hs : 0 ≤ st ∧ st ≤ 80) : 0 ≤ s.uses st ∧ s.uses st ≤ 2 := by
  have h8 := ok_rng (k := s.k) (a := s.a) (b := s.b) (c := s.c) (u := s.u) (v := s.v) (x := s.x) ho
  have h1 := inB_iff.1 h
  unfold St.uses
  split
  · exact value_bd hs (by omega)
  · omega
theorem more_next (s : St) (c st x : Int) : (s.more c).next st x = s.next st x := rfl
theorem more_jump (s : St) (c st : Int) : (s.more c).jump st = s.jump st := rfl
theorem more_draws (s : St) (c : Int) : (s.more c).draws = s.draws := rfl
theorem more_uses (s : St) (c st : Int) : (s.more c).uses st = s.uses st := rfl
theorem more_fac {s : St} (ho : s.ok = true) (h : s.hasW = true) {c : Int} (hc : 0 ≤ c ∧ c ≤ 2) {st : Int} (hs : 0 ≤ st ∧ st ≤ 80) : (s.more c).fac st = s.fac st + if s.uses st = c then 1 else 0 := by
  have hb := uses_bd ho h hs
  rw [fac_uses (s := s.more c) h, fac_uses h, more_uses]
  generalize s.uses st = n at hb
  unfold St.wgt St.more
  dsimp only
  obtain rfl | rfl | rfl : n = 0 ∨ n = 1 ∨ n = 2 := by omega
  all_goals (obtain rfl | rfl | rfl : c = 0 ∨ c = 1 ∨ c = 2 := by omega)
  all_goals simp
/-- What comes behind a state, where the statement uses that weight. -/
def useV (c : Int) (h : Int → Int) (s : St) (r : List St) (st : Int) : Int := if s.uses st = c then val h r 0 st else 0
/-- The sum, over all ends of runs that do the statement at a place with one of its weights, of the product of all other weights times h of the state in the end. -/
def gro (c : Int) (h : Int → Int) : List St → Nat → Nat → Int → Int
  | [], _, _, _ => 0
  | _ :: _, _ + 1, 0, _ => 0
  | _ :: r, k + 1, a + 1, st => gro c h r k a st
  | s :: r, 0, 0, st => if s.draws then useV c h s r (s.next st 0) + useV c h s r (s.next st 1) + useV c h s r (s.next st 2) else useV c h s r (s.next st 0)
  | s :: r, 0, a + 1, st =>
    if s.draws then s.fac (s.next st 0) * gro c h r 0 a (s.next st 0) + s.fac (s.next st 1) * gro c h r 0 a (s.next st 1) + s.fac (s.next st 2) * gro c h r 0 a (s.next st 2)
    else s.fac (s.next st 0) * gro c h r (s.jump st) a (s.next st 0)
theorem grow_one (f g x : Int) (b : Prop) [Decidable b] : (f + if b then 1 else 0) * x = f * x + if b then x else 0 := by
  split
  · rw [Int.add_mul, Int.one_mul]
  · rw [Int.add_zero, Int.add_zero]
/-- With one more of a weight what is worth grows by the slope. -/
theorem val_more {c : Int} (hc : 0 ≤ c ∧ c ≤ 2) (h : Int → Int) : ∀ {os : List St}, (∀ s ∈ os, s.ok = true) → ∀ (k a : Nat) {t : St}, os[a]? = some t → t.hasW = true → ∀ {st : Int}, 0 ≤ st ∧ st ≤ 80 →
    val h (os.set a (t.more c)) k st = val h os k st + gro c h os k a st
  | [], _, _, a, _, ht, _, _, _ => by simp at ht
  | s :: r, ho, k + 1, 0, t, ht, _, st, _ => by
    rw [List.set_cons_zero]
    show val h r k st = val h r k st + 0
    rw [Int.add_zero]
  | s :: r, ho, k + 1, a + 1, t, ht, hw, st, hs => by
    rw [List.set_cons_succ]
    exact val_more hc h (fun x hx => ho x (List.mem_cons_of_mem _ hx)) k a (by simpa using ht) hw hs
  | s :: r, ho, 0, 0, t, ht, hw, st, hs => by
    obtain rfl : s = t := by simpa using ht
    have ok := ho s List.mem_cons_self
    rw [List.set_cons_zero]
    have hj : s.jump st = 0 := by
      have := inB_iff.1 hw
      unfold St.jump
      rw [if_neg (by omega)]
    have e : ∀ x, 0 ≤ x ∧ x ≤ 2 → (s.more c).fac (s.next st x) * val h r 0 (s.next st x) = s.fac (s.next st x) * val h r 0 (s.next st x) + useV c h s r (s.next st x) := fun x hx => by
      rw [more_fac ok hw hc (next_bd ok hs hx), grow_one _ 0]
      rfl
    have e0 := e 0 (by omega)
    have e1 := e 1 (by omega)
    have e2 := e 2 (by omega)
    rw [val, val, gro, more_draws, more_jump, more_next, more_next, more_next, hj]
    cases hd : s.draws
    · rw [if_neg (by decide), if_neg (by decide), if_neg (by decide), e0]
    · rw [if_pos rfl, if_pos rfl, if_pos rfl, e0, e1, e2]
      omega
  | s :: r, ho, 0, a + 1, t, ht, hw, st, hs => by
    have ok := ho s List.mem_cons_self
    rw [List.set_cons_succ]
    have ih := fun (k : Nat) {y : Int} (hy : 0 ≤ y ∧ y ≤ 80) => val_more hc h (fun x hx => ho x (List.mem_cons_of_mem _ hx)) k a (t := t) (by simpa using ht) hw hy
    rw [val, val, gro]
    split
    · rw [ih 0 (next_bd ok hs (by omega)), ih 0 (next_bd ok hs (by omega)), ih 0 (next_bd ok hs (by omega)), Int.mul_add, Int.mul_add, Int.mul_add]
      omega
    · rw [ih _ (next_bd ok hs (by omega)), Int.mul_add]
/-- What is worth of the runs that do the statement at a place. -/
def dov (h : Int → Int) : List St → Nat → Nat → Int → Int
  | [], _, _, _ => 0
  | _ :: _, _ + 1, 0, _ => 0
  | _ :: r, k + 1, a + 1, st => dov h r k a st
  | s :: r, 0, 0, st => val h (s :: r) 0 st
  | s :: r, 0, a + 1, st =>
    if s.draws then s.fac (s.next st 0) * dov h r 0 a (s.next st 0) + s.fac (s.next st 1) * dov h r 0 a (s.next st 1) + s.fac (s.next st 2) * dov h r 0 a (s.next st 2)
    else s.fac (s.next st 0) * dov h r (s.jump st) a (s.next st 0)
theorem uses_sum {s : St} (ho : s.ok = true) (hw : s.hasW = true) {h : Int → Int} {r : List St} {st : Int} (hs : 0 ≤ st ∧ st ≤ 80) : s.u * useV 0 h s r st + s.v * useV 1 h s r st + s.x * useV 2 h s r st = s.fac st * val h r 0 st := by
  have hb := uses_bd ho hw hs
  rw [fac_uses hw]
  unfold useV
  generalize s.uses st = n at hb
  generalize val h r 0 st = z
  unfold St.wgt
  obtain rfl | rfl | rfl : n = 0 ∨ n = 1 ∨ n = 2 := by omega
  all_goals simp
theorem dov_sum {h : Int → Int} : ∀ {os : List St}, (∀ s ∈ os, s.ok = true) → ∀ (k a : Nat) {t : St}, os[a]? = some t → t.hasW = true → ∀ {st : Int}, 0 ≤ st ∧ st ≤ 80 →
    t.u * gro 0 h os k a st + t.v * gro 1 h os k a st + t.x * gro 2 h os k a st = dov h os k a st
  | [], _, _, a, _, ht, _, _, _ => by simp at ht
  | s :: r, ho, k + 1, 0, t, ht, _, st, _ => by
    show t.u * 0 + t.v * 0 + t.x * 0 = 0
    omega
  | s :: r, ho, k + 1, a + 1, t, ht, hw, st, hs => dov_sum (os := r) (fun x hx => ho x (List.mem_cons_of_mem _ hx)) k a (by simpa using ht) hw hs
  | s :: r, ho, 0, 0, t, ht, hw, st, hs => by
    obtain rfl : s = t := by simpa using ht
    have ok := ho s List.mem_cons_self
    have hj : s.jump st = 0 := by
      have := inB_iff.1 hw
      unfold St.jump
      rw [if_neg (by omega)]
    have e0 := uses_sum ok hw (h := h) (r := r) (next_bd ok hs (x := 0) (by omega))
    have e1 := uses_sum ok hw (h := h) (r := r) (next_bd ok hs (x := 1) (by omega))
    have e2 := uses_sum ok hw (h := h) (r := r) (next_bd ok hs (x := 2) (by omega))
    rw [gro, gro, gro, dov, val, hj]
    split
    · rw [← e0, ← e1, ← e2, Int.mul_add, Int.mul_add, Int.mul_add, Int.mul_add, Int.mul_add, Int.mul_add]
      omega
    · exact e0
  | s :: r, ho, 0, a + 1, t, ht, hw, st, hs => by
    have ok := ho s List.mem_cons_self
    have ih := fun (k : Nat) {y : Int} (hy : 0 ≤ y ∧ y ≤ 80) => dov_sum (h := h) (os := r) (fun x hx => ho x (List.mem_cons_of_mem _ hx)) k a (t := t) (by simpa using ht) hw hy
    have key : ∀ (k : Nat) (y : Int), 0 ≤ y ∧ y ≤ 80 → t.u * (s.fac y * gro 0 h r k a y) + t.v * (s.fac y * gro 1 h r k a y) + t.x * (s.fac y * gro 2 h r k a y) = s.fac y * dov h r k a y := fun k y hy => by
      rw [← ih k hy, Int.mul_add, Int.mul_add, Int.mul_left_comm t.u, Int.mul_left_comm t.v, Int.mul_left_comm t.x]
    rw [gro, gro, gro, dov]
    split
    · have e0 := key 0 _ (next_bd ok hs (x := 0) (by omega))
      have e1 := key 0 _ (next_bd ok hs (x := 1) (by omega))
      have e2 := key 0 _ (next_bd ok hs (x := 2) (by omega))
      rw [← e0, ← e1, ← e2, Int.mul_add, Int.mul_add, Int.mul_add, Int.mul_add, Int.mul_add, Int.mul_add]
      omega
    · exact key _ _ (next_bd ok hs (by omega))
theorem dov_bd {h : Int → Int} (hh : ∀ st, 0 ≤ st ∧ st ≤ 80 → 0 ≤ h st) : ∀ {os : List St}, (∀ s ∈ os, s.ok = true) → ∀ (k a : Nat) {st : Int}, 0 ≤ st ∧ st ≤ 80 → 0 ≤ dov h os k a st ∧ dov h os k a st ≤ val h os k st
  | [], _, k, a, st, hs => by
    have := hh st hs
    cases k <;> exact ⟨Int.le_refl _, this⟩
  | s :: r, ho, k + 1, 0, st, hs => ⟨Int.le_refl _, by
      have := dov_bd hh (os := r) (fun x hx => ho x (List.mem_cons_of_mem _ hx)) k 0 hs
      exact Int.le_trans this.1 this.2⟩
  | s :: r, ho, k + 1, a + 1, st, hs => dov_bd hh (os := r) (fun x hx => ho x (List.mem_cons_of_mem _ hx)) k a hs
  | s :: r, ho, 0, 0, st, hs => by
    have ok := ho s List.mem_cons_self
    have ih := fun (k : Nat) {y : Int} (hy : 0 ≤ y ∧ y ≤ 80) => Int.le_trans (dov_bd hh (os := r) (fun x hx => ho x (List.mem_cons_of_mem _ hx)) k 0 hy).1 (dov_bd hh (os := r) (fun x hx => ho x (List.mem_cons_of_mem _ hx)) k 0 hy).2
    have e := fun (k : Nat) (y : Int) (hy : 0 ≤ y ∧ y ≤ 80) => Int.mul_nonneg (fac_bd ok y).1 (ih k hy)
    refine ⟨?_, Int.le_refl _⟩
    rw [dov, val]
    split
    · have e0 := e 0 _ (next_bd ok hs (x := 0) (by omega))
      have e1 := e 0 _ (next_bd ok hs (x := 1) (by omega))
      have e2 := e 0 _ (next_bd ok hs (x := 2) (by omega))
      omega
    · exact e _ _ (next_bd ok hs (by omega))
  | s :: r, ho, 0, a + 1, st, hs => by
    have ok := ho s List.mem_cons_self
    have ih := fun (k : Nat) {y : Int} (hy : 0 ≤ y ∧ y ≤ 80) => dov_bd hh (os := r) (fun x hx => ho x (List.mem_cons_of_mem _ hx)) k a hy
    have e := fun (k : Nat) (y : Int) (hy : 0 ≤ y ∧ y ≤ 80) => (show 0 ≤ s.fac y * dov h r k a y ∧ s.fac y * dov h r k a y ≤ s.fac y * val h r k y from ⟨Int.mul_nonneg (fac_bd ok y).1 (ih k hy).1, Int.mul_le_mul_of_nonneg_left (ih k hy).2 (fac_bd ok y).1⟩)
    rw [dov, val]
    split
    · have e0 := e 0 _ (next_bd ok hs (x := 0) (by omega))
      have e1 := e 0 _ (next_bd ok hs (x := 1) (by omega))
      have e2 := e 0 _ (next_bd ok hs (x := 2) (by omega))
      omega
    · exact e _ _ (next_bd ok hs (by omega))
/-- Without skips nothing is passed over. -/
theorem dov_plain {h : Int → Int} : ∀ {os : List St}, (∀ s ∈ os, s.k < 6) → ∀ (a : Nat), a < os.length → ∀ (st : Int), dov h os 0 a st = val h os 0 st
  | [], _, a, ha, _ => by simp at ha
  | s :: r, _, 0, _, st => rfl
  | s :: r, ho, a + 1, ha, st => by
    have h6 := ho s List.mem_cons_self
    have ih := dov_plain (h := h) (os := r) (fun x hx => ho x (List.mem_cons_of_mem _ hx)) a (by simpa using ha)
    have hj : s.jump st = 0 := by
      unfold St.jump
      rw [if_neg (by omega)]
    rw [dov, val, hj, ih, ih, ih]
end Go.Proofs.Ytbndonfpdioibaa
