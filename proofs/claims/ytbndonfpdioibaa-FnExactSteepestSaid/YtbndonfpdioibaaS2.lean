/- Slopes, plain: lists of slopes, their sums, what grows, what is passed over. -/
import Derived.Test.YtbndonfpdioibaaS1
import Derived.Test.YtbndonfpdioibaaMdf
namespace Go.Proofs.Ytbndonfpdioibaa
set_option maxRecDepth 100000
set_option linter.unusedVariables false
open Go.RowKit

theorem gro_add (c : Int) (f g : Int → Int) : ∀ (os : List St) (k a : Nat) (st : Int), gro c (fun x => f x + g x) os k a st = gro c f os k a st + gro c g os k a st
  | [], k, a, st => by rw [gro_nil, gro_nil, gro_nil]; rfl
  | _ :: _, _ + 1, 0, _ => rfl
  | _ :: r, k + 1, a + 1, st => gro_add c f g r k a st
  | s :: r, 0, 0, st => by
    have e : ∀ y, useV c (fun x => f x + g x) s r y = useV c f s r y + useV c g s r y := fun y => by
      unfold useV
      split
      · exact val_add f g r 0 y
      · rfl
    rw [gro, gro, gro, e, e, e]
    split <;> omega
  | s :: r, 0, a + 1, st => by
    rw [gro, gro, gro, gro_add c f g r, gro_add c f g r, gro_add c f g r, gro_add c f g r]
    split
    · rw [Int.mul_add, Int.mul_add, Int.mul_add]
      omega
    · rw [Int.mul_add]
theorem gro_congr {c : Int} {f g : Int → Int} (h : ∀ x, 0 ≤ x → x ≤ 80 → f x = g x) : ∀ (os : List St) (k a : Nat) (st : Int), (∀ s ∈ os, s.ok = true) → 0 ≤ st ∧ st ≤ 80 → gro c f os k a st = gro c g os k a st
  | [], k, a, st, _, _ => by rw [gro_nil, gro_nil]
  | _ :: _, _ + 1, 0, _, _, _ => rfl
  | _ :: r, k + 1, a + 1, st, ho, hs => gro_congr h r k a st (fun x hx => ho x (List.mem_cons_of_mem _ hx)) hs
  | s :: r, 0, 0, st, ho, hs => by
    have ok := ho s List.mem_cons_self
    have e : ∀ x, 0 ≤ x ∧ x ≤ 2 → useV c f s r (s.next st x) = useV c g s r (s.next st x) := fun x hx => by
      unfold useV
      rw [val_congr h r 0 (s.next st x) (fun x hx => ho x (List.mem_cons_of_mem _ hx)) (next_bd ok hs hx)]
    rw [gro, gro, e 0 (by omega), e 1 (by omega), e 2 (by omega)]
  | s :: r, 0, a + 1, st, ho, hs => by
    have ok := ho s List.mem_cons_self
    have e : ∀ (k : Nat) x, 0 ≤ x ∧ x ≤ 2 → gro c f r k a (s.next st x) = gro c g r k a (s.next st x) := fun k x hx => gro_congr h r k a _ (fun x hx => ho x (List.mem_cons_of_mem _ hx)) (next_bd ok hs hx)
    rw [gro, gro, e 0 0 (by omega), e 0 1 (by omega), e 0 2 (by omega), e _ 0 (by omega)]
theorem gro_nought (c : Int) : ∀ (os : List St) (k a : Nat) (st : Int), gro c (fun _ => 0) os k a st = 0 := fun os k a st => by
  have h := gro_add c (fun _ => 0) (fun _ => 0) os k a st
  have e : (fun (_ : Int) => (0 : Int) + 0) = fun _ => 0 := rfl
  rw [e] at h
  omega
theorem gro_bd {c : Int} {h : Int → Int} (hh : ∀ x, 0 ≤ x → x ≤ 80 → 0 ≤ h x) : ∀ (os : List St) (k a : Nat) (st : Int), (∀ s ∈ os, s.ok = true) → 0 ≤ st ∧ st ≤ 80 → 0 ≤ gro c h os k a st
  | [], k, a, st, _, _ => by rw [gro_nil]; exact Int.le_refl _
  | _ :: _, _ + 1, 0, _, _, _ => Int.le_refl _
  | _ :: r, k + 1, a + 1, st, ho, hs => gro_bd hh r k a st (fun x hx => ho x (List.mem_cons_of_mem _ hx)) hs
  | s :: r, 0, 0, st, ho, hs => by
    have ok := ho s List.mem_cons_self
    have e : ∀ x, 0 ≤ x ∧ x ≤ 2 → 0 ≤ useV c h s r (s.next st x) := fun x hx => by
      have := (dov_bd (h := h) (fun x hx => hh x hx.1 hx.2) (os := r) (fun x hx => ho x (List.mem_cons_of_mem _ hx)) 0 0 (next_bd ok hs hx))
      have := Int.le_trans this.1 this.2
      unfold useV
      split
      · exact this
      · exact Int.le_refl _
    have e0 := e 0 (by omega)
    have e1 := e 1 (by omega)
    have e2 := e 2 (by omega)
    rw [gro]
    split <;> omega
  | s :: r, 0, a + 1, st, ho, hs => by
    have ok := ho s List.mem_cons_self
    have e : ∀ (k : Nat) x, 0 ≤ x ∧ x ≤ 2 → 0 ≤ s.fac (s.next st x) * gro c h r k a (s.next st x) := fun k x hx => Int.mul_nonneg (fac_bd ok _).1 (gro_bd hh r k a _ (fun x hx => ho x (List.mem_cons_of_mem _ hx)) (next_bd ok hs hx))
    have e0 := e 0 0 (by omega)
    have e1 := e 0 1 (by omega)
    have e2 := e 0 2 (by omega)
    rw [gro]
    split
    · omega
    · exact e _ 0 (by omega)
/-- The slopes of all states in the end. -/
def slopesL (os : List St) (a : Nat) (c : Int) : List Int := (List.range 81).map fun (q : Nat) => gro c (ind q) os 0 a 0
theorem slopesL_len (os : List St) (a : Nat) (c : Int) : (slopesL os a c).length = 81 := by simp [slopesL]
theorem slopesL_at (os : List St) (a : Nat) (c : Int) {q : Nat} (h : q < 81) : (slopesL os a c)[q]? = some (gro c (ind q) os 0 a 0) := by
  unfold slopesL
  rw [List.getElem?_map, List.getElem?_range h]
  rfl
theorem slopes_cnt (os : List St) (a : Nat) (c st : Int) : ∀ n : Nat, isum ((List.range n).map fun (q : Nat) => gro c (ind q) os 0 a st) = gro c (cnt n) os 0 a st
  | 0 => by
    have e : cnt 0 = fun _ => 0 := by
      funext x
      unfold cnt
      rw [if_neg (by omega)]
    rw [e, gro_nought]
    rfl
  | n + 1 => by
    rw [List.range_succ, List.map_append, isum_append, slopes_cnt os a c st n]
    have e : cnt (n + 1) = fun x => cnt n x + ind n x := by
      funext x
      unfold cnt ind
      by_cases h1 : 0 ≤ x ∧ x < n
      · rw [if_pos h1, if_pos (by omega), if_neg (by omega)]; rfl
      · by_cases h2 : x = n
        · rw [if_neg h1, if_pos (by omega), if_pos h2]; rfl
        · rw [if_neg h1, if_neg (by omega), if_neg h2]; rfl
    rw [e, gro_add]
    simp [isum]
theorem slopes_sum {os : List St} (hok : ∀ s ∈ os, s.ok = true) (a : Nat) (c : Int) : isum (slopesL os a c) = gro c (fun _ => 1) os 0 a 0 := by
  unfold slopesL
  rw [slopes_cnt]
  refine gro_congr (fun x h0 h1 => ?_) _ _ _ _ hok (by omega)
  unfold cnt
  rw [if_pos (by omega)]
theorem isum_nnS : ∀ {es : List Int}, (∀ x ∈ es, 0 ≤ x) → 0 ≤ isum es
  | [], _ => by simp [isum]
  | u :: r, h => by
    have h1 := h u List.mem_cons_self
    have h2 := isum_nnS (es := r) fun x hx => h x (List.mem_cons_of_mem _ hx)
    rw [isum]
    omega
theorem slopes_nonneg {os : List St} (hok : ∀ s ∈ os, s.ok = true) (a : Nat) (c : Int) : ∀ x ∈ slopesL os a c, 0 ≤ x := fun x hx => by
  unfold slopesL at hx
  obtain ⟨q, _, rfl⟩ := List.mem_map.1 hx
  exact gro_bd (fun y _ _ => by unfold ind; split <;> decide) _ _ _ _ hok (by omega)
/-- A list without loops unrolls to itself. -/
theorem unr_same : ∀ {ps : List St}, (∀ s ∈ ps, s.notLoop = true) → unr ps 0 = some ps
  | [], _ => rfl
  | s :: r, h => by
    rw [unr, if_pos (h s List.mem_cons_self), unr_same fun x hx => h x (List.mem_cons_of_mem _ hx)]
    rfl
theorem unrolled_same {ps : List St} (h : ∀ s ∈ ps, s.notLoop = true) : unrolled ps = if decide (ps.length ≤ 10) && ps.all St.ok then some ps else none := by
  unfold unrolled
  rw [unr_same h]
  by_cases h1 : (decide (ps.length ≤ 10) && ps.all St.ok) = true
  · rw [if_pos h1, if_pos h1]
    rw [Bool.and_eq_true] at h1
    have := of_decide_eq_true h1.1
    show (if decide (ps.length ≤ 12) = true then some ps else none) = some ps
    rw [if_pos (decide_eq_true (by omega))]
  · rw [if_neg h1, if_neg h1]
/-- Weights grow by slopes. -/
theorem more_wts {os : List St} (hok : ∀ s ∈ os, s.ok = true) {a : Nat} {t : St} (ht : os[a]? = some t) (hw : t.hasW = true) {c : Int} (hc : 0 ≤ c ∧ c ≤ 2) {q : Nat} (hq : q < 81) :
    (wts (os.set a (t.more c)) 0)[q]? = some (valAt (ind q) os 0 0 + gro c (ind q) os 0 a 0) := by
  unfold wts
  rw [List.getElem?_map, List.getElem?_range hq]
  show some (val (ind q) (List.drop 0 (os.set a (t.more c))) 0 0) = _
  rw [List.drop_zero, val_more hc (ind q) hok 0 a ht hw (by omega)]
  rfl
/-- The totals of the traces that use each weight, and of those that pass it over. -/
def usesL (os : List St) (a : Nat) (t : St) : List Int := [isum (slopesL os a 0) * t.u, isum (slopesL os a 1) * t.v, isum (slopesL os a 2) * t.x]
def overN (os : List St) (a : Nat) : Int := valAt (fun _ => 1) os 0 0 - dov (fun _ => 1) os 0 a 0
theorem uses_dov {os : List St} (hok : ∀ s ∈ os, s.ok = true) {a : Nat} {t : St} (ht : os[a]? = some t) (hw : t.hasW = true) : isum (usesL os a t) = dov (fun _ => 1) os 0 a 0 := by
  have h := dov_sum (h := fun _ => 1) hok 0 a ht hw (st := 0) (by omega)
  unfold usesL
  rw [slopes_sum hok, slopes_sum hok, slopes_sum hok, ← h]
  simp only [isum]
  rw [Int.mul_comm _ t.u, Int.mul_comm _ t.v, Int.mul_comm _ t.x]
  omega
theorem over_bd {os : List St} (hok : ∀ s ∈ os, s.ok = true) (a : Nat) : 0 ≤ overN os a := by
  have h := (dov_bd (h := fun _ => 1) (fun _ _ => by decide) hok 0 a (st := 0) (by omega)).2
  have e : valAt (fun _ => 1) os 0 0 = val (fun _ => 1) os 0 0 := rfl
  unfold overN
  omega
theorem over_plain {os : List St} (h6 : ∀ s ∈ os, s.k < 6) {a : Nat} (ha : a < os.length) : overN os a = 0 := by
  have h := dov_plain (h := fun _ => 1) h6 a ha 0
  have e : valAt (fun _ => 1) os 0 0 = val (fun _ => 1) os 0 0 := rfl
  unfold overN
  omega
end Go.Proofs.Ytbndonfpdioibaa
