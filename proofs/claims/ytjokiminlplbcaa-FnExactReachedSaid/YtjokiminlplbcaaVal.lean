/- What is worth in a state, ahead of statements, what is told of the states in the end; plain functions. -/
import Derived.Test.YtjokiminlplbcaaTrw
namespace Go.Proofs.Ytjokiminlplbcaa
set_option maxRecDepth 100000
set_option linter.unusedVariables false

/-- The sum, over all ends of runs from a place on, of the weight times h of the state in the end. -/
def val (h : Int → Int) : List St → Nat → Int → Int
  | [], _, st => h st
  | _ :: r, k + 1, st => val h r k st
  | s :: r, 0, st =>
    if s.draws then s.fac (s.next st 0) * val h r 0 (s.next st 0) + s.fac (s.next st 1) * val h r 0 (s.next st 1) + s.fac (s.next st 2) * val h r 0 (s.next st 2)
    else s.fac (s.next st 0) * val h r (s.jump st) (s.next st 0)

theorem val_skip (h : Int → Int) : ∀ (os : List St) (k : Nat) (st : Int), val h os k st = val h (os.drop k) 0 st
  | os, 0, _ => by simp
  | [], k + 1, st => by simp [val]
  | _ :: r, k + 1, st => by
    rw [val, val_skip h r k]; rfl

/-- What is worth ahead of the statement at a place. -/
def valAt (h : Int → Int) (os : List St) (i : Nat) (st : Int) : Int := val h (os.drop i) 0 st
theorem valAt_end {h : Int → Int} {os : List St} {i : Nat} (hi : os.length ≤ i) (st : Int) : valAt h os i st = h st := by
  unfold valAt
  rw [List.drop_eq_nil_of_le hi]; rfl
theorem valAt_min (h : Int → Int) (os : List St) (i : Nat) (st : Int) : valAt h os (min i os.length) st = valAt h os i st := by
  by_cases hi : i ≤ os.length
  · rw [Nat.min_eq_left hi]
  · rw [Nat.min_eq_right (by omega), valAt_end (Nat.le_refl _), valAt_end (i := i) (by omega)]
theorem valAt_own {h : Int → Int} {os : List St} {i : Nat} {s : St} (hs : os[i]? = some s) (hd : s.draws = false) (st : Int) : valAt h os i st = s.fac (s.next st 0) * valAt h os (i + 1 + s.jump st) (s.next st 0) := by
  unfold valAt
  rw [drop_cons' hs, val, if_neg (by simp [hd]), val_skip, List.drop_drop]
theorem valAt_draw {h : Int → Int} {os : List St} {i : Nat} {s : St} (hs : os[i]? = some s) (hd : s.draws = true) (st : Int) :
    valAt h os i st = s.fac (s.next st 0) * valAt h os (i + 1) (s.next st 0) + s.fac (s.next st 1) * valAt h os (i + 1) (s.next st 1) + s.fac (s.next st 2) * valAt h os (i + 1) (s.next st 2) := by
  unfold valAt
  rw [drop_cons' hs, val, if_pos hd]

/-- What a run is worth. -/
def valR (h : Int → Int) (os : List St) (r : Rn) : Int := r.wt * valAt h os r.pos r.st
theorem valR_own {h : Int → Int} {os : List St} {r : Rn} {s : St} (hs : os[r.pos]? = some s) (hd : s.draws = false) : valR h os r = valR h os (Rn.step s r 0) := by
  unfold valR
  rw [valAt_own hs hd]
  show _ = r.wt * s.fac (s.next r.st 0) * valAt h os (r.pos + 1 + s.jump r.st) (s.next r.st 0)
  rw [Int.mul_assoc]
theorem valR_draw {h : Int → Int} {os : List St} {r : Rn} {s : St} (hs : os[r.pos]? = some s) (hd : s.draws = true) : valR h os r = valR h os (Rn.step s r 0) + valR h os (Rn.step s r 1) + valR h os (Rn.step s r 2) := by
  unfold valR
  rw [valAt_draw hs hd]
  show _ = r.wt * s.fac (s.next r.st 0) * valAt h os (r.pos + 1 + s.jump r.st) (s.next r.st 0) + r.wt * s.fac (s.next r.st 1) * valAt h os (r.pos + 1 + s.jump r.st) (s.next r.st 1) + r.wt * s.fac (s.next r.st 2) * valAt h os (r.pos + 1 + s.jump r.st) (s.next r.st 2)
  rw [jump_draw hd, Nat.add_zero, Int.mul_add, Int.mul_add, Int.mul_assoc, Int.mul_assoc, Int.mul_assoc]

/-- Linear in what is told in the end. -/
theorem val_bd (h : Int → Int) (H : Int) (hH : ∀ st, 0 ≤ st → st ≤ 80 → 0 ≤ h st ∧ h st ≤ H) (h0 : 0 ≤ H) : ∀ (os : List St) (k : Nat) (st : Int), (∀ s ∈ os, s.ok = true) → 0 ≤ st ∧ st ≤ 80 → 0 ≤ val h os k st ∧ val h os k st ≤ H * 27 ^ os.length
  | [], k, st, _, hs => by
    have := hH st hs.1 hs.2
    simp only [val, List.length_nil]
    rw [Int.pow_zero, Int.mul_one]
    exact this
  | s :: r, k + 1, st, ho, hs => by
    have ih := val_bd h H hH h0 r k st (fun x hx => ho x (List.mem_cons_of_mem _ hx)) hs
    rw [val, List.length_cons, Int.pow_succ]
    have hp : (0 : Int) ≤ H * 27 ^ r.length := Int.le_trans ih.1 ih.2
    rw [← Int.mul_assoc]
    omega
  | s :: r, 0, st, ho, hs => by
    have hos := ho s List.mem_cons_self
    have hor := fun x hx => ho x (List.mem_cons_of_mem s hx)
    have key : ∀ (d : Int) (k : Nat), 0 ≤ d ∧ d ≤ 2 → 0 ≤ s.fac (s.next st d) * val h r k (s.next st d) ∧ s.fac (s.next st d) * val h r k (s.next st d) ≤ 9 * (H * 27 ^ r.length) := fun d k hd => by
      obtain ⟨f0, f1⟩ := fac_bd hos (s.next st d)
      obtain ⟨v0, v1⟩ := val_bd h H hH h0 r k (s.next st d) hor (next_bd hos hs hd)
      exact ⟨Int.mul_nonneg f0 v0, Int.le_trans (Int.mul_le_mul_of_nonneg_right f1 v0) (Int.mul_le_mul_of_nonneg_left v1 (by decide))⟩
    rw [val, List.length_cons, Int.pow_succ, ← Int.mul_assoc]
    have k0 := key 0 0 (by decide)
    have k1 := key 1 0 (by decide)
    have k2 := key 2 0 (by decide)
    have k3 := key 0 (s.jump st) (by decide)
    split
    · omega
    · omega
theorem val_add (f g : Int → Int) : ∀ (os : List St) (k : Nat) (st : Int), val (fun x => f x + g x) os k st = val f os k st + val g os k st
  | [], k, st => by simp [val]
  | s :: r, k + 1, st => by rw [val, val, val]; exact val_add f g r k st
  | s :: r, 0, st => by
    simp only [val, val_add f g]
    split
    · simp only [Int.mul_add]; omega
    · rw [Int.mul_add]
theorem val_mul (c : Int) (f : Int → Int) : ∀ (os : List St) (k : Nat) (st : Int), val (fun x => c * f x) os k st = c * val f os k st
  | [], k, st => by simp [val]
  | s :: r, k + 1, st => by rw [val, val]; exact val_mul c f r k st
  | s :: r, 0, st => by
    simp only [val, val_mul c f]
    have e : ∀ a b : Int, a * (c * b) = c * (a * b) := fun a b => by rw [← Int.mul_assoc, Int.mul_comm a c, Int.mul_assoc]
    split
    · simp only [e, Int.mul_add]
    · exact e _ _
theorem val_congr {f g : Int → Int} (hfg : ∀ st, 0 ≤ st → st ≤ 80 → f st = g st) : ∀ (os : List St) (k : Nat) (st : Int), (∀ s ∈ os, s.ok = true) → 0 ≤ st ∧ st ≤ 80 → val f os k st = val g os k st
  | [], k, st, _, hs => by simp only [val]; exact hfg st hs.1 hs.2
  | s :: r, k + 1, st, ho, hs => by rw [val, val]; exact val_congr hfg r k st (fun x hx => ho x (List.mem_cons_of_mem _ hx)) hs
  | s :: r, 0, st, ho, hs => by
    have hos := ho s List.mem_cons_self
    have key : ∀ (d : Int) (k : Nat), 0 ≤ d ∧ d ≤ 2 → val f r k (s.next st d) = val g r k (s.next st d) := fun d k hd => val_congr hfg r k _ (fun x hx => ho x (List.mem_cons_of_mem s hx)) (next_bd hos hs hd)
    rw [val, val, key 0 0 (by decide), key 1 0 (by decide), key 2 0 (by decide), key 0 _ (by decide)]

end Go.Proofs.Ytjokiminlplbcaa
