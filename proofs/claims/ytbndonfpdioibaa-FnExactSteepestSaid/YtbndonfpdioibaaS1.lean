/- Slopes, plain: the model's two rows, of weights and of how they grow. -/
import Derived.Test.YtbndonfpdioibaaS0
import Derived.Test.YtbndonfpdioibaaMd
namespace Go.Proofs.Ytbndonfpdioibaa
set_option maxRecDepth 100000
set_option linter.unusedVariables false
open Go.RowKit

/-- How what is worth from a place on grows. -/
def groAt (c : Int) (h : Int → Int) (os : List St) (a t : Nat) (st : Int) : Int := if t ≤ a then gro c h (os.drop t) 0 (a - t) st else 0
theorem gro_nil (c : Int) (h : Int → Int) (k a : Nat) (st : Int) : gro c h [] k a st = 0 := by cases k <;> rfl
theorem gro_skip (c : Int) (h : Int → Int) : ∀ (os : List St) (k a : Nat) (st : Int), gro c h os k a st = if k ≤ a then gro c h (os.drop k) 0 (a - k) st else 0
  | os, 0, a, st => by simp
  | [], k + 1, a, st => by
    rw [List.drop_nil, gro_nil, gro_nil]
    split <;> rfl
  | _ :: r, k + 1, 0, st => by
    rw [if_neg (by omega)]
    rfl
  | _ :: r, k + 1, a + 1, st => by
    show gro c h r k a st = _
    rw [gro_skip c h r k a st, List.drop_succ_cons, Nat.add_sub_add_right]
    by_cases hk : k ≤ a
    · rw [if_pos hk, if_pos (by omega)]
    · rw [if_neg hk, if_neg (by omega)]
theorem groAt_draw {c : Int} {h : Int → Int} {os : List St} {a t : Nat} {s : St} (hs : os[t]? = some s) (hd : s.draws = true) (ht : t < a) (st : Int) :
    groAt c h os a t st = s.fac (s.next st 0) * groAt c h os a (t + 1) (s.next st 0) + s.fac (s.next st 1) * groAt c h os a (t + 1) (s.next st 1) + s.fac (s.next st 2) * groAt c h os a (t + 1) (s.next st 2) := by
  unfold groAt
  rw [if_pos (by omega), if_pos (by omega), if_pos (by omega), if_pos (by omega), drop_cons' hs, show a - t = (a - (t + 1)) + 1 by omega, gro, if_pos hd]
theorem groAt_own {c : Int} {h : Int → Int} {os : List St} {a t : Nat} {s : St} (hs : os[t]? = some s) (hd : s.draws = false) (ht : t < a) (st : Int) :
    groAt c h os a t st = s.fac (s.next st 0) * groAt c h os a (t + 1 + s.jump st) (s.next st 0) := by
  unfold groAt
  rw [if_pos (by omega), drop_cons' hs, show a - t = (a - (t + 1)) + 1 by omega, gro, if_neg (by simp [hd]), gro_skip, List.drop_drop]
  by_cases hk : s.jump st ≤ a - (t + 1)
  · rw [if_pos hk, if_pos (by omega), show a - (t + 1) - s.jump st = a - (t + 1 + s.jump st) by omega]
  · rw [if_neg hk, if_neg (by omega)]
theorem groAt_here {c : Int} {h : Int → Int} {os : List St} {a : Nat} {s : St} (hs : os[a]? = some s) (st : Int) :
    groAt c h os a a st = if s.draws then useV c h s (os.drop (a + 1)) (s.next st 0) + useV c h s (os.drop (a + 1)) (s.next st 1) + useV c h s (os.drop (a + 1)) (s.next st 2) else useV c h s (os.drop (a + 1)) (s.next st 0) := by
  unfold groAt
  rw [if_pos (Nat.le_refl _), drop_cons' hs, Nat.sub_self, gro]
theorem groAt_over (c : Int) (h : Int → Int) (os : List St) {a t : Nat} (ht : a < t) (st : Int) : groAt c h os a t st = 0 := if_neg (by omega)
theorem groAt_min {c : Int} {h : Int → Int} {os : List St} {a : Nat} (ha : a < os.length) (t : Nat) (st : Int) : groAt c h os a (min t os.length) st = groAt c h os a t st := by
  by_cases ht : t ≤ os.length
  · rw [Nat.min_eq_left ht]
  · rw [groAt_over c h os (by omega), groAt_over c h os (by omega)]
/-- A weight, and by how much it grows, laid where a run leads. -/
def gAdd (m : Nat) (s : St) (c : Int) (here : Bool) (n : Int) (gs : List (List Int)) (r : Rn) : List (List Int) := if (here && decide (s.uses r.st = c)) = true then toM m (toM m gs r) ⟨r.pos, r.st, n⟩ else toM m gs r
def gD (m : Nat) (s : St) (c : Int) (here : Bool) (n : Int) (gs : List (List Int)) (r : Rn) : Nat → List (List Int)
  | 0 => gs
  | d + 1 => gAdd m s c here n (gD m s c here n gs r d) (Rn.step s r d)
theorem gAdd_ok {m : Nat} {s : St} {c : Int} {here : Bool} {n : Int} {gs : List (List Int)} {r : Rn} (hr : Rk m gs) (hs : 0 ≤ r.st ∧ r.st ≤ 80) (hw : 0 ≤ r.wt) (hn : 0 ≤ n) : Rk m (gAdd m s c here n gs r) := by
  unfold gAdd
  split
  · exact toM_ok (toM_ok hr hs hw) hs hn
  · exact toM_ok hr hs hw
theorem gAdd_tail (V : Nat → Int → Int) {m i : Nat} {s : St} {c : Int} {here : Bool} {n : Int} {gs : List (List Int)} {r : Rn} (hr : Rk m gs) (hs : 0 ≤ r.st ∧ r.st ≤ 80) (hw : 0 ≤ r.wt) (hi : i + 1 ≤ r.pos) (him : i < m) :
    tailM V (gAdd m s c here n gs r) (i + 1) (m - i) = tailM V gs (i + 1) (m - i) + r.wt * V (min r.pos m) r.st + (if (here && decide (s.uses r.st = c)) = true then n * V (min r.pos m) r.st else 0) := by
  unfold gAdd
  split
  · rw [toM_tail V (r := ⟨r.pos, r.st, n⟩) (toM_ok hr hs hw) hs hi him, toM_tail V hr hs hi him]
  · rw [toM_tail V hr hs hi him, Int.add_zero]
theorem gD_ok {m : Nat} {s : St} {c : Int} {here : Bool} {n : Int} {gs : List (List Int)} {r : Rn} (hok : s.ok = true) (hr : Rk m gs) (hs : 0 ≤ r.st ∧ r.st ≤ 80) (hw : 0 ≤ r.wt) (hn : 0 ≤ n) : ∀ (d : Nat), d ≤ 3 → Rk m (gD m s c here n gs r d)
  | 0, _ => hr
  | d + 1, hd => gAdd_ok (gD_ok hok hr hs hw hn d (by omega)) (next_bd hok hs (by omega)) (Int.mul_nonneg hw (fac_bd hok _).1) hn
theorem gD_le {m : Nat} {s : St} {c : Int} {here : Bool} {n : Int} {gs : List (List Int)} {r : Rn} (him : r.pos < m) : ∀ (d t : Nat), t ≤ r.pos → (gD m s c here n gs r d).getD t [] = gs.getD t []
  | 0, t, _ => rfl
  | d + 1, t, ht => by
    have hp := step_pos s r (d : Int)
    have e : ∀ gs' : List (List Int), (gAdd m s c here n gs' (Rn.step s r d)).getD t [] = gs'.getD t [] := fun gs' => by
      unfold gAdd
      split
      · rw [toM_ne (by show t < min (Rn.step s r d).pos m; omega), toM_ne (by omega)]
      · rw [toM_ne (by omega)]
    rw [gD, e, gD_le him d t ht]
/-- What a statement adds to the rows of how they grow. -/
theorem gD_val {h : Int → Int} {os : List St} {m : Nat} {s : St} {c : Int} {here : Bool} {n : Int} {gs : List (List Int)} {r : Rn} (hm : os.length = m) (hok : s.ok = true) (hr : Rk m gs) (hs : 0 ≤ r.st ∧ r.st ≤ 80) (hw : 0 ≤ r.wt) (hn : 0 ≤ n) (him : r.pos < m) (hso : os[r.pos]? = some s) (hh : here = true → s.hasW = true) :
    tailM (valAt h os) (gD m s c here n gs r s.many) (r.pos + 1) (m - r.pos) = tailM (valAt h os) gs (r.pos + 1) (m - r.pos) + r.wt * valAt h os r.pos r.st + (if here = true then n * groAt c h os r.pos r.pos r.st else 0) := by
  have hj : here = true → s.jump r.st = 0 := fun q => by
    have := inB_iff.1 (hh q)
    unfold St.jump
    rw [if_neg (by omega)]
  have key : ∀ (d : Nat), d ≤ 2 → tailM (valAt h os) (gD m s c here n gs r (d + 1)) (r.pos + 1) (m - r.pos) = tailM (valAt h os) (gD m s c here n gs r d) (r.pos + 1) (m - r.pos) + valR h os (Rn.step s r d) + (if here = true then n * useV c h s (os.drop (r.pos + 1)) (s.next r.st d) else 0) := fun d hd => by
    rw [gD, gAdd_tail (valAt h os) (i := r.pos) (gD_ok hok hr hs hw hn d (by omega)) (next_bd hok hs (by omega)) (Int.mul_nonneg hw (fac_bd hok _).1) (step_pos s r (d : Int)) him, ← hm, valAt_min]
    congr 1
    cases here
    · rfl
    · rw [Bool.true_and, if_pos rfl]
      have e1 : (Rn.step s r d).pos = r.pos + 1 := by
        show r.pos + 1 + s.jump r.st = r.pos + 1
        rw [hj rfl]
      have e2 : (Rn.step s r d).st = s.next r.st d := rfl
      rw [e1, e2]
      unfold useV valAt
      by_cases hu : s.uses (s.next r.st d) = c
      · rw [if_pos (decide_eq_true hu), if_pos hu]
      · rw [if_neg (by simp [hu]), if_neg hu, Int.mul_zero]
  have k0 := key 0 (by decide)
  have k1 := key 1 (by decide)
  have k2 := key 2 (by decide)
  have eR : r.wt * valAt h os r.pos r.st = valR h os r := rfl
  have q0 : valR h os (Rn.step s r ((0 : Nat) : Int)) = valR h os (Rn.step s r 0) := rfl
  have q1 : valR h os (Rn.step s r ((1 : Nat) : Int)) = valR h os (Rn.step s r 1) := rfl
  have q2 : valR h os (Rn.step s r ((2 : Nat) : Int)) = valR h os (Rn.step s r 2) := rfl
  have u0 : s.next r.st ((0 : Nat) : Int) = s.next r.st 0 := rfl
  have u1 : s.next r.st ((1 : Nat) : Int) = s.next r.st 1 := rfl
  have u2 : s.next r.st ((2 : Nat) : Int) = s.next r.st 2 := rfl
  have g0 : gD m s c here n gs r 0 = gs := rfl
  rw [g0, q0, u0] at k0
  rw [q1, u1] at k1
  rw [q2, u2] at k2
  rw [eR, groAt_here hso]
  unfold St.many
  cases hd : s.draws
  · rw [valR_own hso hd]
    simp only [Bool.false_eq_true, if_false]
    exact k0
  · rw [valR_draw hso hd]
    simp only [if_true]
    rw [k2, k1, k0]
    cases here
    · simp only [Bool.false_eq_true, if_false]
      omega
    · simp only [if_true]
      rw [Int.mul_add, Int.mul_add]
      omega
/-- What a statement adds to the rows of weights, as they grow later. -/
theorem mD_gro {c : Int} {h : Int → Int} {os : List St} {m a : Nat} {s : St} {rs : List (List Int)} {r : Rn} (hm : os.length = m) (ha : a < m) (hok : s.ok = true) (hr : Rk m rs) (hs : 0 ≤ r.st ∧ r.st ≤ 80) (hw : 0 ≤ r.wt) (him : r.pos < m) (hso : os[r.pos]? = some s) :
    tailM (groAt c h os a) (mD m rs s r s.many) (r.pos + 1) (m - r.pos) = tailM (groAt c h os a) rs (r.pos + 1) (m - r.pos) + (if r.pos < a then r.wt * groAt c h os a r.pos r.st else 0) := by
  have key : ∀ (d : Nat), d ≤ 2 → tailM (groAt c h os a) (mD m rs s r (d + 1)) (r.pos + 1) (m - r.pos) = tailM (groAt c h os a) (mD m rs s r d) (r.pos + 1) (m - r.pos) + r.wt * s.fac (s.next r.st d) * groAt c h os a (r.pos + 1 + s.jump r.st) (s.next r.st d) := fun d hd => by
    rw [mD, toM_tail _ (mD_ok hok hr hs hw d (by omega)) (next_bd hok hs (by omega)) (step_pos s r (d : Int)) him, ← hm, groAt_min (by omega)]
    rfl
  have k0 := key 0 (by decide)
  have k1 := key 1 (by decide)
  have k2 := key 2 (by decide)
  have u0 : s.next r.st ((0 : Nat) : Int) = s.next r.st 0 := rfl
  have u1 : s.next r.st ((1 : Nat) : Int) = s.next r.st 1 := rfl
  have u2 : s.next r.st ((2 : Nat) : Int) = s.next r.st 2 := rfl
  have g0 : mD m rs s r 0 = rs := rfl
  rw [g0, u0] at k0
  rw [u1] at k1
  rw [u2] at k2
  by_cases hp : r.pos < a
  · rw [if_pos hp]
    unfold St.many
    cases hd : s.draws
    · rw [if_neg (by simp), groAt_own hso hd hp, k0, Int.mul_assoc]
    · have hj : s.jump r.st = 0 := jump_draw hd r.st
      rw [hj, show r.pos + 1 + 0 = r.pos + 1 from rfl] at k0 k1 k2
      rw [if_pos rfl, groAt_draw hso hd hp, k2, k1, k0, Int.mul_add, Int.mul_add]
      have a0 := Int.mul_assoc r.wt (s.fac (s.next r.st 0)) (groAt c h os a (r.pos + 1) (s.next r.st 0))
      have a1 := Int.mul_assoc r.wt (s.fac (s.next r.st 1)) (groAt c h os a (r.pos + 1) (s.next r.st 1))
      have a2 := Int.mul_assoc r.wt (s.fac (s.next r.st 2)) (groAt c h os a (r.pos + 1) (s.next r.st 2))
      omega
  · rw [if_neg hp, Int.add_zero]
    have z : ∀ x, groAt c h os a (r.pos + 1 + s.jump r.st) x = 0 := groAt_over c h os (by omega)
    rw [z, Int.mul_zero, Int.add_zero] at k0 k1 k2
    unfold St.many
    cases hd : s.draws
    · rw [if_neg (by simp)]
      exact k0
    · rw [if_pos rfl, k2, k1, k0]
/-- What bounds the weights: twice as much ahead of the statement. -/
def W2 (m a t : Nat) (st : Int) : Int := if t ≤ a then 2 * V2 m t st else V2 m t st
theorem W2_ge (m a t : Nat) (st : Int) : 1 ≤ W2 m a t st := by
  have := V2_ge m t st
  unfold W2
  split <;> omega
theorem W2_mono {m a i j : Nat} (h : i ≤ j) (st st' : Int) : W2 m a j st ≤ W2 m a i st' := by
  have h1 := V2_mono (m := m) h st st'
  have h2 := V2_ge m j st
  unfold W2
  split <;> split <;> omega
theorem W2_step {m a i : Nat} (h : i < m) (st st' : Int) : 27 * W2 m a (i + 1) st' + (if i = a then 3 * V2 m (i + 1) st' else 0) ≤ W2 m a i st := by
  have h1 := V2_succ h st st'
  have h2 := V2_ge m (i + 1) st'
  unfold W2
  split <;> split <;> split <;> omega
theorem mD_bdV {V : Nat → Int → Int} {X : Int} {m : Nat} {rs : List (List Int)} {s : St} {r : Rn} (hX : 0 ≤ X) (hV : ∀ j st, r.pos + 1 ≤ j → V j st ≤ X) (hok : s.ok = true) (hr : Rk m rs) (hs : 0 ≤ r.st ∧ r.st ≤ 80) (hw : 0 ≤ r.wt) (him : r.pos < m) :
    ∀ (d : Nat), d ≤ 3 → tailM V (mD m rs s r d) (r.pos + 1) (m - r.pos) ≤ tailM V rs (r.pos + 1) (m - r.pos) + d * (9 * r.wt * X)
  | 0, _ => by simp [mD]
  | d + 1, hd => by
    have ih := mD_bdV hX hV hok hr hs hw him d (by omega)
    have hf := fac_bd hok (s.next r.st d)
    have hp := step_pos s r (d : Int)
    rw [mD, toM_tail V (mD_ok hok hr hs hw d (by omega)) (next_bd hok hs (by omega)) hp him]
    have h1 : (Rn.step s r d).wt ≤ 9 * r.wt := by
      show r.wt * s.fac (s.next r.st d) ≤ 9 * r.wt
      rw [Int.mul_comm 9 r.wt]
      exact Int.mul_le_mul_of_nonneg_left hf.2 hw
    have h0 : 0 ≤ (Rn.step s r d).wt := Int.mul_nonneg hw hf.1
    have h2 : (Rn.step s r d).wt * V (min (Rn.step s r d).pos m) (Rn.step s r d).st ≤ 9 * r.wt * X :=
      Int.le_trans (Int.mul_le_mul_of_nonneg_left (hV _ _ (by omega)) h0) (Int.mul_le_mul_of_nonneg_right h1 hX)
    have h3 : ((d + 1 : Nat) : Int) * (9 * r.wt * X) = d * (9 * r.wt * X) + 9 * r.wt * X := by
      rw [Int.natCast_succ, Int.add_mul, Int.one_mul]
    omega
theorem gD_bdV {V : Nat → Int → Int} {X : Int} {m : Nat} {gs : List (List Int)} {s : St} {c : Int} {here : Bool} {n : Int} {r : Rn} (hX : 0 ≤ X) (hV : ∀ j st, r.pos + 1 ≤ j → V j st ≤ X) (hV0 : ∀ j st, 0 ≤ V j st) (hok : s.ok = true) (hr : Rk m gs) (hs : 0 ≤ r.st ∧ r.st ≤ 80) (hw : 0 ≤ r.wt) (hn : 0 ≤ n) (him : r.pos < m) :
    ∀ (d : Nat), d ≤ 3 → tailM V (gD m s c here n gs r d) (r.pos + 1) (m - r.pos) ≤ tailM V gs (r.pos + 1) (m - r.pos) + d * (9 * r.wt * X) + d * (if here = true then n * X else 0)
  | 0, _ => by simp [gD]
  | d + 1, hd => by
    have ih := gD_bdV (c := c) (here := here) hX hV hV0 hok hr hs hw hn him d (by omega)
    have hf := fac_bd hok (s.next r.st d)
    have hp := step_pos s r (d : Int)
    rw [gD, gAdd_tail V (gD_ok hok hr hs hw hn d (by omega)) (next_bd hok hs (by omega)) (Int.mul_nonneg hw hf.1) hp him]
    have h1 : (Rn.step s r d).wt ≤ 9 * r.wt := by
      show r.wt * s.fac (s.next r.st d) ≤ 9 * r.wt
      rw [Int.mul_comm 9 r.wt]
      exact Int.mul_le_mul_of_nonneg_left hf.2 hw
    have h0 : 0 ≤ (Rn.step s r d).wt := Int.mul_nonneg hw hf.1
    have hVd := hV (min (Rn.step s r d).pos m) (Rn.step s r d).st (by omega)
    have hVd0 := hV0 (min (Rn.step s r d).pos m) (Rn.step s r d).st
    generalize V (min (Rn.step s r d).pos m) (Rn.step s r d).st = y at hVd hVd0
    have h2 : (Rn.step s r d).wt * y ≤ 9 * r.wt * X :=
      Int.le_trans (Int.mul_le_mul_of_nonneg_left hVd h0) (Int.mul_le_mul_of_nonneg_right h1 hX)
    have h4 : (if (here && decide (s.uses (Rn.step s r d).st = c)) = true then n * y else 0) ≤ if here = true then n * X else 0 := by
      have hny := Int.mul_le_mul_of_nonneg_left hVd hn
      have hnX := Int.mul_nonneg hn hX
      cases here
      · simp
      · rw [Bool.true_and, if_pos rfl]
        split
        · exact hny
        · exact hnX
    have h3 : ((d + 1 : Nat) : Int) * (9 * r.wt * X) = d * (9 * r.wt * X) + 9 * r.wt * X := by
      rw [Int.natCast_succ, Int.add_mul, Int.one_mul]
    have h5 : ((d + 1 : Nat) : Int) * (if here = true then n * X else 0) = d * (if here = true then n * X else 0) + (if here = true then n * X else 0) := by
      rw [Int.natCast_succ, Int.add_mul, Int.one_mul]
    omega
theorem tailM_le {V W : Nat → Int → Int} {m : Nat} {rs : List (List Int)} (hr : Rk m rs) (h : ∀ j st, V j st ≤ W j st) : ∀ (n i : Nat), tailM V rs i n ≤ tailM W rs i n
  | 0, _ => Int.le_refl _
  | n + 1, i => by
    have ih := tailM_le hr h n (i + 1)
    have key : ∀ (r : List Int) (k : Nat), (∀ x ∈ r, 0 ≤ x) → rsum (V i) r k ≤ rsum (W i) r k := fun r => by
      induction r with
      | nil => exact fun k _ => Int.le_refl _
      | cons u r ihr =>
        intro k hu
        have h1 := Int.mul_le_mul_of_nonneg_left (h i k) (hu u List.mem_cons_self)
        have h2 := ihr (k + 1) fun x hx => hu x (List.mem_cons_of_mem _ hx)
        rw [rsum, rsum]
        omega
    rw [tailM, tailM]
    have : ∀ x ∈ rs.getD i [], 0 ≤ x := by
      by_cases hi : i ≤ m
      · exact (hr.at_ hi).2.2
      · intro x hx
        rw [List.getD_eq_getElem?_getD, List.getElem?_eq_none (by rw [hr.1]; omega)] at hx
        cases hx
    have := key _ 0 this
    omega
/-- What stands behind z entries of row i. -/
def Gsl (os : List St) (m a : Nat) (c : Int) (T : (Int → Int) → Int) (i z : Nat) (ns gs : List (List Int)) : Prop :=
  Rk m ns ∧ Rk m gs ∧ (∀ h, (rsum (valAt h os i) ((gs.getD i []).drop z) z + tailM (valAt h os) gs (i + 1) (m - i)) + (rsum (groAt c h os a i) ((ns.getD i []).drop z) z + tailM (groAt c h os a) ns (i + 1) (m - i)) = T h) ∧
  (rsum (V2 m i) ((gs.getD i []).drop z) z + tailM (V2 m) gs (i + 1) (m - i)) + (rsum (W2 m a i) ((ns.getD i []).drop z) z + tailM (W2 m a) ns (i + 1) (m - i)) ≤ 1000000000000000000
theorem tail_zero (V : Nat → Int → Int) (d : List Int) (m : Nat) : ∀ (n i : Nat), tailM V (d :: List.replicate m (zs 81)) (i + 1) n = 0
  | 0, i => rfl
  | n + 1, i => by
    rw [tailM, tail_zero V d m n (i + 1)]
    have : (d :: List.replicate m (zs 81)).getD (i + 1) [] = zs 81 ∨ (d :: List.replicate m (zs 81)).getD (i + 1) [] = [] := by
      rw [List.getD_eq_getElem?_getD, List.getElem?_cons_succ, List.getElem?_replicate]
      split
      · exact .inl rfl
      · exact .inr rfl
    rcases this with e | e
    · rw [e]
      unfold zs
      rw [rsum_zero]; rfl
    · rw [e]; rfl
theorem rk_start {m : Nat} {d : List Int} (hl : d.length = 81) (h0 : ∀ x ∈ d, 0 ≤ x) : Rk m (d :: List.replicate m (zs 81)) := ⟨by simp, fun es he => by
  rcases List.mem_cons.1 he with rfl | he
  · exact ⟨hl, h0⟩
  · rw [List.mem_replicate] at he
    rw [he.2]
    exact ⟨zs_len _, fun x hx => by unfold zs at hx; rw [List.mem_replicate] at hx; omega⟩⟩
theorem Gsl.start {os : List St} {m a : Nat} (c : Int) (h12 : m ≤ 12) : Gsl os m a c (fun h => groAt c h os a 0 0) 0 0 ((zs 81).set 0 1 :: List.replicate m (zs 81)) (zs 81 :: List.replicate m (zs 81)) := by
  have hone : ∀ v : Int → Int, rsum v ((zs 81).set 0 1) 0 = v 0 := fun v => by
    have h := rsum_set v (zs 81) 0 0 1 (by rw [zs_len]; decide)
    have e : (zs 81).getD 0 0 = 0 := rfl
    have e2 : rsum v (zs 81) 0 = 0 := rsum_zero v 81 0
    rw [e, e2, Int.zero_add, Int.zero_add, Int.one_mul] at h
    exact h
  have hz : ∀ v : Int → Int, rsum v (zs 81) 0 = 0 := fun v => rsum_zero v 81 0
  have g0 : ∀ (d : List Int), (d :: List.replicate m (zs 81)).getD 0 [] = d := fun _ => rfl
  refine ⟨rk_start (by rw [List.length_set, zs_len]) (fun x hx => ?_), rk_start (zs_len _) (fun x hx => by unfold zs at hx; rw [List.mem_replicate] at hx; omega), fun h => ?_, ?_⟩
  · rcases List.mem_or_eq_of_mem_set hx with hx | rfl
    · unfold zs at hx
      rw [List.mem_replicate] at hx
      omega
    · decide
  · rw [tail_zero, tail_zero, g0, g0, List.drop_zero, List.drop_zero, hz, hone]
    show 0 + 0 + (groAt c h os a 0 0 + 0) = groAt c h os a 0 0
    omega
  · rw [tail_zero, tail_zero, g0, g0, List.drop_zero, List.drop_zero, hz, hone]
    have := V2_top h12 0
    have h2 := V2_ge m 0 0
    unfold W2
    split <;> omega
theorem Gsl.next {os : List St} {m a i : Nat} {c : Int} {T : (Int → Int) → Int} {ns gs : List (List Int)} (h : Gsl os m a c T i 81 ns gs) (hi : i < m) : Gsl os m a c T (i + 1) 0 ns gs := by
  obtain ⟨hn, hg, hT, hV⟩ := h
  have en : (ns.getD i []).drop 81 = [] := List.drop_eq_nil_of_le (by rw [(hn.at_ (by omega)).2.1]; exact Nat.le_refl _)
  have eg : (gs.getD i []).drop 81 = [] := List.drop_eq_nil_of_le (by rw [(hg.at_ (by omega)).2.1]; exact Nat.le_refl _)
  have key : ∀ (V : Nat → Int → Int) (rs : List (List Int)), tailM V rs (i + 1) (m - i) = rsum (V (i + 1)) (rs.getD (i + 1) []) 0 + tailM V rs (i + 1 + 1) (m - (i + 1)) := fun V rs => by
    rw [show m - i = m - (i + 1) + 1 by omega, tailM]
  have z : ∀ (v : Int → Int), rsum v [] 81 = 0 := fun _ => rfl
  refine ⟨hn, hg, fun q => ?_, ?_⟩
  · have := hT q
    rw [en, eg, z, z, Int.zero_add, Int.zero_add, key, key] at this
    rw [List.drop_zero, List.drop_zero]
    exact this
  · rw [en, eg, z, z, Int.zero_add, Int.zero_add, key, key] at hV
    rw [List.drop_zero, List.drop_zero]
    exact hV
/-- What is known of both entries, and of the rows behind each of the values. -/
theorem Gsl.cap {os : List St} {m a i z : Nat} {c : Int} {T : (Int → Int) → Int} {ns gs : List (List Int)} {s : St} (h : Gsl os m a c T i z ns gs) (hok : s.ok = true) (hi : i < m) (hz : z < 81) :
    (0 ≤ ent ns i z ∧ ent ns i z * 27 ≤ 1000000000000000000) ∧ (0 ≤ ent gs i z ∧ ent gs i z * 27 ≤ 1000000000000000000) ∧
    ∀ d, d ≤ 3 → (Rk m (mD m ns s ⟨i, z, ent ns i z⟩ d) ∧ tailM (V2 m) (mD m ns s ⟨i, z, ent ns i z⟩ d) (i + 1) (m - i) ≤ 1000000000000000000) ∧
      (Rk m (gD m s c (decide (i = a)) (ent ns i z) gs ⟨i, z, ent gs i z⟩ d) ∧ tailM (V2 m) (gD m s c (decide (i = a)) (ent ns i z) gs ⟨i, z, ent gs i z⟩ d) (i + 1) (m - i) ≤ 1000000000000000000) := by
  obtain ⟨hn, hg, _, hV⟩ := h
  rw [rsum_drop hn (by omega) hz, rsum_drop hg (by omega) hz] at hV
  obtain ⟨_, hu⟩ := hn.ent (i := i) (by omega) hz
  obtain ⟨_, hv⟩ := hg.ent (i := i) (by omega) hz
  have dn := rsum_nonneg (v := W2 m a i) (fun k => by have := W2_ge m a i k; omega) (z + 1) (drop_nonneg (z := z + 1) hn (show i ≤ m by omega))
  have dg := rsum_nonneg (v := V2 m i) (fun k => by have := V2_ge m i k; omega) (z + 1) (drop_nonneg (z := z + 1) hg (show i ≤ m by omega))
  have tn := tailM_nonneg hn (V := W2 m a) (fun i st => by have := W2_ge m a i st; omega) (m - i) (i + 1)
  have tg := tailM_nonneg hg (V := V2 m) (fun i st => by have := V2_ge m i st; omega) (m - i) (i + 1)
  have hst : 0 ≤ (z : Int) ∧ (z : Int) ≤ 80 := by omega
  have s1 := V2_succ hi z 0
  have s2 := V2_ge m (i + 1) 0
  have w1 := W2_step (a := a) hi z 0
  have w2 := W2_ge m a (i + 1) 0
  have hWV : V2 m (i + 1) 0 ≤ W2 m a (i + 1) 0 := by unfold W2; split <;> omega
  have p1 := Int.mul_le_mul_of_nonneg_left (show 27 ≤ V2 m i z by omega) hv
  have p2 := Int.mul_le_mul_of_nonneg_left (show 27 ≤ W2 m a i z by split at w1 <;> omega) hu
  have q1 := Int.mul_nonneg hv (show 0 ≤ V2 m i z by omega)
  have q2 := Int.mul_nonneg hu (show 0 ≤ W2 m a i z by split at w1 <;> omega)
  refine ⟨⟨hu, by omega⟩, ⟨hv, by omega⟩, fun d hd => ?_⟩
  generalize ent ns i z = n at *
  generalize ent gs i z = g at *
  have kn := mD_ok (r := ⟨i, z, n⟩) hok hn hst hu d hd
  have kg := gD_ok (c := c) (here := decide (i = a)) (r := ⟨i, z, g⟩) hok hg hst hv hu d hd
  have bn := mD_bdV (V := W2 m a) (X := W2 m a (i + 1) 0) (by omega) (fun j st hj => W2_mono hj st 0) (r := ⟨i, z, n⟩) hok hn hst hu hi d hd
  have bg := gD_bdV (V := V2 m) (X := V2 m (i + 1) 0) (by omega) (fun j st hj => V2_mono hj st 0) (fun j st => by have := V2_ge m j st; omega) (c := c) (here := decide (i = a)) (n := n) (r := ⟨i, z, g⟩) hok hg hst hv hu hi d hd
  have bn' : tailM (W2 m a) (mD m ns s ⟨i, z, n⟩ d) (i + 1) (m - i) ≤ tailM (W2 m a) ns (i + 1) (m - i) + d * (9 * n * W2 m a (i + 1) 0) := bn
  have bg' : tailM (V2 m) (gD m s c (decide (i = a)) n gs ⟨i, z, g⟩ d) (i + 1) (m - i) ≤ tailM (V2 m) gs (i + 1) (m - i) + d * (9 * g * V2 m (i + 1) 0) + d * (if decide (i = a) = true then n * V2 m (i + 1) 0 else 0) := bg
  have e1 : (d : Int) * (9 * n * W2 m a (i + 1) 0) ≤ 3 * (9 * n * W2 m a (i + 1) 0) := Int.mul_le_mul_of_nonneg_right (by omega) (Int.mul_nonneg (by omega) (by omega))
  have e2 : (d : Int) * (9 * g * V2 m (i + 1) 0) ≤ 3 * (9 * g * V2 m (i + 1) 0) := Int.mul_le_mul_of_nonneg_right (by omega) (Int.mul_nonneg (by omega) (by omega))
  have e3 : (d : Int) * (if decide (i = a) = true then n * V2 m (i + 1) 0 else 0) ≤ 3 * (if decide (i = a) = true then n * V2 m (i + 1) 0 else 0) := Int.mul_le_mul_of_nonneg_right (by omega) (by
    split
    · exact Int.mul_nonneg hu (by omega)
    · exact Int.le_refl _)
  have f1 : 3 * (9 * n * W2 m a (i + 1) 0) = n * (27 * W2 m a (i + 1) 0) := by
    rw [Int.mul_comm 9 n, Int.mul_assoc, Int.mul_left_comm 3 n, ← Int.mul_assoc 3 9]
    rfl
  have f2 : 3 * (9 * g * V2 m (i + 1) 0) = g * V2 m i z := by
    rw [s1, Int.mul_comm 9 g, Int.mul_assoc, Int.mul_left_comm 3 g, ← Int.mul_assoc 3 9]
    rfl
  have f3 : 3 * (if decide (i = a) = true then n * V2 m (i + 1) 0 else 0) = n * (if i = a then 3 * V2 m (i + 1) 0 else 0) := by
    by_cases hia : i = a
    · rw [if_pos (decide_eq_true hia), if_pos hia, Int.mul_left_comm]
    · rw [if_neg (by simp [hia]), if_neg hia, Int.mul_zero, Int.mul_zero]
  have f4 := Int.mul_le_mul_of_nonneg_left w1 hu
  rw [Int.mul_add] at f4
  have n0 := Int.mul_nonneg hu (show 0 ≤ 27 * W2 m a (i + 1) 0 by omega)
  have n3 : 0 ≤ n * (if i = a then 3 * V2 m (i + 1) 0 else 0) := Int.mul_nonneg hu (by split <;> omega)
  have mv : tailM (V2 m) (mD m ns s ⟨i, z, n⟩ d) (i + 1) (m - i) ≤ tailM (W2 m a) (mD m ns s ⟨i, z, n⟩ d) (i + 1) (m - i) := tailM_le kn (fun j st => by have := V2_ge m j st; unfold W2; split <;> omega) _ _
  exact ⟨⟨kn, by omega⟩, kg, by omega⟩
theorem Gsl.step {os : List St} {m a i z : Nat} {c : Int} {T : (Int → Int) → Int} {ns gs : List (List Int)} {s : St} (h : Gsl os m a c T i z ns gs) (hm : os.length = m) (ha : a < m) (hok : s.ok = true) (hi : i < m) (hz : z < 81) (hso : os[i]? = some s) (hh : i = a → s.hasW = true) :
    Gsl os m a c T i (z + 1) (mD m ns s ⟨i, z, ent ns i z⟩ s.many) (gD m s c (decide (i = a)) (ent ns i z) gs ⟨i, z, ent gs i z⟩ s.many) := by
  obtain ⟨hn, hg, hT, hV⟩ := h
  obtain ⟨_, hu⟩ := hn.ent (i := i) (by omega) hz
  obtain ⟨_, hv⟩ := hg.ent (i := i) (by omega) hz
  have hst : 0 ≤ (z : Int) ∧ (z : Int) ≤ 80 := by omega
  have hmany : s.many ≤ 3 := by unfold St.many; split <;> omega
  have kn := mD_ok (r := ⟨i, z, ent ns i z⟩) hok hn hst hu s.many hmany
  have kg := gD_ok (c := c) (here := decide (i = a)) (r := ⟨i, z, ent gs i z⟩) hok hg hst hv hu s.many hmany
  have rn : (mD m ns s ⟨i, z, ent ns i z⟩ s.many).getD i [] = ns.getD i [] := mD_le hi s.many i (Nat.le_refl _)
  have rg : (gD m s c (decide (i = a)) (ent ns i z) gs ⟨i, z, ent gs i z⟩ s.many).getD i [] = gs.getD i [] := gD_le hi s.many i (Nat.le_refl _)
  refine ⟨kn, kg, fun q => ?_, ?_⟩
  · have h1 := gD_val (h := q) (c := c) (here := decide (i = a)) (r := ⟨i, z, ent gs i z⟩) hm hok hg hst hv hu hi hso (fun e => hh (of_decide_eq_true e))
    have h2 := mD_gro (h := q) (c := c) (r := ⟨i, z, ent ns i z⟩) hm ha hok hn hst hu hi hso
    have h3 := hT q
    rw [rsum_drop hn (by omega) hz, rsum_drop hg (by omega) hz] at h3
    have h1' : tailM (valAt q os) (gD m s c (decide (i = a)) (ent ns i z) gs ⟨i, z, ent gs i z⟩ s.many) (i + 1) (m - i) = tailM (valAt q os) gs (i + 1) (m - i) + ent gs i z * valAt q os i z + (if decide (i = a) = true then ent ns i z * groAt c q os i i z else 0) := h1
    have h2' : tailM (groAt c q os a) (mD m ns s ⟨i, z, ent ns i z⟩ s.many) (i + 1) (m - i) = tailM (groAt c q os a) ns (i + 1) (m - i) + (if i < a then ent ns i z * groAt c q os a i z else 0) := h2
    have h4 : (if decide (i = a) = true then ent ns i z * groAt c q os i i z else 0) + (if i < a then ent ns i z * groAt c q os a i z else 0) = ent ns i z * groAt c q os a i z := by
      by_cases e1 : i < a
      · rw [if_neg (by simp; omega), if_pos e1, Int.zero_add]
      · by_cases e2 : i = a
        · rw [if_pos (decide_eq_true e2), if_neg e1, Int.add_zero]
          subst e2
          rfl
        · rw [if_neg (by simp [e2]), if_neg e1, groAt_over c q os (by omega), Int.mul_zero, Int.add_zero]
    rw [rn, rg, h1', h2', ← h3]
    omega
  · obtain ⟨_, _, _⟩ := Gsl.cap (s := s) (T := T) (⟨hn, hg, hT, hV⟩ : Gsl os m a c T i z ns gs) hok hi hz
    have s1 := V2_succ hi z 0
    have s2 := V2_ge m (i + 1) 0
    have w1 := W2_step (a := a) hi z 0
    have w2 := W2_ge m a (i + 1) 0
    rw [rsum_drop hn (by omega) hz, rsum_drop hg (by omega) hz] at hV
    rw [rn, rg]
    generalize ent ns i z = n at *
    generalize ent gs i z = g at *
    have bn := mD_bdV (V := W2 m a) (X := W2 m a (i + 1) 0) (by omega) (fun j st hj => W2_mono hj st 0) (r := ⟨i, z, n⟩) hok hn hst hu hi s.many hmany
    have bg := gD_bdV (V := V2 m) (X := V2 m (i + 1) 0) (by omega) (fun j st hj => V2_mono hj st 0) (fun j st => by have := V2_ge m j st; omega) (c := c) (here := decide (i = a)) (n := n) (r := ⟨i, z, g⟩) hok hg hst hv hu hi s.many hmany
    have bn' : tailM (W2 m a) (mD m ns s ⟨i, z, n⟩ s.many) (i + 1) (m - i) ≤ tailM (W2 m a) ns (i + 1) (m - i) + s.many * (9 * n * W2 m a (i + 1) 0) := bn
    have bg' : tailM (V2 m) (gD m s c (decide (i = a)) n gs ⟨i, z, g⟩ s.many) (i + 1) (m - i) ≤ tailM (V2 m) gs (i + 1) (m - i) + s.many * (9 * g * V2 m (i + 1) 0) + s.many * (if decide (i = a) = true then n * V2 m (i + 1) 0 else 0) := bg
    have e1 : (s.many : Int) * (9 * n * W2 m a (i + 1) 0) ≤ 3 * (9 * n * W2 m a (i + 1) 0) := Int.mul_le_mul_of_nonneg_right (by omega) (Int.mul_nonneg (by omega) (by omega))
    have e2 : (s.many : Int) * (9 * g * V2 m (i + 1) 0) ≤ 3 * (9 * g * V2 m (i + 1) 0) := Int.mul_le_mul_of_nonneg_right (by omega) (Int.mul_nonneg (by omega) (by omega))
    have e3 : (s.many : Int) * (if decide (i = a) = true then n * V2 m (i + 1) 0 else 0) ≤ 3 * (if decide (i = a) = true then n * V2 m (i + 1) 0 else 0) := Int.mul_le_mul_of_nonneg_right (by omega) (by
      split
      · exact Int.mul_nonneg hu (by omega)
      · exact Int.le_refl _)
    have f1 : 3 * (9 * n * W2 m a (i + 1) 0) = n * (27 * W2 m a (i + 1) 0) := by
      rw [Int.mul_comm 9 n, Int.mul_assoc, Int.mul_left_comm 3 n, ← Int.mul_assoc 3 9]
      rfl
    have f2 : 3 * (9 * g * V2 m (i + 1) 0) = g * V2 m i z := by
      rw [s1, Int.mul_comm 9 g, Int.mul_assoc, Int.mul_left_comm 3 g, ← Int.mul_assoc 3 9]
      rfl
    have f3 : 3 * (if decide (i = a) = true then n * V2 m (i + 1) 0 else 0) = n * (if i = a then 3 * V2 m (i + 1) 0 else 0) := by
      by_cases hia : i = a
      · rw [if_pos (decide_eq_true hia), if_pos hia, Int.mul_left_comm]
      · rw [if_neg (by simp [hia]), if_neg hia, Int.mul_zero, Int.mul_zero]
    have f4 := Int.mul_le_mul_of_nonneg_left w1 hu
    rw [Int.mul_add] at f4
    omega
theorem Gsl.last {os : List St} {m a z : Nat} {c : Int} {T : (Int → Int) → Int} {ns gs : List (List Int)} (h : Gsl os m a c T m 0 ns gs) (hm : os.length = m) (ha : a < m) (hq : z < 81) : (gs.getD m [])[z]? = some (T (ind z)) := by
  obtain ⟨hn, hg, hT, hV⟩ := h
  have hM : Mst os m (fun h => T h) m 0 gs → (gs.getD m [])[z]? = some (T (ind z)) := fun h => h.last hm hq
  have hz : ∀ (q : Int → Int) (r : List Int) (k : Nat), rsum (groAt c q os a m) r k = 0 := fun q r => by
    induction r with
    | nil => exact fun k => rfl
    | cons u r ih =>
      intro k
      rw [rsum, ih, groAt_over c q os ha, Int.mul_zero, Int.add_zero]
  have t0 : ∀ (V : Nat → Int → Int) (rs : List (List Int)), tailM V rs (m + 1) (m - m) = 0 := fun V rs => by rw [Nat.sub_self]; rfl
  refine hM ⟨hg, fun q => ?_, ?_⟩
  · show _ = T q
    rw [← hT q, hz, t0, t0]
    omega
  · have dn := rsum_nonneg (v := W2 m a m) (fun k => by have := W2_ge m a m k; omega) 0 (drop_nonneg (z := 0) hn (Nat.le_refl m))
    rw [t0, t0] at hV
    rw [t0]
    omega
end Go.Proofs.Ytbndonfpdioibaa
