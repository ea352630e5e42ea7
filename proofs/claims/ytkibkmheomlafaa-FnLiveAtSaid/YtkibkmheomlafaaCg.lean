/- Changes: what a program is worth behind one, and behind all that make it less; plain functions. -/
import Derived.Test.YtkibkmheomlafaaCa
import Derived.Test.YtkibkmheomlafaaBa
import Derived.Test.YtkibkmheomlafaaVp
namespace Go.Proofs.Ytkibkmheomlafaa
set_option maxRecDepth 100000
set_option linter.unusedVariables false
open Go.RowKit

/-- With what a plain statement weighs the state with x for what it sets; with what it weighs if it sets nothing. -/
def St.ker (s : St) (x st : Int) : Int :=
  if s.k = 0 then (if x = (s.c + if s.b = -1 then 0 else valueAt st s.b) % 3 then 1 else 0)
  else if s.k = 1 then (if x = (valueAt st s.a + valueAt st s.b) % 3 then 1 else 0)
  else if s.k = 2 then s.wgt x
  else if s.k = 3 then s.wgt ((x + valueAt st s.b) % 3)
  else if s.k = 4 then s.wgt (valueAt st s.a)
  else s.wgt ((valueAt st s.a + valueAt st s.b) % 3)
def one (s : St) (f : Int → Int) (st : Int) : Int :=
  if s.k ≤ 3 then s.ker 0 st * f (withValue st s.a 0) + s.ker 1 st * f (withValue st s.a 1) + s.ker 2 st * f (withValue st s.a 2)
  else s.ker 0 st * f st

theorem one_set {s : St} (h : s.k ≤ 3) (f : Int → Int) (st : Int) : one s f st = s.ker 0 st * f (withValue st s.a 0) + s.ker 1 st * f (withValue st s.a 1) + s.ker 2 st * f (withValue st s.a 2) := if_pos h
theorem one_hot {m : Int} (hm : 0 ≤ m ∧ m ≤ 2) (g : Int → Int) : (if (0 : Int) = m then (1 : Int) else 0) * g 0 + (if (1 : Int) = m then (1 : Int) else 0) * g 1 + (if (2 : Int) = m then (1 : Int) else 0) * g 2 = g m := by
  obtain rfl | rfl | rfl : m = 0 ∨ m = 1 ∨ m = 2 := by omega
  all_goals simp
theorem val_one {s : St} (hok : s.ok = true) (h6 : s.k < 6) (h : Int → Int) (r : List St) {st : Int} (hs : 0 ≤ st ∧ st ≤ 80) : val h (s :: r) 0 st = one s (fun x => val h r 0 x) st := by
  have hj : s.jump st = 0 := by unfold St.jump; rw [if_neg (fun e => by have := e.1; omega)]
  obtain ⟨k, a, b, c, u, v, y⟩ := s
  have h6' : k < 6 := h6
  rcases (ok_low h6).1 hok with ⟨hk, ha, hb, hc, _⟩ | ⟨hk, ha, hb, hne, _⟩ | ⟨hk | hk, ha, hb, _⟩ | ⟨hk | hk, ha, hb, hne, _⟩
  · have hk' : k = 0 := hk
    subst hk'
    rw [val, hj]
    have hm : 0 ≤ (c + if b = -1 then 0 else valueAt st b) % 3 ∧ (c + if b = -1 then 0 else valueAt st b) % 3 ≤ 2 := by omega
    have := one_hot hm (fun x => val h r 0 (withValue st a x))
    simp [St.draws, St.fac, St.next, one, St.ker] at this ⊢
    exact this.symm
  · have hk' : k = 1 := hk
    subst hk'
    rw [val, hj]
    have hm : 0 ≤ (valueAt st a + valueAt st b) % 3 ∧ (valueAt st a + valueAt st b) % 3 ≤ 2 := by omega
    have := one_hot hm (fun x => val h r 0 (withValue st a x))
    simp [St.draws, St.fac, St.next, one, St.ker] at this ⊢
    exact this.symm
  · have hk' : k = 2 := hk
    subst hk'
    rw [val, hj]
    have e0 := fac_2 (a := a) (b := b) (c := c) (u := u) (v := v) (y := y) hs ha (x := 0) (by decide)
    have e1 := fac_2 (a := a) (b := b) (c := c) (u := u) (v := v) (y := y) hs ha (x := 1) (by decide)
    have e2 := fac_2 (a := a) (b := b) (c := c) (u := u) (v := v) (y := y) hs ha (x := 2) (by decide)
    rw [if_pos (by simp [St.draws]), e0, e1, e2]
    simp [one, St.ker, St.next]
  · have hk' : k = 4 := hk
    subst hk'
    rw [val, hj]
    simp [St.draws, St.fac, St.next, one, St.ker]
  · have hk' : k = 3 := hk
    subst hk'
    rw [val, hj]
    have e0 := fac_3 (c := c) (u := u) (v := v) (y := y) hs ha hb hne (x := 0) (by decide)
    have e1 := fac_3 (c := c) (u := u) (v := v) (y := y) hs ha hb hne (x := 1) (by decide)
    have e2 := fac_3 (c := c) (u := u) (v := v) (y := y) hs ha hb hne (x := 2) (by decide)
    rw [if_pos (by simp [St.draws]), e0, e1, e2]
    simp [one, St.ker, St.next]
  · have hk' : k = 5 := hk
    subst hk'
    rw [val, hj]
    simp [St.draws, St.fac, St.next, one, St.ker]

theorem one_congr {s : St} {f g : Int → Int} (hok : s.ok = true) {st : Int} (hs : 0 ≤ st ∧ st ≤ 80) (h : ∀ x, 0 ≤ x ∧ x ≤ 80 → f x = g x) : one s f st = one s g st := by
  have ha : s.k ≤ 3 → 0 ≤ s.a ∧ s.a ≤ 3 := fun h3 => by
    have := ok_rng (k := s.k) (a := s.a) (b := s.b) (c := s.c) (u := s.u) (v := s.v) (x := s.x) hok
    omega
  unfold one
  split
  · rename_i h3
    rw [h _ (with_bd hs (ha h3) (by decide)), h _ (with_bd hs (ha h3) (by decide)), h _ (with_bd hs (ha h3) (by decide))]
  · rw [h _ hs]
theorem one_mul (s : St) (c : Int) (f : Int → Int) (st : Int) : one s (fun x => c * f x) st = c * one s f st := by
  unfold one
  split
  · rw [Int.mul_add, Int.mul_add]; simp only [Int.mul_left_comm c]
  · rw [Int.mul_left_comm c]

/-- What a statement does not read does not change with what it weighs. -/
theorem ker_far {s : St} (hok : s.ok = true) (h6 : s.k < 6) {A y st : Int} (hs : 0 ≤ st ∧ st ≤ 80) (hA : 0 ≤ A ∧ A ≤ 3) (hy : 0 ≤ y ∧ y ≤ 2) (hr : tb s.reads A.toNat = false) (x : Int) : s.ker x (withValue st A y) = s.ker x st := by
  have hv := fun i h0 h3 hne => (valueAt_with hs hA hy).2 i h0 h3 hne
  have hA' : A.toNat ≤ 3 := by omega
  unfold St.reads at hr
  rw [if_pos hok] at hr
  have one1 : ∀ z : Int, 0 ≤ z ∧ z ≤ 3 → tb (bitN z) A.toNat = false → z ≠ A := fun z hz ht e => by
    rw [tb_bit hz.1 hz.2 hA', decide_eq_false_iff_not] at ht
    omega
  have two : ∀ z z' : Int, 0 ≤ z ∧ z ≤ 3 → 0 ≤ z' ∧ z' ≤ 3 → z ≠ z' → tb (bitN z + bitN z') A.toNat = false → z ≠ A ∧ z' ≠ A := fun z z' hz hz' hne ht => by
    rw [tb_add hz hz' hne hA', Bool.or_eq_false_iff, decide_eq_false_iff_not, decide_eq_false_iff_not] at ht
    omega
  unfold St.ker
  rcases (ok_low h6).1 hok with ⟨hk, ha, hb, hc, _⟩ | ⟨hk, ha, hb, hne, _⟩ | ⟨hk | hk, ha, hb, _⟩ | ⟨hk | hk, ha, hb, hne, _⟩
  · rw [if_pos (.inl hk)] at hr
    by_cases hb1 : s.b = -1
    · simp [hk, hb1]
    · have e1 := hv s.b (by omega) (by omega) (one1 _ (by omega) hr)
      simp [hk, hb1, e1]
  · rw [if_neg (by omega), if_pos (.inl hk)] at hr
    obtain ⟨n1, n2⟩ := two _ _ ha hb hne hr
    have e1 := hv s.a ha.1 ha.2 n1
    have e2 := hv s.b hb.1 hb.2 n2
    simp [hk, e1, e2]
  · simp [hk]
  · rw [if_neg (by omega), if_neg (by omega), if_pos (.inl hk)] at hr
    have e1 := hv s.a ha.1 ha.2 (one1 _ ha hr)
    simp [hk, e1]
  · rw [if_pos (.inr hk)] at hr
    have e1 := hv s.b hb.1 hb.2 (one1 _ hb hr)
    simp [hk, e1]
  · rw [if_neg (by omega), if_pos (.inr hk)] at hr
    obtain ⟨n1, n2⟩ := two _ _ ha hb hne hr
    have e1 := hv s.a ha.1 ha.2 n1
    have e2 := hv s.b hb.1 hb.2 n2
    simp [hk, e1, e2]

theorem with_comm {st A B x y : Int} (hs : 0 ≤ st ∧ st ≤ 80) (hA : 0 ≤ A ∧ A ≤ 3) (hB : 0 ≤ B ∧ B ≤ 3) (hne : A ≠ B) (hx : 0 ≤ x ∧ x ≤ 2) (hy : 0 ≤ y ∧ y ≤ 2) : withValue (withValue st A x) B y = withValue (withValue st B y) A x := by
  have h1 := with_bd hs hA hx
  have h2 := with_bd hs hB hy
  obtain ⟨e1, f1⟩ := valueAt_with hs hA hx
  obtain ⟨e2, f2⟩ := valueAt_with hs hB hy
  obtain ⟨e3, f3⟩ := valueAt_with h1 hB hy
  obtain ⟨e4, f4⟩ := valueAt_with h2 hA hx
  refine agree_all (with_bd h1 hB hy) (with_bd h2 hA hx) fun i hi _ => ?_
  by_cases hiA : (i : Int) = A
  · rw [f3 i (by omega) (by omega) (by omega), hiA, e1, e4]
  · by_cases hiB : (i : Int) = B
    · rw [f4 i (by omega) (by omega) hiA, hiB, e2, e3]
    · rw [f3 i (by omega) (by omega) hiB, f1 i (by omega) (by omega) hiA, f4 i (by omega) (by omega) hiA, f2 i (by omega) (by omega) hiB]

theorem swap_facts : ∀ x : Fin 5, ∀ rx : Fin 16, ∀ y : Fin 5, ∀ ry : Fin 16, swapB ((x : Int) - 1) rx ((y : Int) - 1) ry = true →
    ((0 ≤ (x : Int) - 1 → (x : Int) - 1 ≠ (y : Int) - 1 ∧ tb ry ((x : Int) - 1).toNat = false) ∧ (0 ≤ (y : Int) - 1 → tb rx ((y : Int) - 1).toNat = false)) := by decide +kernel
theorem over_facts : ∀ r : Fin 16, ∀ a : Fin 4, bits .and .i64 (r : Int) (bitN (a : Int)) = 0 → tb r (a : Int).toNat = false := by decide +kernel
theorem swap_far {a b : St} (ha : a.ok = true) (hb : b.ok = true) (h : swapOk a b = true) : (0 ≤ a.sets → a.sets ≠ b.sets ∧ tb b.reads a.sets.toNat = false) ∧ (0 ≤ b.sets → tb a.reads b.sets.toNat = false) := by
  have h1 := sets_bd a ha
  have h2 := sets_bd b hb
  have h3 := reads_bd a
  have h4 := reads_bd b
  unfold swapOk at h
  have := swap_facts ⟨(a.sets + 1).toNat, by omega⟩ ⟨a.reads.toNat, by omega⟩ ⟨(b.sets + 1).toNat, by omega⟩ ⟨b.reads.toNat, by omega⟩
  dsimp only at this
  rw [Int.toNat_of_nonneg (by omega), Int.toNat_of_nonneg (by omega), Int.toNat_of_nonneg (by omega), Int.toNat_of_nonneg (by omega), Int.add_sub_cancel, Int.add_sub_cancel] at this
  exact this h
theorem over_far {b : St} {A : Int} (hA : 0 ≤ A ∧ A ≤ 3) (h : bits .and .i64 b.reads (bitN A) = 0) : tb b.reads A.toNat = false := by
  have h4 := reads_bd b
  have := over_facts ⟨b.reads.toNat, by omega⟩ ⟨A.toNat, by omega⟩
  dsimp only at this
  rw [Int.toNat_of_nonneg (by omega), Int.toNat_of_nonneg (by omega)] at this
  exact this h

theorem sets_eq {s : St} (h : s.ok = true) : s.sets = if s.k ≤ 3 then s.a else -1 := by
  unfold St.sets
  by_cases h3 : s.k ≤ 3
  · rw [if_pos ⟨h, h3⟩, if_pos h3]
  · rw [if_neg (fun e => h3 e.2), if_neg h3]
theorem three_swap (p0 p1 p2 q0 q1 q2 f00 f01 f02 f10 f11 f12 f20 f21 f22 : Int) :
    p0 * (q0 * f00 + q1 * f01 + q2 * f02) + p1 * (q0 * f10 + q1 * f11 + q2 * f12) + p2 * (q0 * f20 + q1 * f21 + q2 * f22) =
    q0 * (p0 * f00 + p1 * f10 + p2 * f20) + q1 * (p0 * f01 + p1 * f11 + p2 * f21) + q2 * (p0 * f02 + p1 * f12 + p2 * f22) := by
  simp only [Int.mul_add, Int.mul_left_comm q0, Int.mul_left_comm q1, Int.mul_left_comm q2]
  omega
/-- Two statements of which nothing hangs on which is first. -/
theorem one_swap {a b : St} (ha : a.ok = true) (ha6 : a.k < 6) (hb : b.ok = true) (hb6 : b.k < 6) (h : swapOk a b = true) (f : Int → Int) {st : Int} (hs : 0 ≤ st ∧ st ≤ 80) : one a (one b f) st = one b (one a f) st := by
  obtain ⟨h1, h2⟩ := swap_far ha hb h
  rw [sets_eq ha, sets_eq hb] at h1
  rw [sets_eq hb] at h2
  have hra := ok_rng (k := a.k) (a := a.a) (b := a.b) (c := a.c) (u := a.u) (v := a.v) (x := a.x) ha
  have hrb := ok_rng (k := b.k) (a := b.a) (b := b.b) (c := b.c) (u := b.u) (v := b.v) (x := b.x) hb
  by_cases hka : a.k ≤ 3
  · have hA : 0 ≤ a.a ∧ a.a ≤ 3 := by omega
    rw [if_pos hka] at h1
    have kb := fun y hy x => ker_far hb hb6 hs hA (y := y) hy (h1 hA.1).2 x
    by_cases hkb : b.k ≤ 3
    · have hB : 0 ≤ b.a ∧ b.a ≤ 3 := by omega
      rw [if_pos hkb] at h1 h2
      have ka := fun y hy x => ker_far ha ha6 hs hB (y := y) hy (h2 hB.1) x
      have hne := (h1 hA.1).1
      have hw := fun x hx y hy => with_comm hs hA hB hne (x := x) (y := y) hx hy
      unfold one
      rw [if_pos hka, if_pos hkb]
      simp only [if_pos hka, if_pos hkb]
      rw [kb 0 (by decide), kb 0 (by decide), kb 0 (by decide), kb 1 (by decide), kb 1 (by decide), kb 1 (by decide), kb 2 (by decide), kb 2 (by decide), kb 2 (by decide)]
      rw [ka 0 (by decide), ka 0 (by decide), ka 0 (by decide), ka 1 (by decide), ka 1 (by decide), ka 1 (by decide), ka 2 (by decide), ka 2 (by decide), ka 2 (by decide)]
      rw [hw 0 (by decide) 0 (by decide), hw 0 (by decide) 1 (by decide), hw 0 (by decide) 2 (by decide), hw 1 (by decide) 0 (by decide), hw 1 (by decide) 1 (by decide), hw 1 (by decide) 2 (by decide), hw 2 (by decide) 0 (by decide), hw 2 (by decide) 1 (by decide), hw 2 (by decide) 2 (by decide)]
      exact three_swap _ _ _ _ _ _ _ _ _ _ _ _ _ _ _
    · unfold one
      rw [if_pos hka, if_neg hkb]
      simp only [if_pos hka, if_neg hkb]
      rw [kb 0 (by decide), kb 1 (by decide), kb 2 (by decide), Int.mul_add, Int.mul_add]
      simp only [Int.mul_left_comm]
  · by_cases hkb : b.k ≤ 3
    · have hB : 0 ≤ b.a ∧ b.a ≤ 3 := by omega
      rw [if_pos hkb] at h2
      have ka := fun y hy x => ker_far ha ha6 hs hB (y := y) hy (h2 hB.1) x
      unfold one
      rw [if_neg hka, if_pos hkb]
      simp only [if_neg hka, if_pos hkb]
      rw [ka 0 (by decide), ka 1 (by decide), ka 2 (by decide), Int.mul_add, Int.mul_add]
      simp only [Int.mul_left_comm]
    · unfold one
      rw [if_neg hka, if_neg hkb]
      simp only [if_neg hka, if_neg hkb]
      exact Int.mul_left_comm _ _ _

/-- A change in a window of statements, of which the first one is not the last at the least. -/
theorem chg_one {c : Int} {a b : St} (hc : 0 ≤ c ∧ c ≤ 4) (ha : a.ok = true ∧ a.k < 6) (hb : b.ok = true ∧ b.k < 6) (h : fits c a (some b) = true) (f : Int → Int) {st : Int} (hs : 0 ≤ st ∧ st ≤ 80) :
    facBy c a * val f (chg c a (some b)) 0 st = one a (one b f) st := by
  have hall := chg_ok hc ha (fun b' e => by injection e with e; rw [← e]; exact hb) h
  have v1 : ∀ s : St, s.ok = true ∧ s.k < 6 → ∀ x, 0 ≤ x ∧ x ≤ 80 → val f [s] 0 x = one s f x := fun s hs' x hx => val_one hs'.1 hs'.2 f [] hx
  have v2 : ∀ s t : St, s.ok = true ∧ s.k < 6 → t.ok = true ∧ t.k < 6 → val f [s, t] 0 st = one s (one t f) st := fun s t h1 h2 => by
    rw [val_one h1.1 h1.2 f [t] hs]
    exact one_congr h1.1 hs fun x hx => v1 t h2 x hx
  obtain rfl | rfl | rfl | rfl | rfl : c = 0 ∨ c = 1 ∨ c = 2 ∨ c = 3 ∨ c = 4 := by omega
  · obtain ⟨b', e, _, _, hsw⟩ := fits_0 h
    injection e with e; subst e
    show 1 * val f [b, a] 0 st = _
    rw [v2 b a hb ha, Int.one_mul, one_swap ha.1 ha.2 hb.1 hb.2 hsw f hs]
  · obtain ⟨b', e, hk, hk2, haa, hw⟩ := fits_1 h
    injection e with e; subst e
    show 1 * val f [folded a b] 0 st = _
    rw [v1 _ (hall _ (by simp [chg])) st hs, Int.one_mul]
    have hra := ok_rng (k := a.k) (a := a.a) (b := a.b) (c := a.c) (u := a.u) (v := a.v) (x := a.x) ha.1
    have hA : 0 ≤ a.a ∧ a.a ≤ 3 := by omega
    have hv : ∀ x, (folded a b).wgt x = a.wgt x * b.wgt x := fun x => by
      show (if x = 0 then a.u * b.u else if x = 1 then a.v * b.v else a.x * b.x) = (if x = 0 then a.u else if x = 1 then a.v else a.x) * (if x = 0 then b.u else if x = 1 then b.v else b.x)
      by_cases h0 : x = 0
      · simp [h0]
      · by_cases h1 : x = 1
        · simp [h1]
        · simp [h0, h1]
    unfold one
    rcases hk with hk | hk
    · have e0 := (valueAt_with hs hA (x := 0) (by decide)).1
      have e1 := (valueAt_with hs hA (x := 1) (by decide)).1
      have e2 := (valueAt_with hs hA (x := 2) (by decide)).1
      rw [if_pos (show (folded a b).k ≤ 3 by show a.k ≤ 3; omega), if_pos (show a.k ≤ 3 by omega)]
      simp only [if_neg (show ¬ b.k ≤ 3 by omega)]
      have hf : ∀ x, (folded a b).ker x st = a.wgt x * b.wgt x := fun x => by
        unfold St.ker
        rw [if_neg (show ¬ (folded a b).k = 0 by show ¬ a.k = 0; omega), if_neg (show ¬ (folded a b).k = 1 by show ¬ a.k = 1; omega), if_pos (show (folded a b).k = 2 from hk)]
        exact hv x
      have hka : ∀ x, a.ker x st = a.wgt x := fun x => by unfold St.ker; rw [if_neg (by omega), if_neg (by omega), if_pos hk]
      have hkb : ∀ x st, b.ker x st = b.wgt (valueAt st a.a) := fun x st => by unfold St.ker; rw [if_neg (by omega), if_neg (by omega), if_neg (by omega), if_neg (by omega), if_pos hk2, ← haa]
      rw [hf, hf, hf, hka, hka, hka, hkb, hkb, hkb, e0, e1, e2]
      show a.wgt 0 * b.wgt 0 * f (withValue st a.a 0) + _ + _ = _
      simp only [Int.mul_assoc]
      rfl
    · rw [if_neg (show ¬ (folded a b).k ≤ 3 by show ¬ a.k ≤ 3; omega), if_neg (show ¬ a.k ≤ 3 by omega), if_neg (show ¬ b.k ≤ 3 by omega)]
      have hf : (folded a b).ker 0 st = a.wgt (valueAt st a.a) * b.wgt (valueAt st a.a) := by
        unfold St.ker
        rw [if_neg (show ¬ (folded a b).k = 0 by show ¬ a.k = 0; omega), if_neg (show ¬ (folded a b).k = 1 by show ¬ a.k = 1; omega), if_neg (show ¬ (folded a b).k = 2 by show ¬ a.k = 2; omega), if_neg (show ¬ (folded a b).k = 3 by show ¬ a.k = 3; omega), if_pos (show (folded a b).k = 4 from hk)]
        exact hv _
      have hka : a.ker 0 st = a.wgt (valueAt st a.a) := by unfold St.ker; rw [if_neg (by omega), if_neg (by omega), if_neg (by omega), if_neg (by omega), if_pos hk]
      have hkb : b.ker 0 st = b.wgt (valueAt st a.a) := by unfold St.ker; rw [if_neg (by omega), if_neg (by omega), if_neg (by omega), if_neg (by omega), if_pos hk2, ← haa]
      rw [hf, hka, hkb, Int.mul_assoc]
  · obtain ⟨b', e, hk, hk2, haa, hr⟩ := fits_2 h
    injection e with e; subst e
    show facBy 2 a * val f [b] 0 st = _
    rw [v1 b hb st hs]
    have hra := ok_rng (k := a.k) (a := a.a) (b := a.b) (c := a.c) (u := a.u) (v := a.v) (x := a.x) ha.1
    have hA : 0 ≤ a.a ∧ a.a ≤ 3 := by omega
    have hfar := over_far hA hr
    have hsame : ∀ x, 0 ≤ x ∧ x ≤ 2 → one b f (withValue st a.a x) = one b f st := fun x hx => by
      unfold one
      rw [if_pos hk2, if_pos hk2, ← haa, with_with hs hA hx (by decide), with_with hs hA hx (by decide), with_with hs hA hx (by decide), ker_far hb.1 hb.2 hs hA hx hfar, ker_far hb.1 hb.2 hs hA hx hfar, ker_far hb.1 hb.2 hs hA hx hfar]
    have hsum : a.ker 0 st + a.ker 1 st + a.ker 2 st = facBy 2 a := by
      have hw : ∀ m : Int, 0 ≤ m ∧ m ≤ 2 → a.wgt ((0 + m) % 3) + a.wgt ((1 + m) % 3) + a.wgt ((2 + m) % 3) = a.u + a.v + a.x := fun m hm => by
        unfold St.wgt
        obtain rfl | rfl | rfl : m = 0 ∨ m = 1 ∨ m = 2 := by omega
        all_goals simp
        all_goals omega
      have hot : ∀ m : Int, 0 ≤ m ∧ m ≤ 2 → (if (0 : Int) = m then (1 : Int) else 0) + (if (1 : Int) = m then (1 : Int) else 0) + (if (2 : Int) = m then (1 : Int) else 0) = 1 := fun m hm => by
        obtain rfl | rfl | rfl : m = 0 ∨ m = 1 ∨ m = 2 := by omega
        all_goals decide
      rcases (ok_low ha.2).1 ha.1 with ⟨hk0, _, hb0, hc0, _⟩ | ⟨hk0, ha0, hb0, _⟩ | ⟨hk0, _⟩ | ⟨hk0, _, hb0, _⟩
      · have e1 : facBy 2 a = 1 := by simp [facBy, St.draws, hk0]
        have e2 : ∀ x, a.ker x st = if x = (a.c + if a.b = -1 then 0 else valueAt st a.b) % 3 then 1 else 0 := fun x => by unfold St.ker; rw [if_pos hk0]
        rw [e1, e2, e2, e2]
        exact hot _ (by omega)
      · have e1 : facBy 2 a = 1 := by simp [facBy, St.draws, hk0]
        have e2 : ∀ x, a.ker x st = if x = (valueAt st a.a + valueAt st a.b) % 3 then 1 else 0 := fun x => by unfold St.ker; rw [if_neg (by omega), if_pos hk0]
        rw [e1, e2, e2, e2]
        exact hot _ (by omega)
      · have hk0' : a.k = 2 := by omega
        have e1 : facBy 2 a = a.u + a.v + a.x := by simp [facBy, St.draws, hk0']
        have e2 : ∀ x, a.ker x st = a.wgt x := fun x => by unfold St.ker; rw [if_neg (by omega), if_neg (by omega), if_pos hk0']
        rw [e1, e2, e2, e2]
        unfold St.wgt
        simp
      · have hk0' : a.k = 3 := by omega
        have e1 : facBy 2 a = a.u + a.v + a.x := by simp [facBy, St.draws, hk0']
        have e2 : ∀ x, a.ker x st = a.wgt ((x + valueAt st a.b) % 3) := fun x => by unfold St.ker; rw [if_neg (by omega), if_neg (by omega), if_neg (by omega), if_pos hk0']
        rw [e1, e2, e2, e2]
        exact hw _ (value_bd hs hb0)
    rw [← hsum, one_set hk, hsame 0 (by decide), hsame 1 (by decide), hsame 2 (by decide), ← Int.add_mul, ← Int.add_mul]
  · obtain ⟨h2, _, h1⟩ := fits_3 h
    have hsc := hall (scaled a) (by simp [chg])
    show facBy 3 a * val f [scaled a, b] 0 st = _
    rw [v2 _ b hsc hb]
    have hf : facBy 3 a = com a := if_pos rfl
    obtain ⟨e1, e2, e3, _⟩ := scaled_w ha.1 ha.2 h2
    have hwg : ∀ x, com a * (scaled a).wgt x = a.wgt x := fun x => by
      unfold St.wgt scaled setW
      dsimp only
      split
      · exact e1.symm
      · split
        · exact e2.symm
        · exact e3.symm
    have hke : ∀ x, com a * (scaled a).ker x st = a.ker x st := fun x => by
      unfold St.ker
      rw [if_neg (show ¬ (scaled a).k = 0 by show ¬ a.k = 0; omega), if_neg (show ¬ (scaled a).k = 1 by show ¬ a.k = 1; omega), if_neg (show ¬ a.k = 0 by omega), if_neg (show ¬ a.k = 1 by omega)]
      show com a * (if a.k = 2 then (scaled a).wgt x else if a.k = 3 then (scaled a).wgt ((x + valueAt st a.b) % 3) else if a.k = 4 then (scaled a).wgt (valueAt st a.a) else (scaled a).wgt ((valueAt st a.a + valueAt st a.b) % 3)) = _
      split
      · exact hwg _
      · split
        · exact hwg _
        · split
          · exact hwg _
          · exact hwg _
    rw [hf]
    unfold one
    by_cases hk : a.k ≤ 3
    · rw [if_pos (show (scaled a).k ≤ 3 from hk), if_pos hk, Int.mul_add, Int.mul_add, ← Int.mul_assoc, ← Int.mul_assoc, ← Int.mul_assoc, hke, hke, hke]
      rfl
    · rw [if_neg (show ¬ (scaled a).k ≤ 3 from hk), if_neg hk, ← Int.mul_assoc, hke]
  · obtain ⟨b', e, hk0, hk, hb1, hab⟩ := fits_4 h
    injection e with e; subst e
    have hmv := hall (moved b a.c) (by simp [chg])
    show 1 * val f [a, moved b a.c] 0 st = _
    rw [v2 a _ ha hmv, Int.one_mul]
    have hra := ok_rng (k := a.k) (a := a.a) (b := a.b) (c := a.c) (u := a.u) (v := a.v) (x := a.x) ha.1
    have hrb := ok_rng (k := b.k) (a := b.a) (b := b.b) (c := b.c) (u := b.u) (v := b.v) (x := b.x) hb.1
    have hA : 0 ≤ a.a ∧ a.a ≤ 3 := by omega
    have hcc : 0 ≤ a.c ∧ a.c ≤ 2 := by omega
    have hB : 0 ≤ b.a ∧ b.a ≤ 3 := by omega
    have hne : b.a ≠ b.b := by omega
    have hker : ∀ x, a.ker x st = if x = a.c then 1 else 0 := fun x => by
      unfold St.ker
      rw [if_pos hk0, if_pos hb1, show (a.c + 0) % 3 = a.c by omega]
    have hwg : ∀ x, 0 ≤ x ∧ x ≤ 2 → (moved b a.c).wgt x = b.wgt ((x + a.c) % 3) := fun x hx => by
      unfold moved
      generalize a.c = n at hcc ⊢
      obtain rfl | rfl | rfl : x = 0 ∨ x = 1 ∨ x = 2 := by omega
      · unfold St.wgt; dsimp only; rw [if_pos rfl, show (0 : Int) + n = n by omega]
      · unfold St.wgt; dsimp only; rw [if_neg (by decide), if_pos rfl]
      · unfold St.wgt; dsimp only; rw [if_neg (by decide), if_neg (by decide)]
    have hsame : one (moved b a.c) f (withValue st a.a a.c) = one b f (withValue st a.a a.c) := by
      have hq := with_bd hs hA hcc
      have hv := (valueAt_with hs hA hcc).1
      generalize withValue st a.a a.c = q at hq hv ⊢
      rw [hab] at hv
      unfold one
      rcases hk with hk | hk
      · have hk2 : (moved b a.c).k = 2 := by unfold moved; dsimp only; rw [if_neg (by omega)]
        rw [if_pos (by omega), if_pos (by omega)]
        have k1 : ∀ x, 0 ≤ x ∧ x ≤ 2 → (moved b a.c).ker x q = b.ker x q := fun x hx => by
          unfold St.ker
          rw [if_neg (by omega), if_neg (by omega), if_pos hk2, if_neg (by omega), if_neg (by omega), if_neg (by omega), if_pos hk, hwg x hx, hv]
        rw [k1 0 (by decide), k1 1 (by decide), k1 2 (by decide)]
        rfl
      · have hk4 : (moved b a.c).k = 4 := by unfold moved; dsimp only; rw [if_pos hk]
        rw [if_neg (by omega), if_neg (by omega)]
        have k1 : (moved b a.c).ker 0 q = b.ker 0 q := by
          unfold St.ker
          rw [if_neg (by omega), if_neg (by omega), if_neg (by omega), if_neg (by omega), if_pos hk4, if_neg (by omega), if_neg (by omega), if_neg (by omega), if_neg (by omega), if_neg (by omega), hv]
          exact hwg _ (value_bd hq hB)
        rw [k1]
    have h1 := one_hot hcc (fun x => one (moved b a.c) f (withValue st a.a x))
    have h2 := one_hot hcc (fun x => one b f (withValue st a.a x))
    have hk3 : a.k ≤ 3 := by omega
    rw [one_set hk3, one_set hk3, hker, hker, hker]
    exact h1.trans (hsame.trans h2.symm)
theorem chg_val {c : Int} {a : St} {ob : Option St} (hc : 0 ≤ c ∧ c ≤ 4) (ha : a.ok = true ∧ a.k < 6) (hb : ∀ b, ob = some b → b.ok = true ∧ b.k < 6) (h : fits c a ob = true) (f : Int → Int) {st : Int} (hs : 0 ≤ st ∧ st ≤ 80) :
    facBy c a * val f (chg c a ob) 0 st = val f (a :: ob.toList) 0 st := by
  cases ob with
  | some b =>
    have hb' := hb b rfl
    rw [chg_one hc ha hb' h f hs]
    show _ = val f [a, b] 0 st
    rw [val_one ha.1 ha.2 f [b] hs]
    exact (one_congr ha.1 hs fun x hx => val_one hb'.1 hb'.2 f [] hx).symm
  | none =>
    obtain rfl := fits_none hc h
    obtain ⟨h2, _, h1⟩ := fits_3 h
    have hsc := scaled_ok ha.1 ha.2 h2
    obtain ⟨e1, e2, e3, _⟩ := scaled_w ha.1 ha.2 h2
    show facBy 3 a * val f [scaled a] 0 st = val f [a] 0 st
    rw [val_one hsc.1 hsc.2 f [] hs, val_one ha.1 ha.2 f [] hs]
    have hf : facBy 3 a = com a := if_pos rfl
    have hwg : ∀ x, com a * (scaled a).wgt x = a.wgt x := fun x => by
      unfold St.wgt scaled setW
      dsimp only
      split
      · exact e1.symm
      · split
        · exact e2.symm
        · exact e3.symm
    have hke : ∀ x, com a * (scaled a).ker x st = a.ker x st := fun x => by
      unfold St.ker
      rw [if_neg (show ¬ (scaled a).k = 0 by show ¬ a.k = 0; omega), if_neg (show ¬ (scaled a).k = 1 by show ¬ a.k = 1; omega), if_neg (show ¬ a.k = 0 by omega), if_neg (show ¬ a.k = 1 by omega)]
      show com a * (if a.k = 2 then (scaled a).wgt x else if a.k = 3 then (scaled a).wgt ((x + valueAt st a.b) % 3) else if a.k = 4 then (scaled a).wgt (valueAt st a.a) else (scaled a).wgt ((valueAt st a.a + valueAt st a.b) % 3)) = _
      split
      · exact hwg _
      · split
        · exact hwg _
        · split
          · exact hwg _
          · exact hwg _
    rw [hf]
    unfold one
    by_cases hk : a.k ≤ 3
    · rw [if_pos (show (scaled a).k ≤ 3 from hk), if_pos hk, Int.mul_add, Int.mul_add, ← Int.mul_assoc, ← Int.mul_assoc, ← Int.mul_assoc, hke, hke, hke]
      rfl
    · rw [if_neg (show ¬ (scaled a).k ≤ 3 from hk), if_neg hk, ← Int.mul_assoc, hke]

theorem val_plain {a b : List St} (ha : ∀ s ∈ a, s.ok = true ∧ s.k < 6) (h : Int → Int) (st : Int) : val h (a ++ b) 0 st = val (fun x => val h b 0 x) a 0 st :=
  val_append h a 0 st (Nat.zero_le _) fun i s hs h6 => by have := (ha s (List.mem_of_getElem? hs)).2; omega
/-- A changed program is worth what the program was, by what it was made less. -/
theorem done_val {c : Int} {ps : List St} {i : Nat} {a : St} (hc : 0 ≤ c ∧ c ≤ 4) (hp : plainOk ps = true) (h : fitAt c ps i = true) (ha : ps[i]? = some a) (f : Int → Int) {st : Int} (hs : 0 ≤ st ∧ st ≤ 80) :
    facBy c a * val f (chDone c ps i) 0 st = val f ps 0 st := by
  obtain ⟨a', ha', hf⟩ := fitAt_some h
  rw [ha] at ha'
  obtain rfl : a = a' := by injection ha'
  obtain ⟨h10, hok⟩ := plain_iff.1 hp
  have hoa := hok a (List.mem_of_getElem? ha)
  have hob : ∀ b, ps[i + 1]? = some b → b.ok = true ∧ b.k < 6 := fun b hb => hok b (List.mem_of_getElem? hb)
  have hoT : ∀ s ∈ ps.take i, s.ok = true ∧ s.k < 6 := fun s hs => hok s (List.mem_of_mem_take hs)
  have hoW : ∀ s ∈ a :: ps[i + 1]?.toList, s.ok = true ∧ s.k < 6 := fun s hs => by
    rcases List.mem_cons.1 hs with rfl | hs
    · exact hoa
    · exact hob s (by simpa using hs)
  conv => rhs; rw [split_at ha]
  rw [done_eq ha, List.append_assoc, List.append_assoc, val_plain hoT, val_plain hoT, ← val_mul]
  refine val_congr (fun x h0 h1 => ?_) _ 0 st (fun s hs => (hoT s hs).1) hs
  rw [val_plain (chg_ok hc hoa hob hf), val_plain hoW]
  exact chg_val hc hoa hob hf _ ⟨h0, h1⟩
theorem wts_plain {ps : List St} (hp : plainOk ps = true) {st : Int} (hs : 0 ≤ st ∧ st ≤ 80) : weightsFrom ps st = wts ps st := by
  unfold weightsFrom
  rw [plain_self hp]
  exact if_pos (inB_iff.2 hs)
theorem wts_done {c : Int} {ps : List St} {i : Nat} {a : St} (hc : 0 ≤ c ∧ c ≤ 4) (hp : plainOk ps = true) (h : fitAt c ps i = true) (ha : ps[i]? = some a) {st : Int} (hs : 0 ≤ st ∧ st ≤ 80) :
    wts ps st = (wts (chDone c ps i) st).map fun x => facBy c a * x := by
  unfold wts
  rw [List.map_map]
  refine List.map_congr_left fun q _ => ?_
  exact (done_val hc hp h ha (ind q) hs).symm

/-- What is tidy is plain, is worth the same but for the number told, and cannot be made less. -/
theorem tidyN_all : ∀ (n : Nat) (ps : List St) (f : Int), plainOk ps = true → (masses ps).toNat ≤ n → 1 ≤ f →
    plainOk (tidyN n ps f).1 = true ∧ nextCh (tidyN n ps f).1 = none ∧ 1 ≤ (tidyN n ps f).2 ∧ (tidyN n ps f).2 * sumWs (tidyN n ps f).1 ≤ f * sumWs ps ∧
      ∀ (h : Int → Int) (st : Int), 0 ≤ st ∧ st ≤ 80 → (tidyN n ps f).2 * val h (tidyN n ps f).1 0 st = f * val h ps 0 st
  | 0, ps, f, hp, hn, hf => by
    have hx : nextCh ps = none := by
      cases hx : nextCh ps with
      | none => rfl
      | some p =>
        obtain ⟨c, i⟩ := p
        obtain ⟨hc, hfit⟩ := next_fit hx
        have h1 := done_less hc hp hfit
        have h2 := done_plain ⟨by omega, hc.2⟩ hp hfit
        have h3 := (masses_bd (plain_iff.1 h2).2).1
        omega
    exact ⟨hp, hx, hf, Int.le_refl _, fun _ _ _ => rfl⟩
  | n + 1, ps, f, hp, hn, hf => by
    cases hx : nextCh ps with
    | none =>
      have e : tidyN (n + 1) ps f = (ps, f) := by simp [tidyN, hx]
      rw [e]
      exact ⟨hp, hx, hf, Int.le_refl _, fun _ _ _ => rfl⟩
    | some p =>
      obtain ⟨c, i⟩ := p
      obtain ⟨hc, hfit⟩ := next_fit hx
      obtain ⟨a, ha, hfa⟩ := fitAt_some hfit
      have hg : ps.getD i ⟨0, 0, 0, 0, 0, 0, 0⟩ = a := by rw [List.getD_eq_getElem?_getD, ha]; rfl
      have hc' : 0 ≤ c ∧ c ≤ 4 := ⟨by omega, hc.2⟩
      have h1 := done_less hc hp hfit
      have h2 := done_plain hc' hp hfit
      have hoa := (plain_iff.1 hp).2 a (List.mem_of_getElem? ha)
      have hfp := (fac_pos hc' hoa hfa).1
      simp only [tidyN, hx, hg]
      have h3 : 1 ≤ f * facBy c a := by
        have := Int.mul_le_mul hf hfp (by omega) (by omega)
        omega
      have h4 := (masses_bd (plain_iff.1 h2).2).1
      obtain ⟨k1, k2, k3, k4, k5⟩ := tidyN_all n (chDone c ps i) (f * facBy c a) h2 (by omega) h3
      refine ⟨k1, k2, k3, Int.le_trans k4 ?_, fun h st hs => ?_⟩
      · rw [Int.mul_assoc]
        exact Int.mul_le_mul_of_nonneg_left (done_sumW hc' hp hfit ha) (by omega)
      · rw [k5 h st hs, Int.mul_assoc, done_val hc' hp hfit ha h hs]
end Go.Proofs.Ytkibkmheomlafaa
