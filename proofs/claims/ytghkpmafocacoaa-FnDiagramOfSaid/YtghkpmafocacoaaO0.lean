/- Diagrams, plain: cells, whether they are a diagram, the numbers to which they lead, the least diagram of numbers, products by pairs of cells, sums. -/
import Derived.Test.YtghkpmafocacoaaSc
namespace Go.Proofs.Ytghkpmafocacoaa
set_option maxRecDepth 100000
set_option linter.unusedVariables false
open Go.RowKit

/-- A cell of a diagram. -/
structure Ce where
  v : Int
  n : Int
  a : Int
  b : Int
  c : Int
theorem ce_inj {s t : Ce} : (s.v = t.v ∧ s.n = t.n ∧ s.a = t.a ∧ s.b = t.b ∧ s.c = t.c) ↔ s = t := by
  constructor
  · rintro ⟨h1, h2, h3, h4, h5⟩
    cases s; cases t; simp_all
  · rintro rfl
    exact ⟨rfl, rfl, rfl, rfl, rfl⟩
instance ceDec : DecidableEq Ce := fun s t => decidable_of_iff _ (ce_inj (s := s) (t := t))
def ce0 : Ce := ⟨0, 0, 0, 0, 0⟩
/-- the level of a cell: its variable, or 4 -/
def Ce.lev (c : Ce) : Int := if c.v = -1 then 4 else c.v
def Ce.kid (c : Ce) (x : Nat) : Int := if x = 0 then c.a else if x = 1 then c.b else c.c
/-- the cell at an index -/
def gt (ds : List Ce) (i : Nat) : Ce := ds.getD i ce0
def kOk (ds : List Ce) (v k : Int) : Bool := inB k 0 ((ds.length : Int) - 1) && decide (v < (gt ds k.toNat).lev)
/-- whether a cell is one behind others -/
def cOk (c : Ce) (ds : List Ce) : Bool :=
  if c.v = -1 then inB c.n 0 1000000000 && (c.a == 0 && c.b == 0 && c.c == 0)
  else inB c.v 0 3 && c.n == 0 && (kOk ds c.v c.a && kOk ds c.v c.b && kOk ds c.v c.c)
/-- whether the first k cells are -/
def allOk (ds : List Ce) (k : Nat) : Bool := (List.range k).all fun i => cOk (gt ds i) (ds.take i)
def diaOk (ds : List Ce) : Bool := inB ds.length 1 121 && allOk ds ds.length
theorem allOk_succ (ds : List Ce) (k : Nat) : allOk ds (k + 1) = (allOk ds k && cOk (gt ds k) (ds.take k)) := by
  unfold allOk
  rw [List.range_succ, List.all_append]
  simp
theorem allOk_no {ds : List Ce} {k m : Nat} (h : cOk (gt ds k) (ds.take k) = false) (hk : k < m) : allOk ds m = false := by
  unfold allOk
  rw [List.all_eq_false]
  exact ⟨k, List.mem_range.2 hk, by simp [h]⟩
theorem allOk_at {ds : List Ce} {m i : Nat} (h : allOk ds m = true) (hi : i < m) : cOk (gt ds i) (ds.take i) = true := by
  unfold allOk at h
  rw [List.all_eq_true] at h
  exact h i (List.mem_range.2 hi)
theorem gt_get {ds : List Ce} {i : Nat} {s : Ce} (h : ds[i]? = some s) : gt ds i = s := by unfold gt; rw [List.getD_eq_getElem?_getD, h]; rfl
theorem gt_some {ds : List Ce} {i : Nat} (h : i < ds.length) : ds[i]? = some (gt ds i) := by
  unfold gt
  rw [List.getD_eq_getElem?_getD, List.getElem?_eq_getElem h]; rfl
theorem gt_take {ds : List Ce} {i k : Nat} (h : i < k) : gt (ds.take k) i = gt ds i := by
  unfold gt
  rw [List.getD_eq_getElem?_getD, List.getD_eq_getElem?_getD, List.getElem?_take, if_pos h]
theorem gt_left {ds t : List Ce} {i : Nat} (h : i < ds.length) : gt (ds ++ t) i = gt ds i := by
  unfold gt
  rw [List.getD_eq_getElem?_getD, List.getD_eq_getElem?_getD, List.getElem?_append_left h]
theorem kid_cases {P : Int → Prop} {c : Ce} {x : Nat} (ha : P c.a) (hb : P c.b) (hc : P c.c) : P (c.kid x) := by
  unfold Ce.kid
  split
  · exact ha
  split
  · exact hb
  · exact hc
theorem lev_le {c : Ce} {ds : List Ce} (h : cOk c ds = true) : 0 ≤ c.lev ∧ c.lev ≤ 4 ∧ (c.v = -1 ↔ c.lev = 4) := by
  unfold cOk at h
  unfold Ce.lev
  split at h
  · rename_i hv
    rw [if_pos hv]
    exact ⟨by decide, by decide, fun _ => rfl, fun _ => hv⟩
  · rename_i hv
    simp only [Bool.and_eq_true] at h
    have := inB_iff.1 h.1.1
    rw [if_neg hv]
    exact ⟨by omega, by omega, fun e => absurd e hv, fun e => by omega⟩
theorem kOk_iff {ds : List Ce} {v k : Int} : kOk ds v k = true ↔ (0 ≤ k ∧ k ≤ (ds.length : Int) - 1) ∧ v < (gt ds k.toNat).lev := by
  unfold kOk
  rw [Bool.and_eq_true, inB_iff, decide_eq_true_eq]
theorem cOk_var {c : Ce} {ds : List Ce} (h : cOk c ds = true) (hv : c.v ≠ -1) : 0 ≤ c.v ∧ c.v ≤ 3 ∧ c.n = 0 ∧ ∀ x, kOk ds c.v (c.kid x) = true := by
  unfold cOk at h
  rw [if_neg hv] at h
  simp only [Bool.and_eq_true, beq_iff_eq] at h
  have := inB_iff.1 h.1.1
  exact ⟨this.1, this.2, h.1.2, fun x => kid_cases (P := fun k => kOk ds c.v k = true) h.2.1.1 h.2.1.2 h.2.2⟩
theorem cOk_num {c : Ce} {ds : List Ce} (h : cOk c ds = true) (hv : c.v = -1) : 0 ≤ c.n ∧ c.n ≤ 1000000000 ∧ c = ⟨-1, c.n, 0, 0, 0⟩ := by
  unfold cOk at h
  rw [if_pos hv] at h
  simp only [Bool.and_eq_true, beq_iff_eq] at h
  have := inB_iff.1 h.1
  exact ⟨this.1, this.2, ce_inj.1 ⟨hv, rfl, h.2.1.1, h.2.1.2, h.2.2⟩⟩

/-- the digit of a state -/
def dig (s v : Nat) : Nat := s / 3 ^ v % 3
/-- the number to which kids lead in at most so many steps -/
def led (ds : List Ce) (s : Nat) : Nat → Nat → Int
  | 0, _ => 0
  | f + 1, i => if (gt ds i).v = -1 then (gt ds i).n else led ds s f ((gt ds i).kid (dig s (gt ds i).v.toNat)).toNat
def num (ds : List Ce) (s i : Nat) : Int := led ds s (i + 1) i
/-- What is asked of cells, less the bounds of their numbers: kids are ahead, their levels greater. -/
def Up (ds : List Ce) : Prop := ∀ i, i < ds.length → (gt ds i).v ≠ -1 → (0 ≤ (gt ds i).v ∧ (gt ds i).v ≤ 3) ∧ ∀ x, 0 ≤ (gt ds i).kid x ∧ (gt ds i).kid x < i ∧ (gt ds i).v < (gt ds ((gt ds i).kid x).toNat).lev
theorem up_of {ds : List Ce} (h : allOk ds ds.length = true) : Up ds := by
  intro i hi hv
  obtain ⟨h1, h2, _, h4⟩ := cOk_var (allOk_at h hi) hv
  refine ⟨⟨h1, h2⟩, fun x => ?_⟩
  obtain ⟨⟨h5, h6⟩, h7⟩ := kOk_iff.1 (h4 x)
  rw [List.length_take] at h6
  have h8 : (gt ds i).kid x < i := by omega
  rw [gt_take (by omega)] at h7
  exact ⟨h5, h8, h7⟩
theorem led_more {ds : List Ce} (h : Up ds) (s : Nat) : ∀ i, i < ds.length → ∀ f, i < f → led ds s f i = led ds s (i + 1) i := by
  intro i
  induction i using Nat.strongRecOn with
  | _ i ih =>
    intro hi f hf
    obtain ⟨f, rfl⟩ : ∃ g, f = g + 1 := ⟨f - 1, by omega⟩
    unfold led
    split
    · rfl
    · rename_i hv
      obtain ⟨_, hk⟩ := h i hi hv
      obtain ⟨h1, h2, _⟩ := hk (dig s (gt ds i).v.toNat)
      generalize (gt ds i).kid (dig s (gt ds i).v.toNat) = k at h1 h2 ⊢
      rw [ih k.toNat (by omega) (by omega) f (by omega), ih k.toNat (by omega) (by omega) i (by omega)]
theorem num_leaf {ds : List Ce} {i : Nat} (hv : (gt ds i).v = -1) (s : Nat) : num ds s i = (gt ds i).n := by
  unfold num led
  rw [if_pos hv]
theorem num_step {ds : List Ce} (h : Up ds) {i : Nat} (hi : i < ds.length) (hv : (gt ds i).v ≠ -1) (s : Nat) : num ds s i = num ds s ((gt ds i).kid (dig s (gt ds i).v.toNat)).toNat := by
  obtain ⟨_, hk⟩ := h i hi hv
  obtain ⟨h1, h2, _⟩ := hk (dig s (gt ds i).v.toNat)
  unfold num
  rw [led, if_neg hv, led_more h s _ (by omega) i (by omega)]
/-- A number hangs on the variables from the cell's level on alone. -/
theorem num_agree {ds : List Ce} (h : Up ds) {s s' : Nat} : ∀ i, i < ds.length → (∀ v : Nat, (gt ds i).lev ≤ v → v ≤ 3 → dig s v = dig s' v) → num ds s i = num ds s' i := by
  intro i
  induction i using Nat.strongRecOn with
  | _ i ih =>
    intro hi hd
    by_cases hv : (gt ds i).v = -1
    · rw [num_leaf hv, num_leaf hv]
    · obtain ⟨⟨hv0, hv3⟩, hk⟩ := h i hi hv
      have hl : (gt ds i).lev = (gt ds i).v := if_neg hv
      have he : dig s (gt ds i).v.toNat = dig s' (gt ds i).v.toNat := hd _ (by omega) (by omega)
      rw [num_step h hi hv, num_step h hi hv, ← he]
      obtain ⟨h1, h2, h3⟩ := hk (dig s (gt ds i).v.toNat)
      exact ih _ (by omega) (by omega) fun v hv1 hv2 => hd v (by omega) hv2
/-- Cells put behind change no number. -/
theorem num_more {ds t : List Ce} (h : Up ds) (s : Nat) : ∀ i, i < ds.length → num (ds ++ t) s i = num ds s i := by
  have hk : ∀ i, i < ds.length → ∀ f, led (ds ++ t) s f i = led ds s f i := by
    intro i
    induction i using Nat.strongRecOn with
    | _ i ih =>
      intro hi f
      cases f with
      | zero => rfl
      | succ f =>
        unfold led
        rw [gt_left hi]
        split
        · rfl
        · rename_i hv
          obtain ⟨_, hk⟩ := h i hi hv
          obtain ⟨h1, h2, _⟩ := hk (dig s (gt ds i).v.toNat)
          exact ih _ (by omega) (by omega) f
  intro i hi
  exact hk i hi _
theorem num_bd {ds : List Ce} (h : allOk ds ds.length = true) (s : Nat) : ∀ i, i < ds.length → 0 ≤ num ds s i ∧ num ds s i ≤ 1000000000 := by
  intro i
  induction i using Nat.strongRecOn with
  | _ i ih =>
    intro hi
    by_cases hv : (gt ds i).v = -1
    · rw [num_leaf hv]
      have := cOk_num (allOk_at h hi) hv
      exact ⟨this.1, this.2.1⟩
    · rw [num_step (up_of h) hi hv]
      obtain ⟨_, hk⟩ := (up_of h) i hi hv
      obtain ⟨h1, h2, _⟩ := hk (dig s (gt ds i).v.toNat)
      exact ih _ (by omega) (by omega)

/-- A cell put behind others, if it is not there. -/
def cput (ds : List Ce) (c : Ce) : List Ce × Nat := (if c ∈ ds then ds else ds ++ [c], ds.idxOf c)
def cvar (ds : List Ce) (v a b c : Nat) : List Ce × Nat := if b = a ∧ c = a then (ds, a) else cput ds ⟨v, 0, a, b, c⟩
def cnum (x : Int) : Ce := ⟨-1, x, 0, 0, 0⟩
/-- The cells of the last r variables' values, and the one that stands for them. -/
def mkC (f : Nat → Int) : Nat → List Ce → Nat → List Ce × Nat
  | 0, ds, s => cput ds (cnum (f s))
  | r + 1, ds, s => cvar (mkC f r (mkC f r (mkC f r ds s).1 (s + 3 ^ (3 - r))).1 (s + 2 * 3 ^ (3 - r))).1 (3 - r) (mkC f r ds s).2 (mkC f r (mkC f r ds s).1 (s + 3 ^ (3 - r))).2 (mkC f r (mkC f r (mkC f r ds s).1 (s + 3 ^ (3 - r))).1 (s + 2 * 3 ^ (3 - r))).2
theorem cput_sub (ds : List Ce) (c : Ce) : ∃ t, (cput ds c).1 = ds ++ t := by
  unfold cput
  dsimp only
  split
  · exact ⟨[], by simp⟩
  · exact ⟨[c], rfl⟩
theorem cvar_sub (ds : List Ce) (v a b c : Nat) : ∃ t, (cvar ds v a b c).1 = ds ++ t := by
  unfold cvar
  split
  · exact ⟨[], by simp⟩
  · exact cput_sub _ _
theorem mk_sub (f : Nat → Int) : ∀ (r : Nat) (ds : List Ce) (s : Nat), ∃ t, (mkC f r ds s).1 = ds ++ t
  | 0, ds, s => cput_sub _ _
  | r + 1, ds, s => by
    rw [mkC]
    obtain ⟨t1, h1⟩ := mk_sub f r ds s
    obtain ⟨t2, h2⟩ := mk_sub f r (mkC f r ds s).1 (s + 3 ^ (3 - r))
    obtain ⟨t3, h3⟩ := mk_sub f r (mkC f r (mkC f r ds s).1 (s + 3 ^ (3 - r))).1 (s + 2 * 3 ^ (3 - r))
    obtain ⟨t4, h4⟩ := cvar_sub (mkC f r (mkC f r (mkC f r ds s).1 (s + 3 ^ (3 - r))).1 (s + 2 * 3 ^ (3 - r))).1 (3 - r) (mkC f r ds s).2 (mkC f r (mkC f r ds s).1 (s + 3 ^ (3 - r))).2 (mkC f r (mkC f r (mkC f r ds s).1 (s + 3 ^ (3 - r))).1 (s + 2 * 3 ^ (3 - r))).2
    exact ⟨t1 ++ (t2 ++ (t3 ++ t4)), by rw [h4, h3, h2, h1]; simp⟩
theorem cput_mem (ds : List Ce) (c : Ce) : c ∈ (cput ds c).1 := by
  unfold cput
  dsimp only
  split
  · assumption
  · simp
theorem cput_in {ds : List Ce} {c : Ce} (h : c ∈ ds) (t : List Ce) : cput (ds ++ t) c = (ds ++ t, ds.idxOf c) := by
  unfold cput
  rw [if_pos (List.mem_append_left _ h), List.idxOf_append, if_pos h]
theorem cput_idx (ds : List Ce) (c : Ce) : (cput ds c).1.idxOf c = (cput ds c).2 := by
  unfold cput
  dsimp only
  split
  · rfl
  · rename_i h
    rw [List.idxOf_append, if_neg h, List.idxOf_eq_length h]
    simp
theorem cput_again (ds t : List Ce) (c : Ce) : cput ((cput ds c).1 ++ t) c = ((cput ds c).1 ++ t, (cput ds c).2) := by
  rw [cput_in (cput_mem ds c), cput_idx]
theorem cput_lt (ds : List Ce) (c : Ce) : (cput ds c).2 < (cput ds c).1.length := by
  rw [← cput_idx]
  exact List.idxOf_lt_length_iff.2 (cput_mem ds c)
theorem cput_get (ds : List Ce) (c : Ce) : gt (cput ds c).1 (cput ds c).2 = c := by
  have h := cput_lt ds c
  have h2 := cput_idx ds c
  have h3 : (cput ds c).1.idxOf c < (cput ds c).1.length := by rw [h2]; exact h
  have := List.getElem_idxOf h3
  refine gt_get ?_
  rw [← h2, List.getElem?_eq_getElem h3, this]
theorem cput_len (ds : List Ce) (c : Ce) : (cput ds c).1.length ≤ ds.length + 1 := by
  unfold cput
  dsimp only
  split
  · omega
  · simp
theorem cvar_len (ds : List Ce) (v a b c : Nat) : (cvar ds v a b c).1.length ≤ ds.length + 1 := by
  unfold cvar
  split
  · simp
  · exact cput_len _ _
/-- how many cells r variables may need -/
def nc : Nat → Nat
  | 0 => 1
  | r + 1 => 3 * nc r + 1
theorem mk_len (f : Nat → Int) : ∀ (r : Nat) (ds : List Ce) (s : Nat), (mkC f r ds s).1.length ≤ ds.length + nc r
  | 0, ds, s => cput_len _ _
  | r + 1, ds, s => by
    rw [mkC]
    have h1 := mk_len f r ds s
    have h2 := mk_len f r (mkC f r ds s).1 (s + 3 ^ (3 - r))
    have h3 := mk_len f r (mkC f r (mkC f r ds s).1 (s + 3 ^ (3 - r))).1 (s + 2 * 3 ^ (3 - r))
    have h4 := cvar_len (mkC f r (mkC f r (mkC f r ds s).1 (s + 3 ^ (3 - r))).1 (s + 2 * 3 ^ (3 - r))).1 (3 - r) (mkC f r ds s).2 (mkC f r (mkC f r ds s).1 (s + 3 ^ (3 - r))).2 (mkC f r (mkC f r (mkC f r ds s).1 (s + 3 ^ (3 - r))).1 (s + 2 * 3 ^ (3 - r))).2
    rw [nc]
    omega
/-- What is there is not put there again. -/
theorem mk_ext (f : Nat → Int) : ∀ (r : Nat) (ds : List Ce) (s : Nat) (t : List Ce), mkC f r ((mkC f r ds s).1 ++ t) s = ((mkC f r ds s).1 ++ t, (mkC f r ds s).2)
  | 0, ds, s, t => cput_again _ _ _
  | r + 1, ds, s, t => by
    have e1 := mk_ext f r ds s
    obtain ⟨t2, h2⟩ := mk_sub f r (mkC f r ds s).1 (s + 3 ^ (3 - r))
    have e2 := mk_ext f r (mkC f r ds s).1 (s + 3 ^ (3 - r))
    obtain ⟨t3, h3⟩ := mk_sub f r (mkC f r (mkC f r ds s).1 (s + 3 ^ (3 - r))).1 (s + 2 * 3 ^ (3 - r))
    have e3 := mk_ext f r (mkC f r (mkC f r ds s).1 (s + 3 ^ (3 - r))).1 (s + 2 * 3 ^ (3 - r))
    rw [mkC, mkC]
    generalize mkC f r ds s = P at *
    generalize mkC f r P.1 (s + 3 ^ (3 - r)) = Q at *
    generalize mkC f r Q.1 (s + 2 * 3 ^ (3 - r)) = T at *
    obtain ⟨t4, h4⟩ := cvar_sub T.1 (3 - r) P.2 Q.2 T.2
    have g1 : (cvar T.1 (3 - r) P.2 Q.2 T.2).1 ++ t = T.1 ++ (t4 ++ t) := by rw [h4]; simp
    have g2 : T.1 ++ (t4 ++ t) = Q.1 ++ (t3 ++ (t4 ++ t)) := by rw [h3]; simp
    have g3 : Q.1 ++ (t3 ++ (t4 ++ t)) = P.1 ++ (t2 ++ (t3 ++ (t4 ++ t))) := by rw [h2]; simp
    have k1 : mkC f r ((cvar T.1 (3 - r) P.2 Q.2 T.2).1 ++ t) s = ((cvar T.1 (3 - r) P.2 Q.2 T.2).1 ++ t, P.2) := by rw [g1, g2, g3]; exact e1 _
    have k2 : mkC f r ((cvar T.1 (3 - r) P.2 Q.2 T.2).1 ++ t) (s + 3 ^ (3 - r)) = ((cvar T.1 (3 - r) P.2 Q.2 T.2).1 ++ t, Q.2) := by rw [g1, g2]; exact e2 _
    have k3 : mkC f r ((cvar T.1 (3 - r) P.2 Q.2 T.2).1 ++ t) (s + 2 * 3 ^ (3 - r)) = ((cvar T.1 (3 - r) P.2 Q.2 T.2).1 ++ t, T.2) := by rw [g1]; exact e3 _
    rw [k1, k2, k3]
    unfold cvar
    split
    · rfl
    · exact cput_again _ _ _
/-- Two functions tell the same of r variables. -/
def Ag (r : Nat) (f f' : Nat → Int) (s s' : Nat) : Prop := ∀ t, t < 3 ^ r → f (s + t * 3 ^ (4 - r)) = f' (s' + t * 3 ^ (4 - r))
theorem Ag.kid {r : Nat} {f f' : Nat → Int} {s s' : Nat} (h : Ag (r + 1) f f' s s') (hr : r ≤ 3) {x : Nat} (hx : x < 3) : Ag r f f' (s + x * 3 ^ (3 - r)) (s' + x * 3 ^ (3 - r)) := by
  intro t ht
  have e : 3 ^ (4 - r) = 3 * 3 ^ (3 - r) := by
    rw [show 4 - r = (3 - r) + 1 by omega, Nat.pow_succ]; omega
  have h2 : 3 ^ (r + 1) = 3 * 3 ^ r := by rw [Nat.pow_succ]; omega
  have := h (x + 3 * t) (by omega)
  rw [show 4 - (r + 1) = 3 - r by omega] at this
  rw [e]
  generalize 3 ^ (3 - r) = m at *
  rw [show s + x * m + t * (3 * m) = s + (x + 3 * t) * m by rw [Nat.add_mul, Nat.mul_comm 3 t, Nat.mul_assoc]; omega, show s' + x * m + t * (3 * m) = s' + (x + 3 * t) * m by rw [Nat.add_mul, Nat.mul_comm 3 t, Nat.mul_assoc]; omega]
  exact this
theorem mk_congr {f f' : Nat → Int} : ∀ (r : Nat) (ds : List Ce) (s s' : Nat), r ≤ 4 → Ag r f f' s s' → mkC f r ds s = mkC f' r ds s'
  | 0, ds, s, s', _, h => by
    have := h 0 (by decide)
    simp at this
    rw [mkC, mkC, this]
  | r + 1, ds, s, s', hr, h => by
    have h0 := h.kid (by omega) (x := 0) (by decide)
    have h1 := h.kid (by omega) (x := 1) (by decide)
    have h2 := h.kid (by omega) (x := 2) (by decide)
    rw [Nat.zero_mul, Nat.add_zero, Nat.add_zero] at h0
    rw [Nat.one_mul] at h1
    rw [mkC, mkC, mk_congr r ds s s' (by omega) h0, mk_congr r _ (s + 3 ^ (3 - r)) (s' + 3 ^ (3 - r)) (by omega) h1, mk_congr r _ (s + 2 * 3 ^ (3 - r)) (s' + 2 * 3 ^ (3 - r)) (by omega) h2]
/-- A variable on which nothing hangs is passed over. -/
theorem mk_skip {f : Nat → Int} {r : Nat} (ds : List Ce) {s : Nat} (hr : r ≤ 3) (h1 : Ag r f f s (s + 3 ^ (3 - r))) (h2 : Ag r f f s (s + 2 * 3 ^ (3 - r))) : mkC f (r + 1) ds s = mkC f r ds s := by
  have e : mkC f r (mkC f r ds s).1 s = ((mkC f r ds s).1, (mkC f r ds s).2) := by
    have := mk_ext f r ds s []
    rwa [List.append_nil] at this
  rw [mkC, ← mk_congr r (mkC f r ds s).1 s _ (by omega) h1, e]
  dsimp only
  rw [← mk_congr r (mkC f r ds s).1 s _ (by omega) h2, e]
  unfold cvar
  rw [if_pos ⟨rfl, rfl⟩]
theorem dig_here {x v t : Nat} (hx : x < 3) (hv : v ≤ 3) : dig (x * 3 ^ v + t * 3 ^ (v + 1)) v = x := by
  unfold dig
  obtain rfl | rfl | rfl | rfl : v = 0 ∨ v = 1 ∨ v = 2 ∨ v = 3 := by omega
  all_goals
    simp only [Nat.reduceAdd, Nat.reducePow]
    omega
theorem dig_past {x v u t : Nat} (hx : x < 3) (hv : v < u) (hu : u ≤ 3) : dig (x * 3 ^ v + t * 3 ^ (v + 1)) u = dig (t * 3 ^ (v + 1)) u := by
  unfold dig
  obtain ⟨rfl, rfl⟩ | ⟨rfl, rfl⟩ | ⟨rfl, rfl⟩ | ⟨rfl, rfl⟩ | ⟨rfl, rfl⟩ | ⟨rfl, rfl⟩ : (v = 0 ∧ u = 1) ∨ (v = 0 ∧ u = 2) ∨ (v = 0 ∧ u = 3) ∨ (v = 1 ∧ u = 2) ∨ (v = 1 ∧ u = 3) ∨ (v = 2 ∧ u = 3) := by omega
  all_goals
    simp only [Nat.reduceAdd, Nat.reducePow]
    omega
/-- A function that hangs on the variables from one on alone. -/
def Lv (f : Nat → Int) (v : Nat) : Prop := ∀ s s', (∀ u, v ≤ u → u ≤ 3 → dig s u = dig s' u) → f s = f s'
theorem mk_pass {f : Nat → Int} {v' : Nat} (h : Lv f v') (hv' : v' ≤ 4) (ds : List Ce) : ∀ k v, v + k = v' → mkC f (4 - v) ds 0 = mkC f (4 - v') ds 0
  | 0, v, e => by rw [show v = v' by omega]
  | k + 1, v, e => by
    have hv : v ≤ 3 := by omega
    have hs : ∀ x, x < 3 → Ag (3 - v) f f 0 (0 + x * 3 ^ v) := fun x hx t _ => by
      rw [show 4 - (3 - v) = v + 1 by omega, Nat.zero_add, Nat.zero_add]
      exact (h _ _ fun u hu1 hu2 => dig_past hx (by omega) hu2).symm
    have h1 := hs 1 (by decide)
    have h2 := hs 2 (by decide)
    rw [Nat.one_mul] at h1
    have := mk_skip (f := f) (r := 3 - v) ds (s := 0) (by omega) (by rw [show 3 - (3 - v) = v by omega]; exact h1) (by rw [show 3 - (3 - v) = v by omega]; exact h2)
    rw [show 4 - v = 3 - v + 1 by omega, this, show 3 - v = 4 - (v + 1) by omega]
    exact mk_pass h hv' ds k (v + 1) (by omega)
/-- which cell stands for a value of a variable -/
def kf (ds : List Ce) (i v x : Nat) : Nat := if (gt ds i).v = v then ((gt ds i).kid x).toNat else i
theorem kf_ok {ds : List Ce} (h : Up ds) {i v x : Nat} (hi : i < ds.length) (hl : (v : Int) ≤ (gt ds i).lev) (hv : v ≤ 3) : kf ds i v x < ds.length ∧ (v : Int) < (gt ds (kf ds i v x)).lev ∧ kf ds i v x ≤ i ∧ ((gt ds i).v = v → kf ds i v x < i) := by
  unfold kf
  split
  · rename_i e
    obtain ⟨_, hk⟩ := h i hi (by omega)
    obtain ⟨h1, h2, h3⟩ := hk x
    exact ⟨by omega, by omega, by omega, fun _ => by omega⟩
  · rename_i e
    refine ⟨hi, ?_, Nat.le_refl _, fun q => absurd q e⟩
    unfold Ce.lev at hl ⊢
    split at hl
    · rename_i q
      rw [if_pos q]
      omega
    · rename_i q
      rw [if_neg q]
      omega
theorem num_kf {ds : List Ce} (h : Up ds) {i v x t : Nat} (hi : i < ds.length) (hl : (v : Int) ≤ (gt ds i).lev) (hv : v ≤ 3) (hx : x < 3) :
    num ds (x * 3 ^ v + t * 3 ^ (v + 1)) i = num ds (t * 3 ^ (v + 1)) (kf ds i v x) := by
  obtain ⟨k1, k2, _⟩ := kf_ok h (x := x) hi hl hv
  have hpast : num ds (x * 3 ^ v + t * 3 ^ (v + 1)) (kf ds i v x) = num ds (t * 3 ^ (v + 1)) (kf ds i v x) := num_agree h _ k1 fun u hu1 hu2 => dig_past hx (by omega) hu2
  rw [← hpast]
  unfold kf
  split
  · rename_i e
    rw [num_step h hi (by omega), e, Int.toNat_natCast, dig_here hx hv]
  · rfl
/-- the level of a pair of cells -/
def plv (d e : List Ce) (i j : Nat) : Nat := (min (gt d i).lev (gt e j).lev).toNat
def gp (d e : List Ce) (i j : Nat) (s : Nat) : Int := num d s i * num e s j
/-- the cells of a product, and the one that stands for it -/
def pm (d e : List Ce) (ds : List Ce) (i j : Nat) : List Ce × Nat := mkC (gp d e i j) (4 - plv d e i j) ds 0
theorem lev_bd {ds : List Ce} (h : Up ds) {i : Nat} (hi : i < ds.length) : 0 ≤ (gt ds i).lev ∧ (gt ds i).lev ≤ 4 ∧ ((gt ds i).v = -1 ↔ (gt ds i).lev = 4) := by
  unfold Ce.lev
  split
  · rename_i hv
    exact ⟨by decide, by decide, fun _ => rfl, fun _ => hv⟩
  · rename_i hv
    have := (h i hi hv).1
    exact ⟨by omega, by omega, fun e => absurd e hv, fun e => by omega⟩
theorem plv_bd {d e : List Ce} (hd : Up d) (he : Up e) {i j : Nat} (hi : i < d.length) (hj : j < e.length) : (plv d e i j : Int) = min (gt d i).lev (gt e j).lev ∧ plv d e i j ≤ 4 := by
  have h1 := lev_bd hd hi
  have h2 := lev_bd he hj
  unfold plv
  omega
theorem gp_lv {d e : List Ce} (hd : Up d) (he : Up e) {i j v : Nat} (hi : i < d.length) (hj : j < e.length) (hv : v ≤ plv d e i j) : Lv (gp d e i j) v := by
  intro s s' h
  have hp := plv_bd hd he hi hj
  unfold gp
  rw [num_agree hd i hi (s' := s') fun u h1 h2 => h u (by omega) h2, num_agree he j hj (s' := s') fun u h1 h2 => h u (by omega) h2]
theorem pm_leaf {d e : List Ce} (hd : Up d) (he : Up e) {i j : Nat} (hi : i < d.length) (hj : j < e.length) (hv : plv d e i j = 4) (ds : List Ce) : pm d e ds i j = cput ds (cnum ((gt d i).n * (gt e j).n)) := by
  have h1 := lev_bd hd hi
  have h2 := lev_bd he hj
  have hp := plv_bd hd he hi hj
  unfold pm
  rw [hv, mkC]
  unfold gp
  rw [num_leaf (by omega), num_leaf (by omega)]
theorem pm_kid {d e : List Ce} (hd : Up d) (he : Up e) {i j : Nat} (hi : i < d.length) (hj : j < e.length) (hv : plv d e i j ≤ 3) (ds : List Ce) {x : Nat} (hx : x < 3) :
    mkC (gp d e i j) (3 - plv d e i j) ds (x * 3 ^ plv d e i j) = pm d e ds (kf d i (plv d e i j) x) (kf e j (plv d e i j) x) := by
  have hp := plv_bd hd he hi hj
  obtain ⟨k1, k2, _⟩ := kf_ok hd (x := x) hi (v := plv d e i j) (by omega) hv
  obtain ⟨k3, k4, _⟩ := kf_ok he (x := x) hj (v := plv d e i j) (by omega) hv
  have hq := plv_bd hd he k1 k3
  have hc : Ag (3 - plv d e i j) (gp d e i j) (gp d e (kf d i (plv d e i j) x) (kf e j (plv d e i j) x)) (x * 3 ^ plv d e i j) 0 := fun t _ => by
    rw [show 4 - (3 - plv d e i j) = plv d e i j + 1 by omega, Nat.zero_add]
    unfold gp
    rw [num_kf hd hi (by omega) hv hx, num_kf he hj (by omega) hv hx]
  rw [mk_congr _ ds _ 0 (by omega) hc]
  unfold pm
  rw [show 3 - plv d e i j = 4 - (plv d e i j + 1) by omega]
  exact mk_pass (gp_lv hd he k1 k3 (Nat.le_refl _)) hq.2 ds (plv d e (kf d i (plv d e i j) x) (kf e j (plv d e i j) x) - (plv d e i j + 1)) (plv d e i j + 1) (by omega)
/-- A product by its kids. -/
theorem pm_step {d e : List Ce} (hd : Up d) (he : Up e) {i j : Nat} (hi : i < d.length) (hj : j < e.length) (hv : plv d e i j ≤ 3) (ds : List Ce) {P Q T : List Ce × Nat}
    (h0 : P = pm d e ds (kf d i (plv d e i j) 0) (kf e j (plv d e i j) 0)) (h1 : Q = pm d e P.1 (kf d i (plv d e i j) 1) (kf e j (plv d e i j) 1)) (h2 : T = pm d e Q.1 (kf d i (plv d e i j) 2) (kf e j (plv d e i j) 2)) :
    pm d e ds i j = cvar T.1 (plv d e i j) P.2 Q.2 T.2 := by
  have e0 := pm_kid hd he hi hj hv ds (x := 0) (by decide)
  rw [Nat.zero_mul, ← h0] at e0
  have e1 := pm_kid hd he hi hj hv P.1 (x := 1) (by decide)
  rw [Nat.one_mul, ← h1] at e1
  have e2 := pm_kid hd he hi hj hv Q.1 (x := 2) (by decide)
  rw [← h2] at e2
  have : pm d e ds i j = mkC (gp d e i j) (3 - plv d e i j + 1) ds 0 := by unfold pm; rw [show 4 - plv d e i j = 3 - plv d e i j + 1 by omega]
  rw [this, mkC, show 3 - (3 - plv d e i j) = plv d e i j by omega, Nat.zero_add, Nat.zero_add, e0, e1, e2]
theorem pm_top {d e : List Ce} (hd : Up d) (he : Up e) {i j : Nat} (hi : i < d.length) (hj : j < e.length) : pm d e [] i j = mkC (gp d e i j) 4 [] 0 := by
  have hp := plv_bd hd he hi hj
  have := mk_pass (gp_lv hd he hi hj (Nat.le_refl _)) hp.2 [] (plv d e i j) 0 (by omega)
  exact this.symm
theorem pm_ext {d e ds ds' : List Ce} {i j x : Nat} (h : pm d e ds i j = (ds', x)) (t : List Ce) : pm d e (ds' ++ t) i j = (ds' ++ t, x) := by
  have := mk_ext (gp d e i j) (4 - plv d e i j) ds 0 t
  unfold pm at h ⊢
  rw [h] at this
  exact this
theorem pm_sub (d e ds : List Ce) (i j : Nat) : ∃ t, (pm d e ds i j).1 = ds ++ t := mk_sub _ _ _ _
theorem pm_len (d e ds : List Ce) (i j : Nat) : (pm d e ds i j).1.length ≤ ds.length + nc (4 - plv d e i j) := mk_len _ _ _ _
theorem nc_mono : ∀ {r k : Nat}, r ≤ k → nc r ≤ nc k := by
  intro r k h
  induction h with
  | refl => exact Nat.le_refl _
  | step h ih => rw [nc]; omega

/-- The cells that a least diagram is made of. -/
def WfC (ds : List Ce) (i : Nat) (c : Ce) : Prop := c = cnum c.n ∨ ((0 ≤ c.v ∧ c.v ≤ 3) ∧ c.n = 0 ∧ (∀ x, 0 ≤ c.kid x ∧ c.kid x < i ∧ c.v < (gt ds (c.kid x).toNat).lev) ∧ ¬ (c.b = c.a ∧ c.c = c.a))
def Wf (ds : List Ce) : Prop := ∀ i, i < ds.length → WfC ds i (gt ds i)
theorem Wf.up {ds : List Ce} (h : Wf ds) : Up ds := by
  intro i hi hv
  rcases h i hi with h | ⟨h1, _, h2, _⟩
  · rw [h] at hv
    exact absurd rfl hv
  · exact ⟨h1, h2⟩
theorem Wf.nil : Wf [] := fun i hi => absurd hi (Nat.not_lt_zero _)
theorem Wf.put {ds : List Ce} (h : Wf ds) {c : Ce} (hc : WfC ds ds.length c) : Wf (cput ds c).1 := by
  unfold cput
  dsimp only
  split
  · exact h
  · intro i hi
    rw [List.length_append, List.length_singleton] at hi
    by_cases e : i < ds.length
    · rw [gt_left e]
      rcases h i e with h | ⟨h1, h2, h3, h4⟩
      · exact .inl h
      · refine .inr ⟨h1, h2, fun x => ?_, h4⟩
        obtain ⟨q1, q2, q3⟩ := h3 x
        rw [gt_left (by omega)]
        exact ⟨q1, q2, q3⟩
    · obtain rfl : i = ds.length := by omega
      rw [gt_get (s := c) (by simp)]
      rcases hc with h | ⟨h1, h2, h3, h4⟩
      · exact .inl h
      · refine .inr ⟨h1, h2, fun x => ?_, h4⟩
        obtain ⟨q1, q2, q3⟩ := h3 x
        rw [gt_left (by omega)]
        exact ⟨q1, q2, q3⟩
theorem sub_len {ds es t : List Ce} (h : es = ds ++ t) : ds.length ≤ es.length := by rw [h, List.length_append]; omega
theorem sub_gt {ds es t : List Ce} (h : es = ds ++ t) {i : Nat} (hi : i < ds.length) : gt es i = gt ds i := by rw [h]; exact gt_left hi
theorem mk_wf (f : Nat → Int) : ∀ (r : Nat) (ds : List Ce) (s : Nat), r ≤ 4 → Wf ds → Wf (mkC f r ds s).1 ∧ (mkC f r ds s).2 < (mkC f r ds s).1.length ∧ ((4 - r : Nat) : Int) ≤ (gt (mkC f r ds s).1 (mkC f r ds s).2).lev
  | 0, ds, s, _, h => by
    refine ⟨h.put (.inl rfl), cput_lt _ _, ?_⟩
    rw [mkC, cput_get]
    exact Int.le_refl 4
  | r + 1, ds, s, hr, h => by
    obtain ⟨p1, p2, p3⟩ := mk_wf f r ds s (by omega) h
    rw [mkC]
    generalize mkC f r ds s = P at *
    obtain ⟨t2, h2⟩ := mk_sub f r P.1 (s + 3 ^ (3 - r))
    obtain ⟨q1, q2, q3⟩ := mk_wf f r P.1 (s + 3 ^ (3 - r)) (by omega) p1
    generalize mkC f r P.1 (s + 3 ^ (3 - r)) = Q at *
    obtain ⟨t3, h3⟩ := mk_sub f r Q.1 (s + 2 * 3 ^ (3 - r))
    obtain ⟨u1, u2, u3⟩ := mk_wf f r Q.1 (s + 2 * 3 ^ (3 - r)) (by omega) q1
    generalize mkC f r Q.1 (s + 2 * 3 ^ (3 - r)) = T at *
    have hPQ := sub_len h2
    have hQT := sub_len h3
    rw [← sub_gt h3 (by omega)] at q3
    rw [← sub_gt h2 (by omega), ← sub_gt h3 (by omega)] at p3
    unfold cvar
    split
    · exact ⟨u1, by dsimp only; omega, by dsimp only; omega⟩
    · rename_i hne
      refine ⟨u1.put (.inr ⟨⟨by dsimp only; omega, by dsimp only; omega⟩, rfl, fun x => ?_, fun q => hne (by dsimp only at q; omega)⟩), cput_lt _ _, ?_⟩
      · refine kid_cases (P := fun k => 0 ≤ k ∧ k < (T.1.length : Int) ∧ (((3 - r : Nat) : Int)) < (gt T.1 k.toNat).lev) ?_ ?_ ?_
        · dsimp only; rw [Int.toNat_natCast]; exact ⟨by omega, by omega, by omega⟩
        · dsimp only; rw [Int.toNat_natCast]; exact ⟨by omega, by omega, by omega⟩
        · dsimp only; rw [Int.toNat_natCast]; exact ⟨by omega, by omega, by omega⟩
      · rw [cput_get]
        unfold Ce.lev
        rw [if_neg (by dsimp only; omega)]
        dsimp only
        omega
theorem cvar_sub2 {ds : List Ce} {v a b c : Nat} {es : List Ce} {x : Nat} (h : cvar ds v a b c = (es, x)) : ∃ t, es = ds ++ t := by
  have := cvar_sub ds v a b c
  rw [h] at this
  exact this
/-- The number of what is made is the function's. -/
theorem mk_val (f : Nat → Int) : ∀ (r : Nat) (ds : List Ce) (s : Nat), r ≤ 4 → Wf ds → ∀ t, t < 3 ^ r → ∀ z, (∀ u, 4 - r ≤ u → u ≤ 3 → dig z u = dig (t * 3 ^ (4 - r)) u) → num (mkC f r ds s).1 z (mkC f r ds s).2 = f (s + t * 3 ^ (4 - r))
  | 0, ds, s, _, h, t, ht, z, hz => by
    obtain rfl : t = 0 := by simpa using ht
    rw [mkC, num_leaf (by rw [cput_get]; rfl), cput_get, Nat.zero_mul, Nat.add_zero]
    rfl
  | r + 1, ds, s, hr, h, t, ht, z, hz => by
    obtain ⟨p1, p2, _⟩ := mk_wf f r ds s (by omega) h
    have v0 := mk_val f r ds s (by omega) h
    have w3 := mk_wf f (r + 1) ds s hr h
    rw [mkC] at w3 ⊢
    generalize mkC f r ds s = P at *
    obtain ⟨t2, h2⟩ := mk_sub f r P.1 (s + 3 ^ (3 - r))
    obtain ⟨q1, q2, _⟩ := mk_wf f r P.1 (s + 3 ^ (3 - r)) (by omega) p1
    have v1 := mk_val f r P.1 (s + 3 ^ (3 - r)) (by omega) p1
    generalize mkC f r P.1 (s + 3 ^ (3 - r)) = Q at *
    obtain ⟨t3, h3⟩ := mk_sub f r Q.1 (s + 2 * 3 ^ (3 - r))
    obtain ⟨u1, u2, _⟩ := mk_wf f r Q.1 (s + 2 * 3 ^ (3 - r)) (by omega) q1
    have v2 := mk_val f r Q.1 (s + 2 * 3 ^ (3 - r)) (by omega) q1
    generalize mkC f r Q.1 (s + 2 * 3 ^ (3 - r)) = T at *
    have hPQ := sub_len h2
    have hQT := sub_len h3
    obtain ⟨x, t', hx, ht', rfl⟩ : ∃ x t', x < 3 ∧ t' < 3 ^ r ∧ t = x + 3 * t' := ⟨t % 3, t / 3, by omega, by rw [Nat.pow_succ] at ht; omega, by omega⟩
    have e3 : 3 ^ (4 - r) = 3 * 3 ^ (3 - r) := by rw [show 4 - r = (3 - r) + 1 by omega, Nat.pow_succ]; omega
    have harg : (x + 3 * t') * 3 ^ (4 - (r + 1)) = x * 3 ^ (3 - r) + t' * 3 ^ (3 - r + 1) := by
      rw [show 4 - (r + 1) = 3 - r by omega, Nat.add_mul, Nat.pow_succ, Nat.mul_comm 3 t', Nat.mul_assoc, Nat.mul_comm 3 (3 ^ (3 - r))]
    rw [harg] at hz ⊢
    have hz0 : dig z (3 - r) = x := (hz _ (by omega) (by omega)).trans (dig_here hx (by omega))
    have hz1 : ∀ u, 4 - r ≤ u → u ≤ 3 → dig z u = dig (t' * 3 ^ (4 - r)) u := fun u a b => by
      rw [hz u (by omega) b, dig_past hx (by omega) b, show 3 - r + 1 = 4 - r by omega]
    have k0 : num T.1 z P.2 = f (s + 0 * 3 ^ (3 - r) + t' * 3 ^ (4 - r)) := by
      rw [h3, num_more q1.up z _ (by omega), h2, num_more p1.up z _ p2, v0 t' ht' z hz1, Nat.zero_mul, Nat.add_zero]
    have k1 : num T.1 z Q.2 = f (s + 1 * 3 ^ (3 - r) + t' * 3 ^ (4 - r)) := by
      rw [h3, num_more q1.up z _ q2, v1 t' ht' z hz1, Nat.one_mul]
    have k2 : num T.1 z T.2 = f (s + 2 * 3 ^ (3 - r) + t' * 3 ^ (4 - r)) := v2 t' ht' z hz1
    have hgoal : s + (x * 3 ^ (3 - r) + t' * 3 ^ (3 - r + 1)) = s + x * 3 ^ (3 - r) + t' * 3 ^ (4 - r) := by rw [show 3 - r + 1 = 4 - r by omega]; omega
    rw [hgoal]
    unfold cvar at w3 ⊢
    split
    · rename_i hs
      show num T.1 z P.2 = _
      obtain rfl | rfl | rfl : x = 0 ∨ x = 1 ∨ x = 2 := by omega
      · exact k0
      · rw [← hs.1]; exact k1
      · rw [← hs.2]; exact k2
    · rename_i hs
      rw [if_neg hs] at w3
      have hg := cput_get T.1 ⟨((3 - r : Nat) : Int), 0, P.2, Q.2, T.2⟩
      obtain ⟨tt, htt⟩ := cput_sub T.1 ⟨((3 - r : Nat) : Int), 0, P.2, Q.2, T.2⟩
      generalize cput T.1 ⟨((3 - r : Nat) : Int), 0, P.2, Q.2, T.2⟩ = R at *
      rw [num_step w3.1.up w3.2.1 (by rw [hg]; dsimp only; omega), hg]
      dsimp only
      rw [Int.toNat_natCast, hz0, htt, num_more u1.up z _ ?_]
      · obtain rfl | rfl | rfl : x = 0 ∨ x = 1 ∨ x = 2 := by omega
        · exact k0
        · exact k1
        · exact k2
      · obtain rfl | rfl | rfl : x = 0 ∨ x = 1 ∨ x = 2 := by omega
        · show (P.2 : Int).toNat < _; omega
        · show (Q.2 : Int).toNat < _; omega
        · show (T.2 : Int).toNat < _; omega
/-- Of one variable on all cells that are made have it or a greater one. -/
theorem mk_lev (f : Nat → Int) : ∀ (r : Nat) (ds : List Ce) (s : Nat), r ≤ 4 → ∀ c ∈ (mkC f r ds s).1, c ∈ ds ∨ ((4 - r : Nat) : Int) ≤ c.lev
  | 0, ds, s, _, c, hc => by
    rw [mkC] at hc
    unfold cput at hc
    dsimp only at hc
    split at hc
    · exact .inl hc
    · rcases List.mem_append.1 hc with h | h
      · exact .inl h
      · rw [List.mem_singleton.1 h]
        exact .inr (Int.le_refl 4)
  | r + 1, ds, s, hr, c, hc => by
    have h0 := mk_lev f r ds s (by omega)
    rw [mkC] at hc
    generalize mkC f r ds s = P at *
    have h1 := mk_lev f r P.1 (s + 3 ^ (3 - r)) (by omega)
    generalize mkC f r P.1 (s + 3 ^ (3 - r)) = Q at *
    have h2 := mk_lev f r Q.1 (s + 2 * 3 ^ (3 - r)) (by omega)
    generalize mkC f r Q.1 (s + 2 * 3 ^ (3 - r)) = T at *
    have hT : ∀ c ∈ T.1, c ∈ ds ∨ ((4 - (r + 1) : Nat) : Int) ≤ c.lev := fun c hc => by
      rcases h2 c hc with h | h
      · rcases h1 c h with h | h
        · rcases h0 c h with h | h
          · exact .inl h
          · exact .inr (by omega)
        · exact .inr (by omega)
      · exact .inr (by omega)
    unfold cvar cput at hc
    split at hc
    · exact hT c hc
    · dsimp only at hc
      split at hc
      · exact hT c hc
      · rcases List.mem_append.1 hc with h | h
        · exact hT c h
        · rw [List.mem_singleton.1 h]
          refine .inr ?_
          unfold Ce.lev
          rw [if_neg (by dsimp only; omega)]
          dsimp only
          omega
/-- What stands for all is the last one. -/
theorem mk_last (f : Nat → Int) : ∀ (r : Nat) (s : Nat), r ≤ 4 → (mkC f r [] s).2 + 1 = (mkC f r [] s).1.length
  | 0, s, _ => by simp [mkC, cput, List.idxOf, List.findIdx, List.findIdx.go]
  | r + 1, s, hr => by
    have l0 := mk_last f r s (by omega)
    obtain ⟨p1, p2, _⟩ := mk_wf f r [] s (by omega) Wf.nil
    have v0 := mk_val f r [] s (by omega) Wf.nil
    have e0 := mk_ext f r [] s []
    have c0 := mk_lev f r [] s (by omega)
    rw [List.append_nil] at e0
    rw [mkC]
    have same : ∀ x, Ag r f f s (s + x * 3 ^ (3 - r)) → mkC f r (mkC f r [] s).1 (s + x * 3 ^ (3 - r)) = ((mkC f r [] s).1, (mkC f r [] s).2) := fun x hx => by
      rw [← mk_congr r (mkC f r [] s).1 s _ (by omega) hx, e0]
    generalize mkC f r [] s = P at *
    obtain ⟨t2, h2⟩ := mk_sub f r P.1 (s + 3 ^ (3 - r))
    obtain ⟨q1, q2, _⟩ := mk_wf f r P.1 (s + 3 ^ (3 - r)) (by omega) p1
    have v1 := mk_val f r P.1 (s + 3 ^ (3 - r)) (by omega) p1
    have c1 := mk_lev f r P.1 (s + 3 ^ (3 - r)) (by omega)
    have s1 := same 1
    rw [Nat.one_mul] at s1
    generalize mkC f r P.1 (s + 3 ^ (3 - r)) = Q at *
    by_cases hs : Q.2 = P.2
    · have hag : Ag r f f s (s + 3 ^ (3 - r)) := fun t ht => by
        rw [← v1 t ht (t * 3 ^ (4 - r)) (fun u _ _ => rfl), ← v0 t ht (t * 3 ^ (4 - r)) (fun u _ _ => rfl), hs, h2, num_more p1.up _ _ p2]
      have hQ := s1 hag
      subst hQ
      dsimp only at *
      have s2 := same 2
      obtain ⟨t3, h3⟩ := mk_sub f r P.1 (s + 2 * 3 ^ (3 - r))
      have v2 := mk_val f r P.1 (s + 2 * 3 ^ (3 - r)) (by omega) p1
      have c2 := mk_lev f r P.1 (s + 2 * 3 ^ (3 - r)) (by omega)
      generalize mkC f r P.1 (s + 2 * 3 ^ (3 - r)) = T at *
      unfold cvar
      by_cases hs2 : T.2 = P.2
      · rw [if_pos ⟨rfl, hs2⟩]
        have hag2 : Ag r f f s (s + 2 * 3 ^ (3 - r)) := fun t ht => by
          rw [← v2 t ht (t * 3 ^ (4 - r)) (fun u _ _ => rfl), ← v0 t ht (t * 3 ^ (4 - r)) (fun u _ _ => rfl), hs2, h3, num_more p1.up _ _ p2]
        rw [s2 hag2]
        exact l0
      · rw [if_neg (fun q => hs2 q.2)]
        unfold cput
        dsimp only
        have hnot : (⟨((3 - r : Nat) : Int), 0, P.2, P.2, T.2⟩ : Ce) ∉ T.1 := fun hm => by
          have hl : (⟨((3 - r : Nat) : Int), 0, P.2, P.2, T.2⟩ : Ce).lev = ((3 - r : Nat) : Int) := if_neg (by dsimp only; omega)
          rcases c2 _ hm with h | h
          · rcases c0 _ h with h | h
            · cases h
            · omega
          · omega
        rw [if_neg hnot, List.idxOf_eq_length hnot]
        simp
    · obtain ⟨t3, h3⟩ := mk_sub f r Q.1 (s + 2 * 3 ^ (3 - r))
      have c2 := mk_lev f r Q.1 (s + 2 * 3 ^ (3 - r)) (by omega)
      generalize mkC f r Q.1 (s + 2 * 3 ^ (3 - r)) = T at *
      unfold cvar
      rw [if_neg (fun q => hs q.1)]
      unfold cput
      dsimp only
      have hnot : (⟨((3 - r : Nat) : Int), 0, P.2, Q.2, T.2⟩ : Ce) ∉ T.1 := fun hm => by
        have hl : (⟨((3 - r : Nat) : Int), 0, P.2, Q.2, T.2⟩ : Ce).lev = ((3 - r : Nat) : Int) := if_neg (by dsimp only; omega)
        rcases c2 _ hm with h | h
        · rcases c1 _ h with h | h
          · rcases c0 _ h with h | h
            · cases h
            · omega
          · omega
        · omega
      rw [if_neg hnot, List.idxOf_eq_length hnot]
      simp
theorem cput_nodup {ds : List Ce} (h : ds.Nodup) (c : Ce) : (cput ds c).1.Nodup := by
  unfold cput
  dsimp only
  split
  · exact h
  · rename_i hn
    rw [List.nodup_append]
    exact ⟨h, by simp, fun a ha b hb => by rw [List.mem_singleton.1 hb]; rintro rfl; exact hn ha⟩
theorem mk_nodup (f : Nat → Int) : ∀ (r : Nat) (ds : List Ce) (s : Nat), ds.Nodup → (mkC f r ds s).1.Nodup
  | 0, ds, s, h => cput_nodup h _
  | r + 1, ds, s, h => by
    rw [mkC]
    have h3 := mk_nodup f r _ (s + 2 * 3 ^ (3 - r)) (mk_nodup f r _ (s + 3 ^ (3 - r)) (mk_nodup f r ds s h))
    unfold cvar
    split
    · exact h3
    · exact cput_nodup h3 _
theorem cput_cases {ds : List Ce} {c d : Ce} (h : d ∈ (cput ds c).1) : d ∈ ds ∨ d = c := by
  unfold cput at h
  dsimp only at h
  split at h
  · exact .inl h
  · rcases List.mem_append.1 h with h | h
    · exact .inl h
    · exact .inr (List.mem_singleton.1 h)
theorem cvar_cases {ds : List Ce} {v a b c : Nat} {d : Ce} (h : d ∈ (cvar ds v a b c).1) : d ∈ ds ∨ d.v = v := by
  unfold cvar at h
  split at h
  · exact .inl h
  · rcases cput_cases h with h | h
    · exact .inl h
    · exact .inr (by rw [h])
/-- The numbers that are made are the function's. -/
theorem mk_nums (f : Nat → Int) : ∀ (r : Nat) (ds : List Ce) (s : Nat), r ≤ 4 → ∀ c ∈ (mkC f r ds s).1, c.v = -1 → c ∈ ds ∨ ∃ t, t < 3 ^ r ∧ c = cnum (f (s + t * 3 ^ (4 - r)))
  | 0, ds, s, _, c, hc, _ => by
    rcases cput_cases hc with h | h
    · exact .inl h
    · exact .inr ⟨0, by decide, by rw [h, Nat.zero_mul, Nat.add_zero]⟩
  | r + 1, ds, s, hr, c, hc, hv => by
    have e3 : 3 ^ (4 - r) = 3 * 3 ^ (3 - r) := by rw [show 4 - r = (3 - r) + 1 by omega, Nat.pow_succ]; omega
    have arg : ∀ x t, s + x * 3 ^ (3 - r) + t * 3 ^ (4 - r) = s + (x + 3 * t) * 3 ^ (4 - (r + 1)) := fun x t => by
      rw [e3, show 4 - (r + 1) = 3 - r by omega, Nat.add_mul, Nat.mul_comm 3 t, Nat.mul_assoc]; omega
    have e4 : 3 ^ (r + 1) = 3 * 3 ^ r := by rw [Nat.pow_succ]; omega
    rw [mkC] at hc
    rcases cvar_cases hc with h | h
    · rcases mk_nums f r _ _ (by omega) c h hv with h | ⟨t, ht, h⟩
      · rcases mk_nums f r _ _ (by omega) c h hv with h | ⟨t, ht, h⟩
        · rcases mk_nums f r _ _ (by omega) c h hv with h | ⟨t, ht, h⟩
          · exact .inl h
          · exact .inr ⟨0 + 3 * t, by omega, by rw [h, ← arg 0 t, Nat.zero_mul, Nat.add_zero]⟩
        · exact .inr ⟨1 + 3 * t, by omega, by rw [h, ← arg 1 t, Nat.one_mul]⟩
      · exact .inr ⟨2 + 3 * t, by omega, by rw [h, ← arg 2 t]⟩
    · omega
theorem mk_all (f : Nat → Int) : ∀ (r : Nat) (ds : List Ce) (s : Nat), r ≤ 4 → ∀ t, t < 3 ^ r → cnum (f (s + t * 3 ^ (4 - r))) ∈ (mkC f r ds s).1
  | 0, ds, s, _, t, ht => by
    obtain rfl : t = 0 := by simpa using ht
    rw [Nat.zero_mul, Nat.add_zero]
    exact cput_mem _ _
  | r + 1, ds, s, hr, t, ht => by
    have e3 : 3 ^ (4 - r) = 3 * 3 ^ (3 - r) := by rw [show 4 - r = (3 - r) + 1 by omega, Nat.pow_succ]; omega
    have arg : ∀ x t, s + x * 3 ^ (3 - r) + t * 3 ^ (4 - r) = s + (x + 3 * t) * 3 ^ (4 - (r + 1)) := fun x t => by
      rw [e3, show 4 - (r + 1) = 3 - r by omega, Nat.add_mul, Nat.mul_comm 3 t, Nat.mul_assoc]; omega
    obtain ⟨x, t', hx, ht', rfl⟩ : ∃ x t', x < 3 ∧ t' < 3 ^ r ∧ t = x + 3 * t' := ⟨t % 3, t / 3, by omega, by rw [Nat.pow_succ] at ht; omega, by omega⟩
    rw [← arg x t', mkC]
    have a0 := mk_all f r ds s (by omega) t' ht'
    generalize mkC f r ds s = P at *
    obtain ⟨t2, h2⟩ := mk_sub f r P.1 (s + 3 ^ (3 - r))
    have a1 := mk_all f r P.1 (s + 3 ^ (3 - r)) (by omega) t' ht'
    generalize mkC f r P.1 (s + 3 ^ (3 - r)) = Q at *
    obtain ⟨t3, h3⟩ := mk_sub f r Q.1 (s + 2 * 3 ^ (3 - r))
    have a2 := mk_all f r Q.1 (s + 2 * 3 ^ (3 - r)) (by omega) t' ht'
    generalize mkC f r Q.1 (s + 2 * 3 ^ (3 - r)) = T at *
    obtain ⟨t4, h4⟩ := cvar_sub T.1 (3 - r) P.2 Q.2 T.2
    rw [h4]
    refine List.mem_append_left _ ?_
    obtain rfl | rfl | rfl : x = 0 ∨ x = 1 ∨ x = 2 := by omega
    · rw [h3, h2, Nat.zero_mul, Nat.add_zero]; exact List.mem_append_left _ (List.mem_append_left _ a0)
    · rw [h3, Nat.one_mul]; exact List.mem_append_left _ a1
    · exact a2
/-- The least diagram of a function of states. -/
def mkd (f : Nat → Int) : List Ce := (mkC f 4 [] 0).1
theorem mkd_wf (f : Nat → Int) : Wf (mkd f) ∧ 1 ≤ (mkd f).length ∧ (mkd f).length ≤ 121 ∧ (mkC f 4 [] 0).2 = (mkd f).length - 1 := by
  have h1 := mk_wf f 4 [] 0 (by decide) Wf.nil
  have h2 := mk_last f 4 0 (by decide)
  have h3 := mk_len f 4 [] 0
  unfold mkd
  refine ⟨h1.1, by omega, ?_, by omega⟩
  have : nc 4 = 121 := by decide
  rw [this] at h3
  simpa using h3
theorem mkd_num (f : Nat → Int) {s : Nat} (h : s < 81) : num (mkd f) s ((mkd f).length - 1) = f s := by
  have := mk_val f 4 [] 0 (by decide) Wf.nil s (by simpa using h) s (fun u _ _ => by simp)
  rw [← (mkd_wf f).2.2.2]
  unfold mkd
  simpa using this
theorem wf_cOk {ds : List Ce} (h : Wf ds) {i : Nat} (hi : i < ds.length) : cOk (gt ds i) (ds.take i) = true ↔ ((gt ds i).v = -1 → inB (gt ds i).n 0 1000000000 = true) := by
  rcases h i hi with h | ⟨h1, h2, h3, _⟩
  · generalize (gt ds i).n = n at h
    rw [h]
    unfold cOk cnum
    simp
  · have hv : (gt ds i).v ≠ -1 := by omega
    refine ⟨fun _ e => absurd e hv, fun _ => ?_⟩
    have hk : ∀ x, kOk (ds.take i) (gt ds i).v ((gt ds i).kid x) = true := fun x => by
      obtain ⟨q1, q2, q3⟩ := h3 x
      rw [kOk_iff, List.length_take, gt_take (by omega)]
      exact ⟨⟨q1, by omega⟩, q3⟩
    unfold cOk
    rw [if_neg hv, inB_iff.2 ⟨h1.1, h1.2⟩, h2]
    have k0 := hk 0
    have k1 := hk 1
    have k2 := hk 2
    rw [show (gt ds i).kid 0 = (gt ds i).a from rfl] at k0
    rw [show (gt ds i).kid 1 = (gt ds i).b from rfl] at k1
    rw [show (gt ds i).kid 2 = (gt ds i).c from rfl] at k2
    rw [k0, k1, k2]
    rfl
/-- What is made is a diagram if all numbers are in their bounds. -/
theorem mkd_ok {f : Nat → Int} (h : ∀ s, s < 81 → inB (f s) 0 1000000000 = true) : diaOk (mkd f) = true := by
  obtain ⟨h1, h2, h3, _⟩ := mkd_wf f
  unfold diaOk
  rw [inB_iff.2 ⟨by omega, by omega⟩, Bool.true_and]
  unfold allOk
  rw [List.all_eq_true]
  intro i hi
  have hi := List.mem_range.1 hi
  rw [wf_cOk h1 hi]
  intro hv
  have hm : gt (mkd f) i ∈ (mkC f 4 [] 0).1 := List.mem_of_getElem? (gt_some hi)
  rcases mk_nums f 4 [] 0 (by decide) _ hm hv with h | ⟨t, ht, e⟩
  · cases h
  · rw [e]
    have := h t (by simpa using ht)
    simpa [cnum] using this
theorem mkd_no {f : Nat → Int} {s : Nat} (hs : s < 81) (h : inB (f s) 0 1000000000 = false) : diaOk (mkd f) = false := by
  obtain ⟨h1, h2, h3, _⟩ := mkd_wf f
  have hm := mk_all f 4 [] 0 (by decide) s (by simpa using hs)
  have hm' : cnum (f s) ∈ mkd f := by unfold mkd; simpa using hm
  obtain ⟨i, hi, e⟩ := List.getElem_of_mem hm'
  have hg : gt (mkd f) i = cnum (f s) := gt_get (by rw [List.getElem?_eq_getElem hi, e])
  cases hd : diaOk (mkd f)
  · rfl
  · exfalso
    unfold diaOk at hd
    rw [Bool.and_eq_true] at hd
    have := (wf_cOk h1 hi).1 (allOk_at hd.2 hi) (by rw [hg]; rfl)
    rw [hg] at this
    rw [show (cnum (f s)).n = f s from rfl, h] at this
    cases this
theorem dia_parts {ds : List Ce} (h : diaOk ds = true) : 1 ≤ ds.length ∧ ds.length ≤ 121 ∧ allOk ds ds.length = true := by
  unfold diaOk at h
  rw [Bool.and_eq_true] at h
  have := inB_iff.1 h.1
  exact ⟨by omega, by omega, h.2⟩
/-- The numbers of a diagram. -/
def dnum (ds : List Ce) (s : Nat) : Int := num ds s (ds.length - 1)
def dlist (ds : List Ce) : List Int := (List.range 81).map (dnum ds)
/-- A list's numbers by state. -/
def fl (os : List Int) (s : Nat) : Int := os.getD s 0
theorem mkd_same {f g : Nat → Int} (h : ∀ s, s < 81 → f s = g s) : mkd f = mkd g := by
  unfold mkd
  rw [mk_congr 4 [] 0 0 (by decide) (f' := g) fun t ht => by
    simpa using h t (by simpa using ht)]
theorem dlist_mkd (f : Nat → Int) : dlist (mkd f) = (List.range 81).map f := by
  unfold dlist
  refine List.map_congr_left fun s hs => ?_
  exact mkd_num f (List.mem_range.1 hs)
/-- The sum of a function over the last r variables' values. -/
def Ts (f : Nat → Int) : Nat → Nat → Int
  | 0, s => f s
  | r + 1, s => Ts f r s + Ts f r (s + 3 ^ (3 - r)) + Ts f r (s + 2 * 3 ^ (3 - r))
theorem Ts_congr {f f' : Nat → Int} : ∀ (r s s' : Nat), r ≤ 4 → Ag r f f' s s' → Ts f r s = Ts f' r s'
  | 0, s, s', _, h => by
    have := h 0 (by decide)
    simp at this
    exact this
  | r + 1, s, s', hr, h => by
    have h0 := h.kid (by omega) (x := 0) (by decide)
    have h1 := h.kid (by omega) (x := 1) (by decide)
    have h2 := h.kid (by omega) (x := 2) (by decide)
    rw [Nat.zero_mul, Nat.add_zero, Nat.add_zero] at h0
    rw [Nat.one_mul] at h1
    rw [Ts, Ts, Ts_congr r s s' (by omega) h0, Ts_congr r (s + 3 ^ (3 - r)) (s' + 3 ^ (3 - r)) (by omega) h1, Ts_congr r (s + 2 * 3 ^ (3 - r)) (s' + 2 * 3 ^ (3 - r)) (by omega) h2]
theorem Ts_bd {f : Nat → Int} {M : Int} (h : ∀ s, 0 ≤ f s ∧ f s ≤ M) : ∀ (r s : Nat), 0 ≤ Ts f r s ∧ Ts f r s ≤ 3 ^ r * M
  | 0, s => by have := h s; rw [Ts]; simpa using this
  | r + 1, s => by
    have h1 := Ts_bd h r s
    have h2 := Ts_bd h r (s + 3 ^ (3 - r))
    have h3 := Ts_bd h r (s + 2 * 3 ^ (3 - r))
    rw [Ts, Int.pow_succ, Int.mul_comm (3 ^ r) 3, Int.mul_assoc]
    omega
theorem Ts_pass {f : Nat → Int} {v' : Nat} (h : Lv f v') (hv' : v' ≤ 4) : ∀ k v, v + k = v' → Ts f (4 - v) 0 = Ts f (4 - v') 0 * 3 ^ k
  | 0, v, e => by rw [show v = v' by omega]; simp
  | k + 1, v, e => by
    have hv : v ≤ 3 := by omega
    have hs : ∀ x, x < 3 → Ag (3 - v) f f 0 (0 + x * 3 ^ v) := fun x hx t _ => by
      rw [show 4 - (3 - v) = v + 1 by omega, Nat.zero_add, Nat.zero_add]
      exact (h _ _ fun u hu1 hu2 => dig_past hx (by omega) hu2).symm
    have h1 := Ts_congr (3 - v) _ _ (by omega) (hs 1 (by decide))
    have h2 := Ts_congr (3 - v) _ _ (by omega) (hs 2 (by decide))
    rw [Nat.one_mul] at h1
    have ih := Ts_pass h hv' k (v + 1) (by omega)
    rw [show 4 - v = 3 - v + 1 by omega, Ts, show 3 - (3 - v) = v by omega, ← h1, ← h2, show 3 - v = 4 - (v + 1) by omega, ih, Int.pow_succ, ← Int.mul_assoc]
    omega
/-- the indexes of the states that are summed -/
def Ti : Nat → Nat → List Nat
  | 0, s => [s]
  | r + 1, s => Ti r s ++ Ti r (s + 3 ^ (3 - r)) ++ Ti r (s + 2 * 3 ^ (3 - r))
theorem Ts_list (f : Nat → Int) : ∀ r s, Ts f r s = ((Ti r s).map f).sum
  | 0, s => by simp [Ts, Ti]
  | r + 1, s => by rw [Ts, Ti, Ts_list f r, Ts_list f r, Ts_list f r, List.map_append, List.map_append, List.sum_append, List.sum_append]
theorem perm_sum {a b : List Int} (h : a.Perm b) : a.sum = b.sum := by
  induction h with
  | nil => rfl
  | cons x _ ih => rw [List.sum_cons, List.sum_cons, ih]
  | swap x y l => rw [List.sum_cons, List.sum_cons, List.sum_cons, List.sum_cons]; omega
  | trans _ _ h1 h2 => rw [h1, h2]
theorem Ti_perm : (Ti 4 0).Perm (List.range 81) := List.isPerm_iff.1 (by decide +kernel)
theorem Ts_all (f : Nat → Int) : Ts f 4 0 = ((List.range 81).map f).sum := by
  rw [Ts_list]
  exact perm_sum (Ti_perm.map f)
/-- The sum of a cell over the values of the variables from its own on. -/
def csum (ds : List Ce) (i : Nat) : Int := Ts (fun s => num ds s i) (4 - (gt ds i).lev.toNat) 0
theorem csum_leaf {ds : List Ce} {i : Nat} (hv : (gt ds i).v = -1) : csum ds i = (gt ds i).n := by
  unfold csum
  have : (gt ds i).lev = 4 := if_pos hv
  rw [this, show 4 - (4 : Int).toNat = 0 from rfl, Ts, num_leaf hv]
theorem num_lv {ds : List Ce} (h : Up ds) {i v : Nat} (hi : i < ds.length) (hv : (v : Int) ≤ (gt ds i).lev) : Lv (fun s => num ds s i) v := fun s s' e => num_agree h i hi fun u h1 h2 => e u (by omega) h2
theorem csum_step {ds : List Ce} (h : Up ds) {i : Nat} (hi : i < ds.length) (hv : (gt ds i).v ≠ -1) :
    csum ds i = csum ds ((gt ds i).a).toNat * 3 ^ ((gt ds (gt ds i).a.toNat).lev - (gt ds i).v - 1).toNat + csum ds ((gt ds i).b).toNat * 3 ^ ((gt ds (gt ds i).b.toNat).lev - (gt ds i).v - 1).toNat + csum ds ((gt ds i).c).toNat * 3 ^ ((gt ds (gt ds i).c.toNat).lev - (gt ds i).v - 1).toNat := by
  obtain ⟨⟨hv0, hv3⟩, hk⟩ := h i hi hv
  obtain ⟨v, hvv⟩ : ∃ v : Nat, (gt ds i).v = v := ⟨(gt ds i).v.toNat, by omega⟩
  have hl : (gt ds i).lev = v := by rw [← hvv]; exact if_neg hv
  have one : ∀ x, x < 3 → Ts (fun s => num ds s i) (3 - v) (x * 3 ^ v) = csum ds ((gt ds i).kid x).toNat * 3 ^ ((gt ds ((gt ds i).kid x).toNat).lev - v - 1).toNat := fun x hx => by
    obtain ⟨h1, h2, h3⟩ := hk x
    have hkf : kf ds i v x = ((gt ds i).kid x).toNat := if_pos hvv
    have hb := lev_bd h (i := ((gt ds i).kid x).toNat) (by omega)
    rw [hvv] at h3
    have hag : Ag (3 - v) (fun s => num ds s i) (fun s => num ds s ((gt ds i).kid x).toNat) (x * 3 ^ v) 0 := fun t _ => by
      dsimp only
      rw [show 4 - (3 - v) = v + 1 by omega, Nat.zero_add, num_kf h hi (by omega) (by omega) hx, hkf]
    rw [Ts_congr _ _ _ (by omega) hag, show 3 - v = 4 - (v + 1) by omega]
    have := Ts_pass (num_lv h (i := ((gt ds i).kid x).toNat) (v := (gt ds ((gt ds i).kid x).toNat).lev.toNat) (by omega) (by omega)) (by omega) ((gt ds ((gt ds i).kid x).toNat).lev - v - 1).toNat (v + 1) (by omega)
    exact this
  have o0 := one 0 (by decide)
  have o1 := one 1 (by decide)
  have o2 := one 2 (by decide)
  rw [Nat.zero_mul] at o0
  rw [Nat.one_mul] at o1
  rw [hvv]
  have : csum ds i = Ts (fun s => num ds s i) (3 - v + 1) 0 := by unfold csum; rw [hl, Int.toNat_natCast, show 4 - v = 3 - v + 1 by omega]
  rw [this, Ts, show 3 - (3 - v) = v by omega, Nat.zero_add, Nat.zero_add, o0, o1, o2]
  rfl
theorem csum_bd {ds : List Ce} (h : allOk ds ds.length = true) {i : Nat} (hi : i < ds.length) : 0 ≤ csum ds i ∧ csum ds i ≤ 3 ^ (4 - (gt ds i).lev.toNat) * 1000000000 := Ts_bd (fun s => num_bd h s i hi) _ _
/-- The sum of all numbers. -/
theorem csum_all {ds : List Ce} (h : diaOk ds = true) : csum ds (ds.length - 1) * 3 ^ (gt ds (ds.length - 1)).lev.toNat = (dlist ds).sum := by
  obtain ⟨h1, h2, h3⟩ := dia_parts h
  have hu := up_of h3
  have hb := lev_bd hu (i := ds.length - 1) (by omega)
  have := Ts_pass (num_lv hu (i := ds.length - 1) (v := (gt ds (ds.length - 1)).lev.toNat) (by omega) (by omega)) (by omega) (gt ds (ds.length - 1)).lev.toNat 0 (by omega)
  unfold csum dlist
  rw [← this]
  exact Ts_all _
/-- What CellSums and DiagramSum tell. -/
def csums (ds : List Ce) : List Int := if diaOk ds = true then (List.range ds.length).map (csum ds) else []
def dsum (ds : List Ce) : Int := if diaOk ds = true then (dlist ds).sum else -1
end Go.Proofs.Ytghkpmafocacoaa
