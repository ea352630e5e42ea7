/- Whether two variables hang on each other; plain functions: products held against each other by what they have in common; sums by a key. -/
import Derived.Test.YtkibkmheomlafaaAb
namespace Go.Proofs.Ytkibkmheomlafaa
set_option maxRecDepth 100000
set_option linter.unusedVariables false
open Go.RowKit

theorem cross_cop {a b c d : Nat} (ha : 0 < a) (hb : 0 < b) (hc : 0 < c) (hd : 0 < d) (h1 : Nat.Coprime a c) (h2 : Nat.Coprime b d) :
    (a / Nat.gcd a d = c / Nat.gcd b c ∧ b / Nat.gcd b c = d / Nat.gcd a d) ↔ a * b = c * d := by
  constructor
  · rintro ⟨e1, e2⟩
    have ga := Nat.gcd_dvd_left a d
    have gd := Nat.gcd_dvd_right a d
    have gb := Nat.gcd_dvd_left b c
    have gc := Nat.gcd_dvd_right b c
    have u1 : a / Nat.gcd a d = 1 := by
      have hu : a / Nat.gcd a d ∣ Nat.gcd a c := Nat.dvd_gcd (Nat.div_dvd_of_dvd ga) (by rw [e1]; exact Nat.div_dvd_of_dvd gc)
      rw [h1] at hu
      exact Nat.dvd_one.1 hu
    have u2 : b / Nat.gcd b c = 1 := by
      have hu : b / Nat.gcd b c ∣ Nat.gcd b d := Nat.dvd_gcd (Nat.div_dvd_of_dvd gb) (by rw [e2]; exact Nat.div_dvd_of_dvd gd)
      rw [h2] at hu
      exact Nat.dvd_one.1 hu
    have f1 := Nat.div_mul_cancel ga
    have f2 := Nat.div_mul_cancel gb
    have f3 := Nat.div_mul_cancel gc
    have f4 := Nat.div_mul_cancel gd
    rw [u1, Nat.one_mul] at f1
    rw [u2, Nat.one_mul] at f2
    rw [← e1, u1, Nat.one_mul] at f3
    rw [← e2, u2, Nat.one_mul] at f4
    have ea : a = d := f1.symm.trans f4
    have eb : b = c := f2.symm.trans f3
    rw [ea, eb, Nat.mul_comm]
  · intro e
    have d1 : a ∣ d := h1.dvd_of_dvd_mul_left (show a ∣ c * d from ⟨b, e.symm⟩)
    have d2 : d ∣ a := h2.symm.dvd_of_dvd_mul_right (show d ∣ a * b from ⟨c, by rw [e, Nat.mul_comm]⟩)
    have ea := Nat.dvd_antisymm d1 d2
    subst ea
    have eb : b = c := by
      have : a * b = a * c := by rw [e, Nat.mul_comm]
      exact Nat.eq_of_mul_eq_mul_left ha this
    subst eb
    rw [Nat.gcd_self, Nat.gcd_self, Nat.div_self ha, Nat.div_self hb]
    exact ⟨rfl, rfl⟩
theorem cross_nat {a b c d : Nat} (ha : 0 < a) (hb : 0 < b) (hc : 0 < c) (hd : 0 < d) :
    (a / Nat.gcd a c / Nat.gcd (a / Nat.gcd a c) (d / Nat.gcd b d) = c / Nat.gcd a c / Nat.gcd (b / Nat.gcd b d) (c / Nat.gcd a c) ∧ b / Nat.gcd b d / Nat.gcd (b / Nat.gcd b d) (c / Nat.gcd a c) = d / Nat.gcd b d / Nat.gcd (a / Nat.gcd a c) (d / Nat.gcd b d)) ↔ a * b = c * d := by
  have g1 : 0 < Nat.gcd a c := Nat.gcd_pos_of_pos_left c ha
  have g2 : 0 < Nat.gcd b d := Nat.gcd_pos_of_pos_left d hb
  have fa := Nat.div_mul_cancel (Nat.gcd_dvd_left a c)
  have fc := Nat.div_mul_cancel (Nat.gcd_dvd_right a c)
  have fb := Nat.div_mul_cancel (Nat.gcd_dvd_left b d)
  have fd := Nat.div_mul_cancel (Nat.gcd_dvd_right b d)
  have k1 := Nat.coprime_div_gcd_div_gcd g1
  have k2 := Nat.coprime_div_gcd_div_gcd g2
  generalize Nat.gcd a c = g at *
  generalize Nat.gcd b d = h at *
  generalize a / g = a' at *
  generalize c / g = c' at *
  generalize b / h = b' at *
  generalize d / h = d' at *
  have pa : 0 < a' := Nat.pos_of_ne_zero fun e => by rw [e, Nat.zero_mul] at fa; omega
  have pc : 0 < c' := Nat.pos_of_ne_zero fun e => by rw [e, Nat.zero_mul] at fc; omega
  have pb : 0 < b' := Nat.pos_of_ne_zero fun e => by rw [e, Nat.zero_mul] at fb; omega
  have pd : 0 < d' := Nat.pos_of_ne_zero fun e => by rw [e, Nat.zero_mul] at fd; omega
  rw [cross_cop pa pb pc pd k1 k2]
  have e1 : a * b = a' * b' * (g * h) := by rw [← fa, ← fb, Nat.mul_mul_mul_comm]
  have e2 : c * d = c' * d' * (g * h) := by rw [← fc, ← fd, Nat.mul_mul_mul_comm]
  rw [e1, e2]
  constructor
  · intro e; rw [e]
  · intro e; exact Nat.eq_of_mul_eq_mul_right (Nat.mul_pos g1 g2) e
/-- What two pairs have in common tells whether their products are the same. -/
theorem cross_int {a b c d : Int} (ha : 0 < a) (hb : 0 < b) (hc : 0 < c) (hd : 0 < d) :
    (a / gcdI a c / gcdI (a / gcdI a c) (d / gcdI b d) = c / gcdI a c / gcdI (b / gcdI b d) (c / gcdI a c) ∧ b / gcdI b d / gcdI (b / gcdI b d) (c / gcdI a c) = d / gcdI b d / gcdI (a / gcdI a c) (d / gcdI b d)) ↔ a * b = c * d := by
  obtain ⟨x, rfl⟩ := Int.eq_ofNat_of_zero_le (Int.le_of_lt ha)
  obtain ⟨y, rfl⟩ := Int.eq_ofNat_of_zero_le (Int.le_of_lt hb)
  obtain ⟨z, rfl⟩ := Int.eq_ofNat_of_zero_le (Int.le_of_lt hc)
  obtain ⟨u, rfl⟩ := Int.eq_ofNat_of_zero_le (Int.le_of_lt hd)
  have e : ∀ m n : Nat, gcdI (m : Int) (n : Int) = ((Nat.gcd m n : Nat) : Int) := fun m n => by unfold gcdI; rw [Int.toNat_natCast, Int.toNat_natCast]
  have h := cross_nat (a := x) (b := y) (c := z) (d := u) (by omega) (by omega) (by omega) (by omega)
  simp only [e, ← Int.natCast_ediv, ← Int.natCast_mul, Int.natCast_inj]
  exact h

/-- Sums by a key. -/
def keyed (N : Nat) (key : Int → Int) (ds : List Int) : List Int := (List.range N).map fun (q : Nat) => rsum (fun st => if key st = (q : Int) then 1 else 0) ds 0
theorem keyed_len (N : Nat) (key : Int → Int) (ds : List Int) : (keyed N key ds).length = N := by simp [keyed]
theorem keyed_at (N : Nat) (key : Int → Int) (ds : List Int) {q : Nat} (h : q < N) : (keyed N key ds)[q]? = some (rsum (fun st => if key st = (q : Int) then 1 else 0) ds 0) := by
  unfold keyed
  rw [List.getElem?_map, List.getElem?_range h]; rfl
theorem keyed_getD (N : Nat) (key : Int → Int) (ds : List Int) {q : Nat} (h : q < N) : (keyed N key ds).getD q 0 = rsum (fun st => if key st = (q : Int) then 1 else 0) ds 0 := by
  rw [List.getD_eq_getElem?_getD, keyed_at N key ds h]; rfl
theorem keyed_zero (N : Nat) (key : Int → Int) : keyed N key [] = zs N := by
  unfold keyed zs
  rw [List.eq_replicate_iff]
  exact ⟨by simp, fun b hb => by
    obtain ⟨q, _, rfl⟩ := List.mem_map.1 hb
    rfl⟩
theorem keyed_step {N : Nat} {key : Int → Int} {ds : List Int} {k z : Nat} {d : Int} (hd : ds[k]? = some d) (hz : key k = z) (hN : z < N) :
    (keyed N key (ds.take k)).set z (rsum (fun st => if key st = (z : Int) then 1 else 0) (ds.take k) 0 + d) = keyed N key (ds.take (k + 1)) := by
  apply List.ext_getElem?
  intro q
  by_cases hq : q < N
  · rw [keyed_at N key (ds.take (k + 1)) hq, rsum_take _ hd, hz]
    by_cases hqz : q = z
    · subst hqz
      rw [List.getElem?_set_self (by rw [keyed_len]; exact hq), if_pos rfl, Int.mul_one]
    · rw [List.getElem?_set_ne (by omega), keyed_at N key _ hq, if_neg (by omega), Int.mul_zero, Int.add_zero]
  · rw [List.getElem?_eq_none (by rw [List.length_set, keyed_len]; omega), List.getElem?_eq_none (by rw [keyed_len]; omega)]
/-- A sum over keys is the sum over what has them. -/
theorem rsum_keyed (g : Int → Int) {N : Nat} {key : Int → Int} {ds : List Int} (hk : ∀ k : Nat, k < ds.length → 0 ≤ key k ∧ key k < N) : ∀ k : Nat, k ≤ ds.length → rsum g (keyed N key (ds.take k)) 0 = rsum (fun st => g (key st)) (ds.take k) 0
  | 0, _ => by
    rw [List.take_zero, keyed_zero]
    exact rsum_zero g N 0
  | k + 1, h => by
    have hd : ds[k]? = some (ds[k]'(by omega)) := List.getElem?_eq_getElem (by omega)
    obtain ⟨h0, h1⟩ := hk k (by omega)
    obtain ⟨z, hz⟩ : ∃ z : Nat, key k = (z : Int) := ⟨(key k).toNat, by omega⟩
    have hs := keyed_step (N := N) hd hz (by omega)
    have hg := keyed_getD N key (ds.take k) (q := z) (by omega)
    rw [← hg] at hs
    rw [← hs, rsum_set g _ z 0 _ (by rw [keyed_len]; omega), rsum_keyed g hk k (by omega), rsum_take _ hd, Nat.zero_add, hz]
theorem rsum_keyed_all (g : Int → Int) {N : Nat} {key : Int → Int} {ds : List Int} (hk : ∀ k : Nat, k < ds.length → 0 ≤ key k ∧ key k < N) : rsum g (keyed N key ds) 0 = rsum (fun st => g (key st)) ds 0 := by
  have h := rsum_keyed g hk ds.length (Nat.le_refl _)
  rwa [List.take_length] at h

/-- The key of two variables' values. -/
def key2 (a b st : Int) : Int := 3 * valueAt st a + valueAt st b
def joint (ds : List Int) (a b : Int) : List Int := keyed 9 (key2 a b) ds
def rowK (js : List Int) : List Int := keyed 3 (fun i => i / 3) js
def colK (js : List Int) : List Int := keyed 3 (fun i => i % 3) js
/-- Each entry times the whole is its row times its column. -/
def crossAt (js : List Int) (k : Nat) : Bool := decide (js.getD k 0 * isum js = (rowK js).getD (k / 3) 0 * (colK js).getD (k % 3) 0)
def crossOk (js : List Int) : Bool := (List.range 9).all fun k => crossAt js k
theorem crossOk_no {js : List Int} {k : Nat} (hk : k < 9) (h : crossAt js k = false) : crossOk js = false := by
  unfold crossOk
  rw [List.all_eq_false]
  exact ⟨k, List.mem_range.2 hk, by rw [h]; decide⟩
theorem crossOk_yes {js : List Int} (h : ∀ k, k < 9 → crossAt js k = true) : crossOk js = true := by
  unfold crossOk
  rw [List.all_eq_true]
  exact fun k hk => h k (List.mem_range.1 hk)

theorem rsum_scale (f : Int → Int) (g : Int) : ∀ (ds : List Int) (k : Nat), rsum f (ds.map fun d => d * g) k = rsum f ds k * g
  | [], k => by simp [rsum]
  | u :: r, k => by
    rw [List.map_cons, rsum, rsum, rsum_scale f g r (k + 1), Int.add_mul, Int.mul_right_comm]
theorem crossAt_scale {es : List Int} {g : Int} (hg : 0 < g) (k : Nat) (h3 : k < 9) : crossAt (es.map fun e => e * g) k = crossAt es k := by
  have e1 : (es.map fun e => e * g).getD k 0 = es.getD k 0 * g := by
    rw [List.getD_eq_getElem?_getD, List.getD_eq_getElem?_getD, List.getElem?_map]
    cases es[k]? <;> simp
  have e2 : isum (es.map fun e => e * g) = isum es * g := by rw [← rsum_one' _ 0, ← rsum_one' es 0, rsum_scale]
  have e3 : (rowK (es.map fun e => e * g)).getD (k / 3) 0 = (rowK es).getD (k / 3) 0 * g := by
    unfold rowK
    rw [keyed_getD _ _ _ (by omega), keyed_getD _ _ _ (by omega), rsum_scale]
  have e4 : (colK (es.map fun e => e * g)).getD (k % 3) 0 = (colK es).getD (k % 3) 0 * g := by
    unfold colK
    rw [keyed_getD _ _ _ (by omega), keyed_getD _ _ _ (by omega), rsum_scale]
  unfold crossAt
  rw [e1, e2, e3, e4]
  generalize es.getD k 0 = p
  generalize isum es = q
  generalize (rowK es).getD (k / 3) 0 = r
  generalize (colK es).getD (k % 3) 0 = s
  have m : ∀ x y : Int, x * g * (y * g) = x * y * (g * g) := fun x y => by rw [Int.mul_assoc, Int.mul_left_comm g y g, ← Int.mul_assoc]
  rw [m, m]
  by_cases h : p * q = r * s
  · rw [decide_eq_true h, decide_eq_true (by rw [h])]
  · rw [decide_eq_false h, decide_eq_false fun e => h (Int.eq_of_mul_eq_mul_right (by have := Int.mul_pos hg hg; omega) e)]
theorem crossOk_red {M : Int} {js : List Int} (h : ∀ x ∈ js, 0 ≤ x ∧ x ≤ M) (hM : 0 ≤ M) : crossOk (redL js) = crossOk js := by
  have hg := gcdF_bd h hM
  by_cases h0 : gcdF js = 0
  · have e : redL js = js := by unfold redL divL; exact if_pos h0
    rw [e]
  · have e : redL js = js.map fun d => d / gcdF js := by unfold redL divL; exact if_neg h0
    have hb : (js.map fun d => d / gcdF js).map (fun e => e * gcdF js) = js := by
      rw [List.map_map]
      conv => rhs; rw [← List.map_id js]
      exact List.map_congr_left fun d hx => Int.ediv_mul_cancel (gcdF_dvd h hM d hx)
    have hc : ∀ k, k < 9 → crossAt js k = crossAt (js.map fun d => d / gcdF js) k := fun k hk => by
      have := crossAt_scale (es := js.map fun d => d / gcdF js) (g := gcdF js) (by omega) k hk
      rwa [hb] at this
    rw [e]
    unfold crossOk
    rw [Bool.eq_iff_iff, List.all_eq_true, List.all_eq_true]
    constructor
    · intro hh k hk
      rw [hc k (List.mem_range.1 hk)]
      exact hh k hk
    · intro hh k hk
      rw [← hc k (List.mem_range.1 hk)]
      exact hh k hk

/-- What the marginals are of the joint sums. -/
theorem key2_bd {a b : Int} (ha : 0 ≤ a ∧ a ≤ 3) (hb : 0 ≤ b ∧ b ≤ 3) {k : Nat} (hk : k < 81) : 0 ≤ key2 a b k ∧ key2 a b k < (9 : Nat) := by
  have h1 := state_val (st := k) (v := a) (by omega) ha
  have h2 := state_val (st := k) (v := b) (by omega) hb
  unfold key2
  omega
theorem joint_sum {ds : List Int} {a b : Int} (hl : ds.length = 81) (ha : 0 ≤ a ∧ a ≤ 3) (hb : 0 ≤ b ∧ b ≤ 3) : isum (joint ds a b) = isum ds := by
  rw [← rsum_one' _ 0, ← rsum_one' ds 0]
  exact rsum_keyed_all (fun _ => 1) (fun k hk => key2_bd ha hb (by omega))
theorem marg_keyed (ds : List Int) (v : Int) : marg ds v = keyed 3 (fun st => valueAt st v) ds := rfl
theorem marg_isum {ds : List Int} {v : Int} (hl : ds.length = 81) (hv : 0 ≤ v ∧ v ≤ 3) : isum (marg ds v) = isum ds := by
  rw [marg_keyed, ← rsum_one' _ 0, ← rsum_one' ds 0]
  exact rsum_keyed_all (fun _ => 1) (fun k hk => by have := state_val (st := k) (v := v) (by omega) hv; omega)
theorem row_marg {ds : List Int} {a b : Int} (hl : ds.length = 81) (ha : 0 ≤ a ∧ a ≤ 3) (hb : 0 ≤ b ∧ b ≤ 3) {v : Nat} (hv : v < 3) : (rowK (joint ds a b)).getD v 0 = rsum (ev a v) ds 0 := by
  unfold rowK joint
  rw [keyed_getD _ _ _ hv, rsum_keyed_all _ (fun k hk => key2_bd ha hb (by omega))]
  refine rsum_congr ds 0 fun i _ hi => ?_
  have h1 := state_val (st := i) (v := a) (by omega) ha
  have h2 := state_val (st := i) (v := b) (by omega) hb
  unfold key2 ev
  by_cases h : valueAt i a = v
  · rw [if_pos h, if_pos (by omega)]
  · rw [if_neg h, if_neg (by omega)]
theorem col_marg {ds : List Int} {a b : Int} (hl : ds.length = 81) (ha : 0 ≤ a ∧ a ≤ 3) (hb : 0 ≤ b ∧ b ≤ 3) {v : Nat} (hv : v < 3) : (colK (joint ds a b)).getD v 0 = rsum (ev b v) ds 0 := by
  unfold colK joint
  rw [keyed_getD _ _ _ hv, rsum_keyed_all _ (fun k hk => key2_bd ha hb (by omega))]
  refine rsum_congr ds 0 fun i _ hi => ?_
  have h1 := state_val (st := i) (v := a) (by omega) ha
  have h2 := state_val (st := i) (v := b) (by omega) hb
  unfold key2 ev
  by_cases h : valueAt i b = v
  · rw [if_pos h, if_pos (by omega)]
  · rw [if_neg h, if_neg (by omega)]
theorem rsum_giv (f : Int → Int) {ds : List Int} {v x : Int} (hl : ds.length = 81) : ∀ k : Nat, k ≤ 81 → rsum f (givP ds v x k) 0 = rsum (fun st => ev v x st * f st) (ds.take k) 0
  | 0, _ => rfl
  | k + 1, hk => by
    have hd : ds[k]? = some (ds[k]'(by omega)) := List.getElem?_eq_getElem (by omega)
    rw [givP_succ hd, rsum_append, rsum_giv f hl k (by omega), rsum_take _ hd, givP_len, Nat.zero_add]
    simp only [rsum]
    unfold ev
    by_cases h : valueAt k v = x
    · rw [if_pos h, if_pos h, Int.one_mul]; omega
    · rw [if_neg h, if_neg h, Int.zero_mul, Int.mul_zero]; omega
theorem joint_giv {ds : List Int} {a b : Int} (hl : ds.length = 81) (ha : 0 ≤ a ∧ a ≤ 3) (hb : 0 ≤ b ∧ b ≤ 3) {v i : Nat} (hv : v < 3) (hi : i < 3) : (joint ds a b).getD (3 * v + i) 0 = rsum (ev b i) (givF ds a v 81) 0 := by
  have hT : ds.take 81 = ds := List.take_of_length_le (by omega)
  unfold joint
  rw [keyed_getD _ _ _ (by omega), givF_all, rsum_giv _ hl 81 (Nat.le_refl _), hT]
  refine rsum_congr ds 0 fun q _ hq => ?_
  have h1 := state_val (st := q) (v := a) (by omega) ha
  have h2 := state_val (st := q) (v := b) (by omega) hb
  unfold key2 ev
  by_cases e1 : valueAt q a = v
  · by_cases e2 : valueAt q b = i
    · rw [if_pos e1, if_pos e2, if_pos (by omega)]; rfl
    · rw [if_pos e1, if_neg e2, if_neg (by omega)]; rfl
  · rw [if_neg e1, if_neg (by omega), Int.zero_mul]
theorem giv_ok {ds : List Int} {v x : Int} {M : Int} (hM : 0 ≤ M) (h : lstOk M ds = true) : lstOk M (givF ds v x 81) = true := by
  obtain ⟨hl, hb⟩ := lstOk_bd h
  unfold lstOk
  rw [decide_eq_true (givF_len ds v x 81), Bool.true_and]
  unfold numsOk
  rw [List.all_eq_true]
  intro y hy
  unfold givF at hy
  obtain ⟨q, hq, rfl⟩ := List.mem_map.1 hy
  have hq81 := List.mem_range.1 hq
  refine inB_iff.2 ?_
  split
  · rw [List.getD_eq_getElem?_getD, List.getElem?_eq_getElem (by omega)]
    exact hb _ (List.getElem_mem _)
  · exact ⟨Int.le_refl _, hM⟩

/-- Whether two variables hang on each other nowhere. -/
def apartOf (ds : List Int) (a b : Int) : Bool := lvOk ds a && (lvOk ds b && (decide (a ≠ b) && crossOk (joint ds a b)))
end Go.Proofs.Ytkibkmheomlafaa
