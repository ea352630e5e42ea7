/- Answers: what numbers have in common, lists divided, sums over the states with a value; plain functions. -/
import Derived.Test.YtbndonfpdioibaaSm
import Derived.Test.YtbndonfpdioibaaAg
namespace Go.Proofs.Ytbndonfpdioibaa
set_option maxRecDepth 100000
set_option linter.unusedVariables false
open Go.RowKit

/-- All numbers are from 0 to m. -/
def numsOk (m : Int) (ds : List Int) : Bool := ds.all fun d => inB d 0 m
theorem numsOk_no {m : Int} {ds : List Int} {k : Nat} {d : Int} (h : ds[k]? = some d) (hd : inB d 0 m = false) : numsOk m ds = false := by
  unfold numsOk
  rw [List.all_eq_false]
  exact ⟨d, List.mem_of_getElem? h, by rw [hd]; decide⟩
theorem numsOk_step {m : Int} {ds : List Int} {k : Nat} {d : Int} (h : numsOk m (ds.take k) = true) (hd : ds[k]? = some d) (hi : inB d 0 m = true) : numsOk m (ds.take (k + 1)) = true := by
  obtain ⟨hl, he⟩ := List.getElem?_eq_some_iff.1 hd
  unfold numsOk at h ⊢
  rw [List.take_succ_eq_append_getElem hl, he, List.all_append, h]
  simp [hi]
theorem numsOk_bd {m : Int} {ds : List Int} (h : numsOk m ds = true) : ∀ x ∈ ds, 0 ≤ x ∧ x ≤ m := fun x hx => inB_iff.1 (List.all_eq_true.1 h x hx)
/-- A number for each state, from 0 to m. -/
def lstOk (m : Int) (ds : List Int) : Bool := decide (ds.length = 81) && numsOk m ds
theorem lstOk_bd {m : Int} {ds : List Int} (h : lstOk m ds = true) : ds.length = 81 ∧ ∀ x ∈ ds, 0 ≤ x ∧ x ≤ m := by
  unfold lstOk at h
  rw [Bool.and_eq_true] at h
  exact ⟨of_decide_eq_true h.1, numsOk_bd h.2⟩

/-- The greatest number that divides all. -/
def gcdF (ds : List Int) : Int := ds.foldl gcdI 0
theorem gcdF_take {ds : List Int} {k : Nat} {d : Int} (h : ds[k]? = some d) : gcdF (ds.take (k + 1)) = gcdI (gcdF (ds.take k)) d := by
  obtain ⟨hl, he⟩ := List.getElem?_eq_some_iff.1 h
  unfold gcdF
  rw [List.take_succ_eq_append_getElem hl, he, List.foldl_append]; rfl
theorem foldl_gcd {M : Int} : ∀ {ds : List Int} {a : Int}, (∀ x ∈ ds, 0 ≤ x ∧ x ≤ M) → 0 ≤ a ∧ a ≤ M → (0 ≤ ds.foldl gcdI a ∧ ds.foldl gcdI a ≤ M) ∧ ds.foldl gcdI a ∣ a ∧ ∀ x ∈ ds, ds.foldl gcdI a ∣ x
  | [], a, _, ha => ⟨ha, Int.dvd_refl a, fun x hx => by simp at hx⟩
  | u :: r, a, h, ha => by
    have hu := h u List.mem_cons_self
    obtain ⟨h1, h2, h3⟩ := foldl_gcd (ds := r) (a := gcdI a u) (fun x hx => h x (List.mem_cons_of_mem _ hx)) (gcdI_bd ha hu)
    obtain ⟨d1, d2⟩ := gcdI_dvd ha.1 hu.1
    refine ⟨h1, Int.dvd_trans h2 d1, fun x hx => ?_⟩
    rcases List.mem_cons.1 hx with rfl | hx
    · exact Int.dvd_trans h2 d2
    · exact h3 x hx
theorem gcdF_bd {M : Int} {ds : List Int} (h : ∀ x ∈ ds, 0 ≤ x ∧ x ≤ M) (hM : 0 ≤ M) : 0 ≤ gcdF ds ∧ gcdF ds ≤ M := (foldl_gcd h ⟨Int.le_refl _, hM⟩).1
theorem gcdF_dvd {M : Int} {ds : List Int} (h : ∀ x ∈ ds, 0 ≤ x ∧ x ≤ M) (hM : 0 ≤ M) : ∀ x ∈ ds, gcdF ds ∣ x := (foldl_gcd h ⟨Int.le_refl _, hM⟩).2.2
theorem gcdF_part {M : Int} {ds : List Int} (h : ∀ x ∈ ds, 0 ≤ x ∧ x ≤ M) (hM : 0 ≤ M) (k : Nat) : 0 ≤ gcdF (ds.take k) ∧ gcdF (ds.take k) ≤ M := gcdF_bd (fun x hx => h x (List.mem_of_mem_take hx)) hM

/-- Numbers divided by one, or as they are if that is 0. -/
def divL (ds : List Int) (g : Int) : List Int := if g = 0 then ds else ds.map fun d => d / g
theorem divL_len (ds : List Int) (g : Int) : (divL ds g).length = ds.length := by unfold divL; split <;> simp
theorem div_bd {d g M : Int} (h : 0 ≤ d ∧ d ≤ M) (hg : 0 < g) : 0 ≤ d / g ∧ d / g ≤ M := by
  have h1 := Int.ediv_nonneg h.1 (Int.le_of_lt hg)
  have h2 := Int.ediv_le_self g h.1
  omega
/-- Numbers, divided by what all have in common. -/
def redL (ds : List Int) : List Int := divL ds (gcdF ds)
def reduced (ds : List Int) : List Int := if numsOk 1000000000 ds = true then redL ds else []
theorem reduced_len (ds : List Int) : (reduced ds).length ≤ ds.length := by
  unfold reduced redL
  split
  · rw [divL_len]; exact Nat.le_refl _
  · simp

theorem isum_top {M : Int} (hM : 0 ≤ M) : ∀ {ds : List Int}, (∀ x ∈ ds, 0 ≤ x ∧ x ≤ M) → 0 ≤ isum ds ∧ isum ds ≤ ds.length * M
  | [], _ => by simp [isum]
  | u :: r, h => by
    have h1 := h u List.mem_cons_self
    have h2 := isum_top hM (ds := r) (fun x hx => h x (List.mem_cons_of_mem _ hx))
    have e : (((u :: r).length : Nat) : Int) * M = (r.length : Int) * M + M := by rw [List.length_cons, Int.natCast_add, Int.add_mul]; simp
    rw [isum, e]
    omega
theorem isum_zero {ds : List Int} (h : ∀ x ∈ ds, 0 ≤ x) (h0 : isum ds = 0) : ∀ x ∈ ds, x = 0 := by
  induction ds with
  | nil => intro x hx; simp at hx
  | cons u r ih =>
    have h1 := h u List.mem_cons_self
    have h2 := isum_nonneg (ds := r) (fun x hx => h x (List.mem_cons_of_mem _ hx))
    rw [isum] at h0
    intro x hx
    rcases List.mem_cons.1 hx with rfl | hx
    · omega
    · exact ih (fun y hy => h y (List.mem_cons_of_mem _ hy)) (by omega) x hx

theorem rsum_append (v : Int → Int) : ∀ (a b : List Int) (k : Nat), rsum v (a ++ b) k = rsum v a k + rsum v b (k + a.length)
  | [], b, k => by simp [rsum]
  | u :: r, b, k => by
    rw [List.cons_append, rsum, rsum, rsum_append v r b (k + 1), List.length_cons, show k + 1 + r.length = k + (r.length + 1) by omega]
    omega
theorem rsum_take (v : Int → Int) {ds : List Int} {k : Nat} {d : Int} (h : ds[k]? = some d) : rsum v (ds.take (k + 1)) 0 = rsum v (ds.take k) 0 + d * v k := by
  obtain ⟨hl, he⟩ := List.getElem?_eq_some_iff.1 h
  have e : 0 + (ds.take k).length = k := by rw [List.length_take]; omega
  rw [List.take_succ_eq_append_getElem hl, rsum_append, he, e]
  simp [rsum]
theorem rsum_congr {v v' : Int → Int} : ∀ (ds : List Int) (k : Nat), (∀ i : Nat, k ≤ i → i < k + ds.length → v i = v' i) → rsum v ds k = rsum v' ds k
  | [], k, _ => rfl
  | u :: r, k, h => by
    rw [rsum, rsum, h k (Nat.le_refl _) (by simp), rsum_congr r (k + 1) (fun i h1 h2 => h i (by omega) (by simp; omega))]
theorem rsum_lin (v v' : Int → Int) (c : Int) : ∀ (ds : List Int) (k : Nat), rsum (fun x => v x + c * v' x) ds k = rsum v ds k + c * rsum v' ds k
  | [], k => by simp [rsum]
  | u :: r, k => by
    rw [rsum, rsum, rsum, rsum_lin v v' c r (k + 1), Int.mul_add, Int.mul_add, Int.mul_left_comm]
    omega
theorem rsum_one' : ∀ (ds : List Int) (k : Nat), rsum (fun _ => 1) ds k = isum ds
  | [], k => rfl
  | u :: r, k => by rw [rsum, isum, rsum_one' r (k + 1), Int.mul_one]
/-- Parts of a sum. -/
theorem rsum_part {v : Int → Int} {c : Int} (hv : ∀ k, 0 ≤ v k ∧ v k ≤ c) : ∀ {ds : List Int} (k : Nat), (∀ x ∈ ds, 0 ≤ x) → 0 ≤ rsum v ds k ∧ rsum v ds k ≤ isum ds * c
  | [], k, _ => by simp [rsum, isum]
  | u :: r, k, h => by
    have h1 := h u List.mem_cons_self
    have h2 := rsum_part hv (ds := r) (k + 1) (fun x hx => h x (List.mem_cons_of_mem _ hx))
    have h3 := Int.mul_nonneg h1 (hv k).1
    have h4 : u * v k ≤ u * c := Int.mul_le_mul_of_nonneg_left (hv k).2 h1
    rw [rsum, isum, Int.add_mul]
    omega

/-- 1 in the states in which a variable has a value. -/
def ev (v x : Int) (st : Int) : Int := if valueAt st v = x then 1 else 0
theorem ev_bd (v x st : Int) : 0 ≤ ev v x st ∧ ev v x st ≤ 1 := by unfold ev; split <;> omega
/-- The weights of the values of a variable. -/
def marg (ds : List Int) (v : Int) : List Int := [rsum (ev v 0) ds 0, rsum (ev v 1) ds 0, rsum (ev v 2) ds 0]
theorem marg_len (ds : List Int) (v : Int) : (marg ds v).length = 3 := rfl
theorem marg_at (ds : List Int) (v : Int) {z : Nat} (hz : z < 3) : (marg ds v)[z]? = some (rsum (ev v z) ds 0) := by
  obtain rfl | rfl | rfl : z = 0 ∨ z = 1 ∨ z = 2 := by omega
  all_goals rfl
theorem marg_step {ds : List Int} {v : Int} {k z : Nat} {d : Int} (hd : ds[k]? = some d) (hz : valueAt k v = z) (h3 : z < 3) :
    (marg (ds.take k) v).set z (rsum (ev v z) (ds.take k) 0 + d) = marg (ds.take (k + 1)) v := by
  unfold marg
  rw [rsum_take _ hd, rsum_take _ hd, rsum_take _ hd]
  have e : ∀ x : Int, ev v x k = if (z : Int) = x then 1 else 0 := fun x => by unfold ev; rw [hz]
  rw [e, e, e]
  obtain rfl | rfl | rfl : z = 0 ∨ z = 1 ∨ z = 2 := by omega
  all_goals simp
theorem marg_bd {ds : List Int} (h : ∀ x ∈ ds, 0 ≤ x) (v x : Int) (k : Nat) : 0 ≤ rsum (ev v x) (ds.take k) 0 ∧ rsum (ev v x) (ds.take k) 0 ≤ isum ds := by
  have h1 := rsum_part (ev_bd v x) (ds := ds.take k) 0 (fun y hy => h y (List.mem_of_mem_take hy))
  have h2 := (isum_le h k).2
  omega

/-- The first k numbers, 0 where a variable has not that value, then noughts. -/
def givF (ds : List Int) (v x : Int) (k : Nat) : List Int := (List.range 81).map fun (q : Nat) => if q < k ∧ valueAt q v = x then ds.getD q 0 else 0
def givP (ds : List Int) (v x : Int) (k : Nat) : List Int := (List.range k).map fun (q : Nat) => if valueAt q v = x then ds.getD q 0 else 0
theorem givF_len (ds : List Int) (v x : Int) (k : Nat) : (givF ds v x k).length = 81 := by simp [givF]
theorem givP_len (ds : List Int) (v x : Int) (k : Nat) : (givP ds v x k).length = k := by simp [givP]
theorem givF_zero (ds : List Int) (v x : Int) : givF ds v x 0 = zs 81 := by
  unfold givF zs
  rw [List.eq_replicate_iff]
  exact ⟨by simp, fun b hb => by
    obtain ⟨q, _, rfl⟩ := List.mem_map.1 hb
    rw [if_neg (by omega)]⟩
theorem givF_at (ds : List Int) (v x : Int) (k : Nat) {q : Nat} (hq : q < 81) : (givF ds v x k)[q]? = some (if q < k ∧ valueAt q v = x then ds.getD q 0 else 0) := by
  unfold givF
  rw [List.getElem?_map, List.getElem?_range hq]; rfl
theorem givF_yes {ds : List Int} {v x : Int} {k : Nat} {d : Int} (hk : k < 81) (hd : ds[k]? = some d) (hv : valueAt k v = x) : (givF ds v x k).set k d = givF ds v x (k + 1) := by
  apply List.ext_getElem?
  intro q
  by_cases hq : q < 81
  · rw [givF_at ds v x (k + 1) hq]
    by_cases hqk : q = k
    · subst hqk
      rw [List.getElem?_set_self (by rw [givF_len]; exact hq), if_pos ⟨by omega, hv⟩, List.getD_eq_getElem?_getD, hd]; rfl
    · rw [List.getElem?_set_ne (by omega), givF_at ds v x k hq]
      by_cases h1 : q < k ∧ valueAt q v = x
      · rw [if_pos h1, if_pos ⟨by omega, h1.2⟩]
      · rw [if_neg h1, if_neg (fun h => h1 ⟨by omega, h.2⟩)]
  · rw [List.getElem?_eq_none (by rw [List.length_set, givF_len]; omega), List.getElem?_eq_none (by rw [givF_len]; omega)]
theorem givF_no {ds : List Int} {v x : Int} {k : Nat} (hv : valueAt k v ≠ x) : givF ds v x (k + 1) = givF ds v x k := by
  unfold givF
  refine List.map_congr_left fun q _ => ?_
  by_cases h1 : q < k ∧ valueAt q v = x
  · rw [if_pos h1, if_pos ⟨by omega, h1.2⟩]
  · rw [if_neg h1, if_neg (fun h => h1 ⟨by
      have h2 : ¬ q = k := fun e => hv (e ▸ h.2)
      omega, h.2⟩)]
theorem givP_succ {ds : List Int} {v x : Int} {k : Nat} {d : Int} (hd : ds[k]? = some d) : givP ds v x (k + 1) = givP ds v x k ++ [if valueAt k v = x then d else 0] := by
  have e : ds.getD k 0 = d := by rw [List.getD_eq_getElem?_getD, hd]; rfl
  unfold givP
  rw [List.range_succ, List.map_append, List.map_cons, List.map_nil, e]
theorem givF_all (ds : List Int) (v x : Int) : givF ds v x 81 = givP ds v x 81 := by
  unfold givF givP
  refine List.map_congr_left fun q hq => ?_
  have := List.mem_range.1 hq
  by_cases h : valueAt q v = x
  · rw [if_pos ⟨this, h⟩, if_pos h]
  · rw [if_neg h, if_neg (fun e => h e.2)]

theorem state_val {st v : Int} (hs : 0 ≤ st ∧ st ≤ 80) (hv : 0 ≤ v ∧ v ≤ 3) : 0 ≤ valueAt st v ∧ valueAt st v ≤ 2 := by
  unfold valueAt
  rw [if_pos ⟨inB_yes hs, inB_yes hv⟩]
  omega
/-- The sum of the numbers, times the values of a variable. -/
def above (ds : List Int) (v : Int) : Int := rsum (fun st => valueAt st v) ds 0
theorem above_marg {ds : List Int} {v : Int} (hl : ds.length = 81) (hv : 0 ≤ v ∧ v ≤ 3) : above ds v = rsum (ev v 1) ds 0 + 2 * rsum (ev v 2) ds 0 := by
  unfold above
  rw [← rsum_lin]
  refine rsum_congr ds 0 fun i _ h2 => ?_
  have h := state_val (st := i) (v := v) (by omega) hv
  unfold ev
  split
  · rw [if_neg (by omega)]; omega
  · split <;> omega
theorem above_bd {ds : List Int} {v : Int} (hl : ds.length = 81) (h0 : ∀ x ∈ ds, 0 ≤ x) (hv : 0 ≤ v ∧ v ≤ 3) (k : Nat) : 0 ≤ rsum (fun st => valueAt st v) (ds.take k) 0 ∧ rsum (fun st => valueAt st v) (ds.take k) 0 ≤ 2 * isum ds := by
  have e : rsum (fun st => valueAt st v) (ds.take k) 0 = rsum (fun st => max 0 (min 2 (valueAt st v))) (ds.take k) 0 := rsum_congr _ 0 fun i _ h2 => by
    have h3 : (ds.take k).length ≤ ds.length := by rw [List.length_take]; omega
    have h := state_val (st := i) (v := v) (by omega) hv
    omega
  have h1 := rsum_part (v := fun st => max 0 (min 2 (valueAt st v))) (c := 2) (fun st => by omega) (ds := ds.take k) 0 (fun y hy => h0 y (List.mem_of_mem_take hy))
  have h2 := (isum_le h0 k).2
  rw [e]
  omega
/-- The answer of weights. -/
def answ (ws : List Int) : List Int := if isum ws = 0 then [] else redL ws
theorem answ_len (ws : List Int) : (answ ws).length ≤ ws.length := by
  unfold answ redL
  split
  · simp
  · rw [divL_len]; exact Nat.le_refl _
end Go.Proofs.Ytbndonfpdioibaa
