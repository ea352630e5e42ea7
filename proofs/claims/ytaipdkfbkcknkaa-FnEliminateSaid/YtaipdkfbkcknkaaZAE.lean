/- Parts of the proof: FD. -/
import Derived.Test.YtaipdkfbkcknkaaZAD
namespace Go.Proofs.Ytaipdkfbkcknkaa
set_option maxRecDepth 100000
set_option linter.unusedVariables false
open Go.RowKit
theorem idx_append : ∀ (vs : List Int) (v st : Int), idx (vs ++ [v]) st = idx vs st + ((3 ^ vs.length : Nat) : Int) * valueAt st v
  | [], v, st => by simp [idx]
  | u :: r, v, st => by
    have ih := idx_append r v st
    have e1 : idx (u :: r ++ [v]) st = 3 * idx (r ++ [v]) st + valueAt st u := rfl
    have e2 : idx (u :: r) st = 3 * idx r st + valueAt st u := rfl
    have e3 : ((3 ^ (u :: r).length : Nat) : Int) = 3 * ((3 ^ r.length : Nat) : Int) := by
      rw [List.length_cons, Nat.pow_succ, Int.natCast_mul, Int.mul_comm]; rfl
    rw [e1, e2, e3, ih, Int.mul_add, Int.mul_assoc]
    omega
theorem idx_take {vs : List Int} {k : Nat} {v st : Int} (h : vs[k]? = some v) : idx (vs.take (k + 1)) st = idx (vs.take k) st + ((3 ^ k : Nat) : Int) * valueAt st v := by
  obtain ⟨hl, he⟩ := List.getElem?_eq_some_iff.1 h
  rw [List.take_succ_eq_append_getElem hl, idx_append, he, List.length_take, Nat.min_eq_left (by omega)]
/-- The bit of a variable against those of lesser ones. -/
theorem bit_gt : ∀ L : Fin 16, ∀ v : Fin 4, (bitN (v.val : Int) ≤ (L.val : Int)) ↔ ¬ ((over (L.val : Int)).length = 0 ∨ vAt (over (L.val : Int)) ((over (L.val : Int)).length - 1) < (v.val : Int)) := by decide +kernel
theorem vAt_take {vs : List Int} {k i : Nat} (h : i < k) : vAt (vs.take k) i = vAt vs i := by
  unfold vAt
  rw [List.getD_eq_getElem?_getD, List.getD_eq_getElem?_getD, List.getElem?_take, if_pos h]
theorem vars_take {vs : List Int} {k : Nat} (hk : k ≤ vs.length) (h : ∀ i, i < k → vOkAt vs i = true) : varsOk (vs.take k) = true := vars_all fun i hi => by
  have hi' : i < k := by rw [List.length_take] at hi; omega
  have := h i hi'
  unfold vOkAt at this ⊢
  rw [vAt_take hi', vAt_take (show i - 1 < k by omega)]
  exact this
theorem vOk_bit {vs : List Int} {k : Nat} {v : Int} (hk : vs[k]? = some v) (h : ∀ i, i < k → vOkAt vs i = true) : vOkAt vs k = !decide (bitN v ≤ setOf (vs.take k)) := by
  have hl := (List.getElem?_eq_some_iff.1 hk).1
  have ht := vars_take (by omega) h
  obtain ⟨L, hL⟩ := vars_over ht
  have hlen : (over (L.val : Int)).length = k := by rw [← hL, List.length_take]; omega
  have hv : vAt vs k = v := by
    unfold vAt
    rw [List.getD_eq_getElem?_getD, hk]
    rfl
  rw [hL, (over_ok L).2.1]
  unfold vOkAt
  rw [hv]
  cases hin : inB v 0 3
  · have hb : bitN v = 0 := by unfold bitN; rw [hin]; rfl
    rw [hb, decide_eq_true (show (0 : Int) ≤ (L.val : Int) by omega)]
    rfl
  · obtain ⟨V, rfl, _⟩ := nat_three (inB_iff.1 hin)
    have hg := bit_gt L V
    rw [hlen] at hg
    rw [Bool.true_and, Bool.eq_iff_iff, Bool.or_eq_true, decide_eq_true_eq, decide_eq_true_eq, Bool.not_eq_true', decide_eq_false_iff_not, hg, Classical.not_not]
    by_cases h0 : k = 0
    · exact ⟨fun _ => .inl h0, fun _ => .inl h0⟩
    · rw [← hL, vAt_take (show k - 1 < k by omega)]
/-- Counted up: what the values of a set's last variables are next. -/
def cu (L : Int) : Nat → Int → Int
  | 0, st => st
  | j + 1, st => if tb L (4 - (j + 1)) = false then cu L j st else if 0 < (valueAt st ((4 - (j + 1) : Nat) : Int) + 1) % 3 then withValue st ((4 - (j + 1) : Nat) : Int) ((valueAt st ((4 - (j + 1) : Nat) : Int) + 1) % 3) else cu L j (withValue st ((4 - (j + 1) : Nat) : Int) ((valueAt st ((4 - (j + 1) : Nat) : Int) + 1) % 3))
theorem cu_st : ∀ L : Fin 16, ∀ i : Fin 81, i.val < 3 ^ (over (L.val : Int)).length → cu (L.val : Int) 4 (stOf (over (L.val : Int)) (i.val : Int)) = stOf (over (L.val : Int)) ((i.val : Int) + 1) := by decide +kernel
theorem cu_st_ {L : Int} (hL : 0 ≤ L ∧ L ≤ 15) {i : Nat} (hi : i < 3 ^ (over L).length) : cu L 4 (stOf (over L) (i : Int)) = stOf (over L) ((i + 1 : Nat) : Int) := by
  obtain ⟨n, rfl⟩ := fin16 hL
  have := pow_four (over_ok n).2.2
  have := cu_st n ⟨i, by omega⟩ hi
  rw [Int.natCast_add]
  exact this
theorem stOf_zero {L : Int} : ∀ (vs : List Int), (∀ v ∈ vs, 0 ≤ v ∧ v ≤ 3) → stOf vs 0 = 0 := by
  intro vs h
  unfold stOf
  induction vs with
  | nil => rfl
  | cons v r ih =>
    have e : stF (v :: r) 0 0 = stF r (0 / 3) (withValue 0 v (0 % 3)) := rfl
    obtain ⟨V, rfl, _⟩ := nat_three (h v List.mem_cons_self)
    have hw : ∀ V : Fin 4, withValue 0 (V.val : Int) (0 % 3) = 0 := by decide +kernel
    rw [e, hw V]
    exact ih fun u hu => h u (List.mem_cons_of_mem _ hu)
theorem over_in {L : Int} (hL : 0 ≤ L ∧ L ≤ 15) : ∀ v ∈ over L, 0 ≤ v ∧ v ≤ 3 := by
  obtain ⟨n, rfl⟩ := fin16 hL
  exact (vars_len (over_ok n).1).2
theorem over_len {L : Int} (hL : 0 ≤ L ∧ L ≤ 15) : (over L).length ≤ 4 := by
  obtain ⟨n, rfl⟩ := fin16 hL
  exact (over_ok n).2.2
theorem stOver_bd {L : Int} (hL : 0 ≤ L ∧ L ≤ 15) {i : Nat} : 0 ≤ stOf (over L) (i : Int) ∧ stOf (over L) (i : Int) ≤ 80 := stF_bd (over_in hL) (Int.natCast_nonneg _) (by decide)
theorem facBy_len (L : Int) (g : Int → Int) : (facBy_ L g).ns.length = 3 ^ (over L).length := by
  unfold facBy_
  simp
/-- The first numbers of a factor by states. -/
def facPre (L : Int) (g : Int → Int) (k : Nat) : List Int := (List.range k).map fun (i : Nat) => g (stOf (over L) (i : Int))
theorem facPre_succ (L : Int) (g : Int → Int) (k : Nat) : facPre L g (k + 1) = facPre L g k ++ [g (stOf (over L) (k : Int))] := by
  unfold facPre
  rw [List.range_succ, List.map_append]
  rfl
theorem facPre_len (L : Int) (g : Int → Int) (k : Nat) : (facPre L g k).length = k := by unfold facPre; simp
theorem facPre_all (L : Int) (g : Int → Int) : facPre L g (3 ^ (over L).length) = (facBy_ L g).ns := rfl
/-- The product of many factors' numbers. -/
def prodAt (Fs : List Fac) (st : Int) : Int := Fs.foldl (fun m F => m * fAt F st) 1
theorem prod_take {Fs : List Fac} {k : Nat} {F : Fac} (h : Fs[k]? = some F) (st : Int) : prodAt (Fs.take (k + 1)) st = prodAt (Fs.take k) st * fAt F st := by
  obtain ⟨hl, he⟩ := List.getElem?_eq_some_iff.1 h
  unfold prodAt
  rw [List.take_succ_eq_append_getElem hl, List.foldl_append, he]
  rfl
theorem fAt_bd {M : Int} {F : Fac} (h : facOk M F = true) (hM : 0 ≤ M) (st : Int) : 0 ≤ fAt F st ∧ fAt F st ≤ M := by
  obtain ⟨_, h2, _, _, _⟩ := fac_parts h
  unfold fAt
  rw [List.getD_eq_getElem?_getD]
  cases hg : F.ns[(idx F.vs st).toNat]? with
  | none => exact ⟨Int.le_refl 0, hM⟩
  | some d => exact inB_iff.1 (List.all_eq_true.1 h2 d (List.mem_of_getElem? hg))
theorem prod_bd {M : Int} {Fs : List Fac} (hM : 1 ≤ M) (h : ∀ F ∈ Fs, facOk M F = true) (st : Int) : ∀ k, 0 ≤ prodAt (Fs.take k) st ∧ prodAt (Fs.take k) st ≤ M ^ k
  | 0 => by simp [prodAt]
  | k + 1 => by
    have ih := prod_bd hM h st k
    have hp : (0 : Int) ≤ M ^ k := Int.pow_nonneg (by omega)
    cases hk : Fs[k]? with
    | none =>
      have hl := List.getElem?_eq_none_iff.1 hk
      rw [List.take_of_length_le (by omega)] at ih ⊢
      refine ⟨ih.1, Int.le_trans ih.2 ?_⟩
      rw [Int.pow_succ]
      have := Int.mul_le_mul_of_nonneg_left hM hp
      omega
    | some F =>
      have hF := fAt_bd (h F (List.mem_of_getElem? hk)) (by omega) st
      rw [prod_take hk, Int.pow_succ]
      exact ⟨Int.mul_nonneg ih.1 hF.1, Int.mul_le_mul ih.2 hF.2 hF.1 hp⟩
end Go.Proofs.Ytaipdkfbkcknkaa
