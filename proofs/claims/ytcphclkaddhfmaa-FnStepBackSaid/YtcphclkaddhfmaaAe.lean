/- PushOn: plain functions; the program's function. -/
import Derived.Test.YtcphclkaddhfmaaAb
import Derived.Test.YtcphclkaddhfmaaMdf
namespace Go.Proofs.Ytcphclkaddhfmaa
set_option maxRecDepth 100000
set_option linter.unusedVariables false
open Go.RowKit

def pushOk (ps : List St) (ds : List Int) : Bool := match unrolled ps with
  | none => false
  | some os => decide (os.length ≤ 10) && lstOk 9 ds
def pushOf (ps : List St) (ds : List Int) : List Int := match unrolled ps with
  | none => []
  | some os => if (decide (os.length ≤ 10) && lstOk 9 ds) = true then pushed os ds else []
theorem pushed_len (os : List St) (ds : List Int) : (pushed os ds).length = 81 := by simp [pushed]
theorem pushOf_len (ps : List St) (ds : List Int) : (pushOf ps ds).length ≤ 81 := by
  unfold pushOf
  cases unrolled ps with
  | none => simp
  | some os =>
    dsimp only
    split
    · rw [pushed_len]; exact Nat.le_refl _
    · simp

/-- The fronts behind the first k runs that were put. -/
def putF (m : Nat) (lv ds : List Int) : Nat → Nat → Fr
  | 0 => fun _ => []
  | k + 1 => toF m lv (putF m lv ds k) ⟨0, (k : Int), ds.getD k 0⟩
theorem getD_bd {ds : List Int} {M : Int} (h : ∀ x ∈ ds, 0 ≤ x ∧ x ≤ M) (hM : 0 ≤ M) (k : Nat) : 0 ≤ ds.getD k 0 ∧ ds.getD k 0 ≤ M := by
  rw [List.getD_eq_getElem?_getD]
  cases hk : ds[k]? with
  | none => exact ⟨Int.le_refl _, hM⟩
  | some d => exact h d (List.mem_of_getElem? hk)
theorem putF_P0 {m : Nat} {lv ds : List Int} (h : ∀ x ∈ ds, 0 ≤ x ∧ x ≤ 9) : ∀ k : Nat, k ≤ 81 → P0 (putF m lv ds k)
  | 0, _ => P0.start
  | k + 1, hk => (putF_P0 h k (by omega)).put (by omega) (getD_bd h (by decide) k).1
theorem putF_sum (m : Nat) (lv : List Int) {ds : List Int} (v : Int → Int) : ∀ k : Nat, k ≤ ds.length → sumV v (putF m lv ds k 0) = rsum (fun st => v (vo (lv.getD 0 0) st)) (ds.take k) 0
  | 0, _ => rfl
  | k + 1, hk => by
    have hd : ds[k]? = some (ds.getD k 0) := by rw [List.getD_eq_getElem?_getD, List.getElem?_eq_getElem (by omega)]; rfl
    show sumV v (toF m lv (putF m lv ds k) ⟨0, (k : Int), ds.getD k 0⟩ 0) = _
    rw [P0.sum, putF_sum m lv v k (by omega), rsum_take _ hd]
theorem putF_ent {m : Nat} {lv ds : List Int} (h : ∀ x ∈ ds, 0 ≤ x ∧ x ≤ 9) (hl : ds.length = 81) {k : Nat} (hk : k ≤ 81) (i : Nat) : ∀ p ∈ putF m lv ds k i, p.2 ≤ 1000000000000000000 := by
  intro p hp
  have h0 := putF_P0 (m := m) (lv := lv) h k hk
  by_cases hi : i = 0
  · subst hi
    have h1 := sumV_ge (v := fun _ => 1) (rs := putF m lv ds k 0) (fun p hp => ⟨by have := ((h0.1 0).1 p hp).2; omega, by decide⟩) p hp
    rw [putF_sum m lv (fun _ => 1) k (by omega), rsum_one'] at h1
    have h2 := (isum_le (fun x hx => (h x hx).1) k).2
    have h3 := (isum_top (by decide) h).2
    rw [hl] at h3
    omega
  · rw [h0.2 i (by omega)] at hp
    simp at hp
theorem V2_ten {m : Nat} (h : m ≤ 10) (st : Int) : 0 ≤ V2 m 0 st ∧ V2 m 0 st ≤ 205891132094649 := by
  refine ⟨by have := V2_ge m 0 st; omega, ?_⟩
  have h1 := V2_mono (m := 10) (i := 0) (j := 10 - m) (by omega) 0 0
  unfold V2 at h1 ⊢
  rw [show 10 - (10 - m) = m by omega] at h1
  have e : (27 : Int) ^ (10 - 0) = 205891132094649 := by decide
  rw [e] at h1
  exact h1
theorem push_V2 {m : Nat} (hm : m ≤ 10) {ds : List Int} (h : ∀ x ∈ ds, 0 ≤ x ∧ x ≤ 9) (hl : ds.length = 81) : rsum (V2 m 0) ds 0 ≤ 1000000000000000000 := by
  have h1 := (rsum_part (V2_ten hm) (ds := ds) 0 (fun x hx => (h x hx).1)).2
  have h3 := isum_top (by decide) h
  rw [hl] at h3
  omega
theorem putF_gst {os : List St} {m : Nat} {ds : List Int} (hm : os.length = m) (h10 : m ≤ 10) (hok : ∀ s ∈ os, s.ok = true ∧ s.notLoop = true) (h : ∀ x ∈ ds, 0 ≤ x ∧ x ≤ 9) (hl : ds.length = 81) :
    Gst 15 os m (fun q => rsum (valAt q os 0) ds 0) (putF m (lives 15 os) ds 81) 0 (putF m (lives 15 os) ds 81 0) := by
  have hT : ds.take 81 = ds := List.take_of_length_le (by omega)
  refine (putF_P0 h 81 (Nat.le_refl _)).gst ?_ fun q hq => ?_
  · rw [putF_sum m _ _ 81 (by omega), hT]
    exact push_V2 h10 h hl
  · rw [putF_sum m _ _ 81 (by omega), hT]
    exact rsum_congr ds 0 fun i _ hi => valAt_vo hq hok (Nat.zero_le _) (by omega)

end Go.Proofs.Ytcphclkaddhfmaa
