/- Parts of the proof: FD. -/
import Derived.Test.YtaipdkfbkcknkaaZAE
namespace Go.Proofs.Ytaipdkfbkcknkaa
set_option maxRecDepth 100000
set_option linter.unusedVariables false
open Go.RowKit
/-- The bit of a variable against those of lesser ones. -/
theorem bit_gt : ∀ L : Fin 16, ∀ v : Fin 4, (bitN (v.val : Int) ≤ (L.val : Int)) ↔ ¬ ((over (L.val : Int)).length = 0 ∨ vAt (over (L.val : Int)) ((over (L.val : Int)).length - 1) < (v.val : Int)) := by decide +kernel
theorem vAt_take {vs : List Int} {k i : Nat} (h : i < k) : vAt (vs.take k) i = vAt vs i := by
  unfold vAt
  rw [List.getD_eq_getElem?_getD, List.getD_eq_getElem?_getD, List.getElem?_take, if_pos h]
theorem vars_take {vs : List Int} {k : Nat} (hk : k ≤ vs.length) (h : ∀ i, i < k → vOkAt vs i = true) : varsOk (vs.take k) = true := vars_all fun i hi => by
  have hi' : i < k := by rw [List.length_take] at hi; omega
  have := h i hi'
  unfold vOkAt at this ⊢
  rw [vAt_take hi', vAt_take (show i - 1 < k by omega)]
  exact this
theorem vOk_bit {vs : List Int} {k : Nat} {v : Int} (hk : vs[k]? = some v) (h : ∀ i, i < k → vOkAt vs i = true) : vOkAt vs k = !decide (bitN v ≤ setOf (vs.take k)) := by
  have hl := (List.getElem?_eq_some_iff.1 hk).1
  have ht := vars_take (by omega) h
  obtain ⟨L, hL⟩ := vars_over ht
  have hlen : (over (L.val : Int)).length = k := by rw [← hL, List.length_take]; omega
  have hv : vAt vs k = v := by
    unfold vAt
    rw [List.getD_eq_getElem?_getD, hk]
    rfl
  rw [hL, (over_ok L).2.1]
  unfold vOkAt
  rw [hv]
  cases hin : inB v 0 3
  · have hb : bitN v = 0 := by unfold bitN; rw [hin]; rfl
    rw [hb, decide_eq_true (show (0 : Int) ≤ (L.val : Int) by omega)]
    rfl
  · obtain ⟨V, rfl, _⟩ := nat_three (inB_iff.1 hin)
    have hg := bit_gt L V
    rw [hlen] at hg
    rw [Bool.true_and, Bool.eq_iff_iff, Bool.or_eq_true, decide_eq_true_eq, decide_eq_true_eq, Bool.not_eq_true', decide_eq_false_iff_not, hg, Classical.not_not]
    by_cases h0 : k = 0
    · exact ⟨fun _ => .inl h0, fun _ => .inl h0⟩
    · rw [← hL, vAt_take (show k - 1 < k by omega)]
theorem over_in {L : Int} (hL : 0 ≤ L ∧ L ≤ 15) : ∀ v ∈ over L, 0 ≤ v ∧ v ≤ 3 := by
  obtain ⟨n, rfl⟩ := fin16 hL
  exact (vars_len (over_ok n).1).2
theorem over_len {L : Int} (hL : 0 ≤ L ∧ L ≤ 15) : (over L).length ≤ 4 := by
  obtain ⟨n, rfl⟩ := fin16 hL
  exact (over_ok n).2.2
theorem stOver_bd {L : Int} (hL : 0 ≤ L ∧ L ≤ 15) {i : Nat} : 0 ≤ stOf (over L) (i : Int) ∧ stOf (over L) (i : Int) ≤ 80 := stF_bd (over_in hL) (Int.natCast_nonneg _) (by decide)
theorem facBy_len (L : Int) (g : Int → Int) : (facBy_ L g).ns.length = 3 ^ (over L).length := by
  unfold facBy_
  simp
/-- The first numbers of a factor by states. -/
def facPre (L : Int) (g : Int → Int) (k : Nat) : List Int := (List.range k).map fun (i : Nat) => g (stOf (over L) (i : Int))
theorem facPre_succ (L : Int) (g : Int → Int) (k : Nat) : facPre L g (k + 1) = facPre L g k ++ [g (stOf (over L) (k : Int))] := by
  unfold facPre
  rw [List.range_succ, List.map_append]
  rfl
theorem facPre_len (L : Int) (g : Int → Int) (k : Nat) : (facPre L g k).length = k := by unfold facPre; simp
theorem facPre_all (L : Int) (g : Int → Int) : facPre L g (3 ^ (over L).length) = (facBy_ L g).ns := rfl
/-- The product of many factors' numbers. -/
def prodAt (Fs : List Fac) (st : Int) : Int := Fs.foldl (fun m F => m * fAt F st) 1
theorem fAt_bd {M : Int} {F : Fac} (h : facOk M F = true) (hM : 0 ≤ M) (st : Int) : 0 ≤ fAt F st ∧ fAt F st ≤ M := by
  obtain ⟨_, h2, _, _, _⟩ := fac_parts h
  unfold fAt
  rw [List.getD_eq_getElem?_getD]
  cases hg : F.ns[(idx F.vs st).toNat]? with
  | none => exact ⟨Int.le_refl 0, hM⟩
  | some d => exact inB_iff.1 (List.all_eq_true.1 h2 d (List.mem_of_getElem? hg))
end Go.Proofs.Ytaipdkfbkcknkaa
