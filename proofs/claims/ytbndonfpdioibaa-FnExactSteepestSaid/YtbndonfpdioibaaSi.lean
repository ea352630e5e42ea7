/- Entries of rows, plain. -/
import Derived.Test.YtbndonfpdioibaaS2
namespace Go.Proofs.Ytbndonfpdioibaa
set_option maxRecDepth 100000
set_option linter.unusedVariables false
open Go.RowKit

theorem ent_add {m i z : Nat} {rs : List (List Int)} {x : Int} (h : Rk m rs) (hi : i ≤ m) (hz : z < 81) (j k : Nat) : ent (addc rs i z x) j k = if j = i ∧ k = z then ent rs i z + x else ent rs j k := by
  by_cases hj : j = i
  · subst hj
    have h1 : ent (addc rs j z x) j k = ((rs.getD j []).set z (ent rs j z + x)).getD k 0 := by
      show ((addc rs j z x).getD j []).getD k 0 = _
      rw [addc_at h hi]
    rw [h1, List.getD_eq_getElem?_getD, List.getElem?_set]
    by_cases hk : k = z
    · subst hk
      rw [if_pos rfl, if_pos (by rw [(h.at_ hi).2.1]; exact hz), if_pos ⟨rfl, rfl⟩]
      rfl
    · rw [if_neg (Ne.symm hk), if_neg (fun q => hk q.2)]
      unfold ent
      rw [List.getD_eq_getElem?_getD (l := rs.getD j [])]
  · rw [if_neg (fun q => hj q.1)]
    unfold ent
    rw [addc_ne hj]
theorem tailM_ent {m i j y : Nat} {rs : List (List Int)} (h : Rk m rs) (hj : i + 1 ≤ j) (hm : j ≤ m) (hy : y < 81) : 0 ≤ ent rs j y ∧ ent rs j y ≤ tailM (V2 m) rs (i + 1) (m - i) := by
  refine ⟨(h.ent hm hy).2, ?_⟩
  exact tailM_ge h (fun i st => V2_ge m i st) (m - i) (i + 1) j hj (by omega) _ (List.mem_of_getElem? (h.ent hm hy).1)
end Go.Proofs.Ytbndonfpdioibaa
