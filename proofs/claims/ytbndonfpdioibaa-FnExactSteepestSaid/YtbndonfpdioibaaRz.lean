/- A region that draws its order, whose last operation needs all the others: it comes last. -/
import Derived.Test.YtbndonfpdioibaaRy
namespace Go.Proofs.Ytbndonfpdioibaa
open Go.RowKit Region
section
variable {P : Program} {ops : Array Oper} {Q : Exit → Act → World → Prop} {md : Region.Mode}

/-- What is listed has all that it needs listed. -/
def Clsd (md : Region.Mode) (ops : Array Oper) (listed : Array Bool) : Prop := ∀ k o, ops[k]? = some o → listed.getD k false = true → ∀ e ∈ o.after, Region.binds md e = true → listed.getD e.on false = true
/-- All but the last one are needed by a later one. -/
def feeds (md : Region.Mode) (ops : Array Oper) : Bool := (List.range (ops.size - 1)).all fun k => (List.range ops.size).any fun j => decide (k < j) && ((ops[j]?).map fun o => o.after.any fun e => Region.binds md e && decide (e.on = k)).getD false
theorem set_true_getD {listed : Array Bool} {i k : Nat} (h : (listed.setIfInBounds i true).getD k false = true) : k = i ∨ listed.getD k false = true := by
  by_cases hk : i = k
  · exact .inl hk.symm
  · exact .inr (listed_ne hk h)
theorem clsd_set {listed : Array Bool} {i : Nat} (h : Clsd md ops listed) (hi : i ∈ Region.ready md ops listed) : Clsd md ops (listed.setIfInBounds i true) := by
  intro k o ho hk e he hb
  obtain ⟨_, o', ho', hd⟩ := mem_ready.1 hi
  rcases set_true_getD hk with rfl | hk'
  · rw [ho] at ho'
    injection ho' with ho'
    subst ho'
    exact getD_set_true (hd e he hb)
  · exact getD_set_true (h k o ho hk' e he hb)
theorem feeds_all {listed : Array Bool} {n : Nat} (hn : ops.size = n + 1) (hf : feeds md ops = true) (hc : Clsd md ops listed) (hl : ∀ o, ops[n]? = some o → ∀ e ∈ o.after, Region.binds md e = true → listed.getD e.on false = true) : ∀ d k, n ≤ k + d → k < n → listed.getD k false = true
  | 0, k, h1, h2 => by omega
  | d + 1, k, h1, h2 => by
    have h3 := List.all_eq_true.1 hf k (List.mem_range.2 (by omega))
    obtain ⟨j, hj, h4⟩ := List.any_eq_true.1 h3
    rw [Bool.and_eq_true] at h4
    have hjn := List.mem_range.1 hj
    have hkj := of_decide_eq_true h4.1
    obtain ⟨o, ho⟩ : ∃ o, ops[j]? = some o := ⟨_, Array.getElem?_eq_getElem hjn⟩
    have h5 := h4.2
    rw [ho] at h5
    have h6 : (o.after.any fun e => Region.binds md e && decide (e.on = k)) = true := h5
    obtain ⟨e, he, h7⟩ : ∃ e ∈ o.after, (Region.binds md e && decide (e.on = k)) = true := by
      rw [← Array.any_toList] at h6
      obtain ⟨e, he, h7⟩ := List.any_eq_true.1 h6
      exact ⟨e, Array.mem_toList_iff.1 he, h7⟩
    rw [Bool.and_eq_true] at h7
    have hk := of_decide_eq_true h7.2
    rw [← hk]
    by_cases hjl : j = n
    · subst hjl
      exact hl o ho e he h7.1
    · exact hc j o ho (feeds_all hn hf hc hl d j (by omega) (by omega)) e he h7.1
theorem wpAny_last {I : Array Bool → Act → World → Prop} {n : Nat} (hn : ops.size = n + 1) (hf : feeds md ops = true)
    (hlt : (List.range ops.size).all (fun k => ((ops[k]?).map fun o => o.after.all fun e => decide (e.on < k)).getD true) = true)
    (hs : ∀ listed a w, I listed a w → ∀ i, i < n → i ∈ Region.ready md ops listed → wpOp P ops Q i (I (listed.setIfInBounds i true)) a w)
    (hl : ∀ listed a w, I listed a w → (∀ k, k < n → listed.getD k false = true) → wpOp P ops Q n (fun a w => Q .normal a w) a w) (listed : Array Bool) (a : Act) (w : World) (hI : I listed a w) (hz : listed.size = n + 1) (h0 : (List.range (n + 1)).all (fun k => !listed.getD k true) = true) (fuel : Nat) (hfu : openOps listed ≤ fuel) : wpAny P md ops Q fuel listed a w := by
  have hfalse : ∀ k, k < n + 1 → listed.getD k false = false := fun k hk => by
    have := List.all_eq_true.1 h0 k (List.mem_range.2 hk)
    rw [Array.getD_eq_getD_getElem?, Array.getElem?_eq_getElem (by omega)] at this ⊢
    simpa using this
  refine wpAny_inv (I := fun li a w => (li.size = n + 1 ∧ li.getD n false = false ∧ Clsd md ops li ∧ I li a w) ∨ ((∀ k, k < n + 1 → li.getD k true = true) ∧ Q .normal a w)) ?_ ?_ fuel listed a w (.inl ⟨hz, hfalse n (by omega), ?_, hI⟩) hfu
  · rintro li a w (⟨hz, hno, hc, hI⟩ | ⟨hall, hq⟩) i hi
    · obtain ⟨h0, o, ho, hd⟩ := mem_ready.1 hi
      have hin : i < n + 1 := by
        have := (Array.getElem?_eq_some_iff.1 ho).1
        omega
      by_cases hil : i = n
      · subst hil
        have hA := feeds_all hn hf hc (fun o' ho' => by
          rw [ho] at ho'
          injection ho' with ho'
          subst ho'
          exact hd) i
        have hB := fun k (hk : k < i) => hA k (by omega) hk
        refine wpOp_mono (fun a' w' h' => .inr ⟨fun k hk => ?_, h'⟩) (hl li a w hI hB)
        by_cases hki : k = i
        · subst hki
          rw [Array.getD_eq_getD_getElem?, Array.getElem?_setIfInBounds_self_of_lt (by omega)]
          rfl
        · have h1 := getD_set_true (i := i) (hB k (by omega))
          rw [Array.getD_eq_getD_getElem?, Array.getElem?_eq_getElem (by simp; omega)] at h1 ⊢
          exact h1
      · refine wpOp_mono (fun a' w' h' => .inl ⟨by simpa using hz, ?_, clsd_set hc hi, h'⟩) (hs li a w hI i (by omega) hi)
        cases hx : (li.setIfInBounds i true).getD n false
        · rfl
        · rw [listed_ne hil hx] at hno
          cases hno
    · obtain ⟨h0, o, ho, hd⟩ := mem_ready.1 hi
      have hin : i < n + 1 := by
        have := (Array.getElem?_eq_some_iff.1 ho).1
        omega
      rw [hall i hin] at h0
      cases h0
  · rintro li a w (⟨hz, hno, hc, hI⟩ | ⟨hall, hq⟩) hr
    · exfalso
      have := ready_done (by omega) hlt hr n (by omega)
      rw [this] at hno
      cases hno
    · exact hq
  · intro k o ho hk
    have hkn : k < n + 1 := by
      have := (Array.getElem?_eq_some_iff.1 ho).1
      omega
    rw [hfalse k hkn] at hk
    cases hk
end
end Go.Proofs.Ytbndonfpdioibaa
