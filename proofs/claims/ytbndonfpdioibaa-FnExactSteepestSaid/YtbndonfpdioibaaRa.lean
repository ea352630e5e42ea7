/- A region that draws its order, but whose last operations come one behind the other, after all the others. -/
import Derived.Test.YtbndonfpdioibaaRz
namespace Go.Proofs.Ytbndonfpdioibaa
open Go.RowKit Region
section
variable {P : Program} {ops : Array Oper} {Q : Exit → Act → World → Prop} {md : Region.Mode}

/-- Operations one behind the other. -/
def wpSeq (P : Program) (ops : Array Oper) (Q : Exit → Act → World → Prop) : Nat → Nat → Act → World → Prop
  | _, 0, a, w => Q .normal a w
  | i, c + 1, a, w => wpOp P ops Q i (wpSeq P ops Q (i + 1) c) a w
/-- All of the first ones are needed by a later one of them, or by the one behind them. -/
def feedsTo (md : Region.Mode) (ops : Array Oper) (n : Nat) : Bool := (List.range n).all fun k => (List.range (n + 1)).any fun j => decide (k < j) && ((ops[j]?).map fun o => o.after.any fun e => Region.binds md e && decide (e.on = k)).getD false
/-- Each one behind those needs the one ahead of it. -/
def chained (md : Region.Mode) (ops : Array Oper) (n c : Nat) : Bool := (List.range c).all fun i => decide (i = 0) || ((ops[n + i]?).map fun o => o.after.any fun e => Region.binds md e && decide (e.on + 1 = n + i)).getD false
theorem feedsTo_all {listed : Array Bool} {n : Nat} (hn : n < ops.size) (hf : feedsTo md ops n = true) (hc : Clsd md ops listed) (hl : ∀ o, ops[n]? = some o → ∀ e ∈ o.after, Region.binds md e = true → listed.getD e.on false = true) : ∀ d k, n ≤ k + d → k < n → listed.getD k false = true
  | 0, k, h1, h2 => by omega
  | d + 1, k, h1, h2 => by
    have h3 := List.all_eq_true.1 hf k (List.mem_range.2 (by omega))
    obtain ⟨j, hj, h4⟩ := List.any_eq_true.1 h3
    rw [Bool.and_eq_true] at h4
    have hjn := List.mem_range.1 hj
    have hkj := of_decide_eq_true h4.1
    obtain ⟨o, ho⟩ : ∃ o, ops[j]? = some o := ⟨_, Array.getElem?_eq_getElem (by omega)⟩
    have h5 := h4.2
    rw [ho] at h5
    have h6 : (o.after.any fun e => Region.binds md e && decide (e.on = k)) = true := h5
    obtain ⟨e, he, h7⟩ : ∃ e ∈ o.after, (Region.binds md e && decide (e.on = k)) = true := by
      rw [← Array.any_toList] at h6
      obtain ⟨e, he, h7⟩ := List.any_eq_true.1 h6
      exact ⟨e, Array.mem_toList_iff.1 he, h7⟩
    rw [Bool.and_eq_true] at h7
    have hk := of_decide_eq_true h7.2
    rw [← hk]
    by_cases hjl : j = n
    · subst hjl
      exact hl o ho e he h7.1
    · exact hc j o ho (feedsTo_all hn hf hc hl d j (by omega) (by omega)) e he h7.1
theorem getD_any {listed : Array Bool} {k : Nat} (hk : k < listed.size) (d d' : Bool) : listed.getD k d = listed.getD k d' := by
  rw [Array.getD_eq_getD_getElem?, Array.getD_eq_getD_getElem?, Array.getElem?_eq_getElem hk]
  rfl
theorem wpAny_tail {I : Array Bool → Act → World → Prop} {n c : Nat} (hn : ops.size = n + (c + 1)) (hf : feedsTo md ops n = true) (hch : chained md ops n (c + 1) = true)
    (hlt : (List.range ops.size).all (fun k => ((ops[k]?).map fun o => o.after.all fun e => decide (e.on < k)).getD true) = true)
    (hs : ∀ listed a w, I listed a w → ∀ i, i < n → i ∈ Region.ready md ops listed → wpOp P ops Q i (I (listed.setIfInBounds i true)) a w)
    (hl : ∀ listed a w, I listed a w → (∀ k, k < n → listed.getD k false = true) → wpSeq P ops Q n (c + 1) a w) (listed : Array Bool) (a : Act) (w : World) (hI : I listed a w) (hz : listed.size = n + (c + 1)) (h0 : (List.range (n + (c + 1))).all (fun k => !listed.getD k true) = true) (fuel : Nat) (hfu : openOps listed ≤ fuel) : wpAny P md ops Q fuel listed a w := by
  have hfalse : ∀ k, k < n + (c + 1) → listed.getD k false = false := fun k hk => by
    have := List.all_eq_true.1 h0 k (List.mem_range.2 hk)
    rw [getD_any (by omega) true false] at this
    simpa using this
  refine wpAny_inv (I := fun li a w => li.size = n + (c + 1) ∧ ((∀ k, n ≤ k → k < n + (c + 1) → li.getD k false = false) ∧ Clsd md ops li ∧ I li a w ∨ ∃ i, n < i ∧ i ≤ n + (c + 1) ∧ (∀ k, k < i → li.getD k false = true) ∧ (∀ k, i ≤ k → k < n + (c + 1) → li.getD k false = false) ∧ wpSeq P ops Q i (n + (c + 1) - i) a w)) ?_ ?_ fuel listed a w ⟨hz, .inl ⟨fun k _ hk => hfalse k hk, ?_, hI⟩⟩ hfu
  · rintro li a w ⟨hz, h⟩ i hi
    obtain ⟨h0, o, ho, hd⟩ := mem_ready.1 hi
    have hin : i < n + (c + 1) := by
      have := (Array.getElem?_eq_some_iff.1 ho).1
      omega
    have hi0 : li.getD i false = false := by rw [getD_any (by omega) false true]; exact h0
    have hset : ∀ k, k < n + (c + 1) → k ≠ i → (li.setIfInBounds i true).getD k false = li.getD k false := fun k hk hne => getD_set_ne false (Ne.symm hne)
    have hself : (li.setIfInBounds i true).getD i false = true := by
      rw [Array.getD_eq_getD_getElem?, Array.getElem?_setIfInBounds_self_of_lt (by omega)]
      rfl
    rcases h with ⟨hno, hc, hI⟩ | ⟨j, hj1, hj2, hjt, hjf, hq⟩
    · by_cases hil : i < n
      · refine wpOp_mono (fun a' w' h' => ⟨by simpa using hz, .inl ⟨fun k h1 h2 => ?_, clsd_set hc hi, h'⟩⟩) (hs li a w hI i hil hi)
        rw [hset k h2 (by omega)]
        exact hno k h1 h2
      · have hin0 : i = n := by
          apply Classical.byContradiction
          intro hne
          have h1 := List.all_eq_true.1 hch (i - n) (List.mem_range.2 (by omega))
          rw [Bool.or_eq_true] at h1
          rcases h1 with h1 | h1
          · have := of_decide_eq_true h1; omega
          · have e1 : n + (i - n) = i := by omega
            rw [e1, ho] at h1
            have h6 : (o.after.any fun e => Region.binds md e && decide (e.on + 1 = i)) = true := h1
            rw [← Array.any_toList] at h6
            obtain ⟨e, he, h7⟩ := List.any_eq_true.1 h6
            rw [Bool.and_eq_true] at h7
            have h8 := of_decide_eq_true h7.2
            have h9 := hd e (Array.mem_toList_iff.1 he) h7.1
            rw [hno e.on (by omega) (by omega)] at h9
            cases h9
        subst hin0
        have hB := fun k (hk : k < i) => feedsTo_all (by omega) hf hc (fun o' ho' => by
          rw [ho] at ho'
          injection ho' with ho'
          subst ho'
          exact hd) i k (by omega) hk
        refine wpOp_mono (fun a' w' h' => ⟨by simpa using hz, .inr ⟨i + 1, by omega, by omega, fun k hk => ?_, fun k h1 h2 => ?_, ?_⟩⟩) (hl li a w hI hB)
        · by_cases hki : k = i
          · subst hki; exact hself
          · rw [hset k (by omega) hki]; exact hB k (by omega)
        · rw [hset k h2 (by omega)]; exact hno k (by omega) h2
        · have e1 : i + (c + 1) - (i + 1) = c := by omega
          rw [e1]
          exact h'
    · have hij : i = j := by
        apply Classical.byContradiction
        intro hne
        by_cases hlt' : i < j
        · rw [hjt i hlt'] at hi0
          cases hi0
        · have h1 := List.all_eq_true.1 hch (i - n) (List.mem_range.2 (by omega))
          rw [Bool.or_eq_true] at h1
          rcases h1 with h1 | h1
          · have := of_decide_eq_true h1; omega
          · have e1 : n + (i - n) = i := by omega
            rw [e1, ho] at h1
            have h6 : (o.after.any fun e => Region.binds md e && decide (e.on + 1 = i)) = true := h1
            rw [← Array.any_toList] at h6
            obtain ⟨e, he, h7⟩ := List.any_eq_true.1 h6
            rw [Bool.and_eq_true] at h7
            have h8 := of_decide_eq_true h7.2
            have h9 := hd e (Array.mem_toList_iff.1 he) h7.1
            rw [hjf e.on (by omega) (by omega)] at h9
            cases h9
      subst hij
      obtain ⟨d, hd'⟩ : ∃ d, n + (c + 1) - i = d + 1 := ⟨n + (c + 1) - i - 1, by omega⟩
      rw [hd'] at hq
      refine wpOp_mono (fun a' w' h' => ⟨by simpa using hz, .inr ⟨i + 1, by omega, by omega, fun k hk => ?_, fun k h1 h2 => ?_, ?_⟩⟩) hq
      · by_cases hki : k = i
        · subst hki; exact hself
        · rw [hset k (by omega) hki]; exact hjt k (by omega)
      · rw [hset k h2 (by omega)]; exact hjf k (by omega) h2
      · have e1 : n + (c + 1) - (i + 1) = d := by omega
        rw [e1]
        exact h'
  · rintro li a w ⟨hz, h⟩ hr
    have hall := ready_done (by omega) hlt hr
    rcases h with ⟨hno, hc, hI⟩ | ⟨i, hi1, hi2, hit, hif, hq⟩
    · have h1 := hno n (by omega) (by omega)
      rw [hall n (by omega)] at h1
      cases h1
    · have hin : i = n + (c + 1) := by
        apply Classical.byContradiction
        intro hne
        have h1 := hif i (by omega) (by omega)
        rw [hall i (by omega)] at h1
        cases h1
      subst hin
      rw [Nat.sub_self] at hq
      exact hq
  · intro k o ho hk
    have hkn : k < n + (c + 1) := by
      have := (Array.getElem?_eq_some_iff.1 ho).1
      omega
    rw [hfalse k hkn] at hk
    cases hk
end
end Go.Proofs.Ytbndonfpdioibaa
