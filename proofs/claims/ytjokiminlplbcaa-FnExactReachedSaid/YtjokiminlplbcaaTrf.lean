/- Runs and traces are one: what a trace leads to, and that each run with a weight is a trace; plain functions. -/
import Derived.Test.YtjokiminlplbcaaTrl
namespace Go.Proofs.Ytjokiminlplbcaa
set_option maxRecDepth 100000

theorem lv_run : ∀ (os : List St) (k : Nat) (st wt : Int) (l : Leaf), l ∈ lv os k st wt → l.2.2 ≠ 0 → run os k st wt l.1 = some l.2
  | [], k, st, wt, l, h, _ => by
    simp only [lv, List.mem_singleton] at h
    subst h
    rfl
  | _ :: r, k + 1, st, wt, l, h, hw => by
    rw [lv] at h
    rw [run]
    exact lv_run r k st wt l h hw
  | s :: r, 0, st, wt, l, h, hw => by
    rw [lv] at h
    by_cases h0 : wt = 0
    · rw [if_pos h0, List.mem_singleton] at h
      subst h
      exact absurd rfl hw
    · rw [if_neg h0] at h
      by_cases hd : s.draws = true
      · rw [if_pos hd] at h
        have key : ∀ d : Int, inB d 0 2 = true → l ∈ (lv r 0 (s.next st d) (wt * s.fac (s.next st d))).map (lpre [d]) → run (s :: r) 0 st wt l.1 = some l.2 := by
          intro d hx hm
          obtain ⟨l', hl', rfl⟩ := List.mem_map.1 hm
          have := lv_run r 0 _ _ l' hl' hw
          show run (s :: r) 0 st wt (d :: l'.1) = some l'.2
          rw [run_at, if_pos hd]
          simp only [hx, if_true]
          exact this
        rcases List.mem_append.1 h with h | h
        · exact key 0 (by decide) h
        · rcases List.mem_append.1 h with h | h
          · exact key 1 (by decide) h
          · exact key 2 (by decide) h
      · rw [if_neg hd] at h
        have := lv_run r _ _ _ l h hw
        rw [run_at, if_neg hd]
        exact this

theorem run_zero : ∀ (os : List St) (k : Nat) (st : Int) (ds : List Int) (p : Int × Int), run os k st 0 ds = some p → p.2 = 0
  | [], k, st, [], p, h => by
    simp [run] at h
    subst h; rfl
  | [], k, st, d :: ds, p, h => by simp [run] at h
  | _ :: r, k + 1, st, ds, p, h => by
    rw [run] at h
    exact run_zero r k st ds p h
  | s :: r, 0, st, ds, p, h => by
    rw [run_at] at h
    by_cases hd : s.draws = true
    · rw [if_pos hd] at h
      cases ds with
      | nil => simp at h
      | cons d ds =>
        simp only [Int.zero_mul] at h
        split at h
        · exact run_zero r 0 _ ds p h
        · cases h
    · rw [if_neg hd, Int.zero_mul] at h
      exact run_zero r _ _ ds p h

theorem in3 {d : Int} (h : inB d 0 2 = true) : d = 0 ∨ d = 1 ∨ d = 2 := by
  have := inB_iff.1 h; omega

theorem run_lv : ∀ (os : List St) (k : Nat) (st wt : Int) (ds : List Int) (p : Int × Int), run os k st wt ds = some p → p.2 ≠ 0 → (ds, p) ∈ lv os k st wt
  | [], k, st, wt, [], p, h, _ => by
    simp [run] at h
    subst h
    simp [lv]
  | [], k, st, wt, d :: ds, p, h, _ => by simp [run] at h
  | _ :: r, k + 1, st, wt, ds, p, h, hp => by
    rw [run] at h
    rw [lv]
    exact run_lv r k st wt ds p h hp
  | s :: r, 0, st, wt, ds, p, h, hp => by
    by_cases h0 : wt = 0
    · subst h0
      exact absurd (run_zero _ _ _ _ _ h) hp
    · rw [lv, if_neg h0]
      rw [run_at] at h
      by_cases hd : s.draws = true
      · rw [if_pos hd] at h ⊢
        cases ds with
        | nil => simp at h
        | cons d ds =>
          simp only at h
          split at h
          · rename_i hx
            have hm := run_lv r 0 _ _ ds p h hp
            have hm2 : (d :: ds, p) ∈ (lv r 0 (s.next st d) (wt * s.fac (s.next st d))).map (lpre [d]) := List.mem_map.2 ⟨_, hm, rfl⟩
            rcases in3 hx with rfl | rfl | rfl
            · exact List.mem_append_left _ hm2
            · exact List.mem_append_right _ (List.mem_append_left _ hm2)
            · exact List.mem_append_right _ (List.mem_append_right _ hm2)
          · cases h
      · rw [if_neg hd] at h ⊢
        exact run_lv r _ _ _ ds p h hp

theorem run_longer : ∀ (os : List St) (k : Nat) (st wt : Int) (ds : List Int) (p : Int × Int) (x : Int), run os k st wt ds = some p → run os k st wt (ds ++ [x]) = none
  | [], k, st, wt, [], p, x, h => by simp [run]
  | [], k, st, wt, d :: ds, p, x, h => by simp [run] at h
  | _ :: r, k + 1, st, wt, ds, p, x, h => by
    rw [run] at h ⊢
    exact run_longer r k st wt ds p x h
  | s :: r, 0, st, wt, ds, p, x, h => by
    rw [run_at] at h ⊢
    by_cases hd : s.draws = true
    · rw [if_pos hd] at h ⊢
      cases ds with
      | nil => simp at h
      | cons d ds =>
        simp only [List.cons_append] at h ⊢
        split at h
        · rename_i hx
          rw [if_pos hx]
          exact run_longer r 0 _ _ ds p x h
        · cases h
    · rw [if_neg hd] at h ⊢
      exact run_longer r _ _ _ ds p x h

theorem run_shorter {os : List St} {k : Nat} {st wt : Int} {ds : List Int} {p : Int × Int} (h : run os k st wt ds = some p) (h0 : ds ≠ []) : run os k st wt ds.dropLast = none := by
  cases h' : run os k st wt ds.dropLast with
  | none => rfl
  | some q =>
    have := run_longer os k st wt ds.dropLast q (ds.getLast h0) h'
    rw [List.dropLast_concat_getLast] at this
    rw [this] at h
    cases h

/-- What holds of each end. -/
theorem lv_fit : ∀ (os : List St) (k : Nat) (st wt : Int), (∀ s ∈ os, s.ok = true) → 0 ≤ st ∧ st ≤ 80 → 0 ≤ wt → ∀ l ∈ lv os k st wt, (0 ≤ l.2.1 ∧ l.2.1 ≤ 80) ∧ 0 ≤ l.2.2 ∧ (∀ d ∈ l.1, 0 ≤ d ∧ d ≤ 2) ∧ l.1.length ≤ (os.filter St.draws).length
  | [], k, st, wt, _, hs, hw, l, h => by
    simp only [lv, List.mem_singleton] at h
    subst h
    exact ⟨hs, hw, fun d hd => by simp at hd, by simp⟩
  | s :: r, k + 1, st, wt, ho, hs, hw, l, h => by
    rw [lv] at h
    obtain ⟨a, b, c, d⟩ := lv_fit r k st wt (fun x hx => ho x (List.mem_cons_of_mem _ hx)) hs hw l h
    refine ⟨a, b, c, Nat.le_trans d ?_⟩
    rw [List.filter_cons]
    split
    · simp
    · exact Nat.le_refl _
  | s :: r, 0, st, wt, ho, hs, hw, l, h => by
    rw [lv] at h
    have hos := ho s List.mem_cons_self
    have hor := fun x hx => ho x (List.mem_cons_of_mem s hx)
    have hle : (r.filter St.draws).length ≤ ((s :: r).filter St.draws).length := by
      rw [List.filter_cons]
      split
      · simp
      · exact Nat.le_refl _
    have hfac : ∀ d : Int, 0 ≤ d ∧ d ≤ 2 → (0 ≤ s.next st d ∧ s.next st d ≤ 80) ∧ 0 ≤ wt * s.fac (s.next st d) := fun d hd => ⟨next_bd hos hs hd, Int.mul_nonneg hw (fac_bd hos _).1⟩
    by_cases h0 : wt = 0
    · rw [if_pos h0, List.mem_singleton] at h
      subst h
      exact ⟨hs, Int.le_refl _, fun d hd => by simp at hd, by simp⟩
    · rw [if_neg h0] at h
      by_cases hd : s.draws = true
      · rw [if_pos hd] at h
        have key : ∀ d : Int, 0 ≤ d ∧ d ≤ 2 → l ∈ (lv r 0 (s.next st d) (wt * s.fac (s.next st d))).map (lpre [d]) → (0 ≤ l.2.1 ∧ l.2.1 ≤ 80) ∧ 0 ≤ l.2.2 ∧ (∀ d ∈ l.1, 0 ≤ d ∧ d ≤ 2) ∧ l.1.length ≤ ((s :: r).filter St.draws).length := by
          intro d hx hm
          obtain ⟨l', hl', rfl⟩ := List.mem_map.1 hm
          obtain ⟨f1, f2⟩ := hfac d hx
          obtain ⟨a, b, c, e⟩ := lv_fit r 0 _ _ hor f1 f2 l' hl'
          refine ⟨a, b, fun y hy => ?_, ?_⟩
          · have hy' : y ∈ d :: l'.1 := hy
            rcases List.mem_cons.1 hy' with rfl | hy'
            · exact hx
            · exact c y hy'
          · rw [List.filter_cons, if_pos hd]
            show (d :: l'.1).length ≤ _
            simp; exact e
        rcases List.mem_append.1 h with h | h
        · exact key 0 (by decide) h
        · rcases List.mem_append.1 h with h | h
          · exact key 1 (by decide) h
          · exact key 2 (by decide) h
      · rw [if_neg hd] at h
        obtain ⟨f1, f2⟩ := hfac 0 (by decide)
        obtain ⟨a, b, c, e⟩ := lv_fit r _ _ _ hor f1 f2 l h
        exact ⟨a, b, c, Nat.le_trans e hle⟩

theorem traces_iff {os : List St} {l : Leaf} : l ∈ traces os ↔ runR os ⟨0, 0, 1⟩ l.1 = some l.2 ∧ l.2.2 ≠ 0 := by
  unfold traces filt lvR runR
  rw [List.mem_filter]
  constructor
  · rintro ⟨h, hw⟩
    have hw' : l.2.2 ≠ 0 := by simpa using hw
    exact ⟨lv_run _ _ _ _ l h hw', hw'⟩
  · rintro ⟨h, hw⟩
    exact ⟨run_lv _ _ _ _ _ _ h hw, by simpa using hw⟩

theorem traces_fit {os : List St} (ho : ∀ s ∈ os, s.ok = true) {l : Leaf} (h : l ∈ traces os) : (0 ≤ l.2.1 ∧ l.2.1 ≤ 80) ∧ 0 < l.2.2 ∧ (∀ d ∈ l.1, 0 ≤ d ∧ d ≤ 2) ∧ l.1.length ≤ (os.filter St.draws).length := by
  have hm := h
  unfold traces filt lvR at hm
  rw [List.mem_filter] at hm
  obtain ⟨a, b, c, d⟩ := lv_fit _ _ _ _ (by simpa using ho) ⟨by decide, by decide⟩ (by decide) l hm.1
  have := (traces_iff.1 h).2
  rw [List.drop_zero] at d
  exact ⟨a, by omega, c, d⟩

end Go.Proofs.Ytjokiminlplbcaa
