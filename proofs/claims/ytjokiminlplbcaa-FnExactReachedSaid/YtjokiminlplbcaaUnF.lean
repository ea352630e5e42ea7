/- Plain facts of lists told out: what is in them, and that a list without a loop stays as it is. -/
import Derived.Test.YtjokiminlplbcaaUnr
namespace Go.Proofs.Ytjokiminlplbcaa
set_option maxRecDepth 100000

theorem rep_mem {body : List St} {x : St} : ∀ {n : Nat}, x ∈ rep body n → x ∈ body
  | 0, h => by simp [rep] at h
  | n + 1, h => by
    rw [rep, List.mem_append] at h
    exact h.elim rep_mem id

theorem unr_mem : ∀ (ps : List St) (k : Nat) (os : List St), unr ps k = some os → ∀ x ∈ os, x.notLoop = true ∧ x ∈ ps
  | [], k, os, h, x, hx => by
    simp only [unr, Option.some.injEq] at h
    subst h
    cases hx
  | s :: r, k + 1, os, h, x, hx => by
    rw [unr] at h
    have := unr_mem r k os h x hx
    exact ⟨this.1, List.mem_cons_of_mem _ this.2⟩
  | s :: r, 0, os, h, x, hx => by
    rw [unr] at h
    by_cases hn : s.notLoop = true
    · rw [if_pos hn] at h
      obtain ⟨t, ht, rfl⟩ := Option.map_eq_some_iff.1 h
      rcases List.mem_cons.1 hx with rfl | hx
      · exact ⟨hn, List.mem_cons_self⟩
      · have := unr_mem r 0 t ht x hx
        exact ⟨this.1, List.mem_cons_of_mem _ this.2⟩
    · rw [if_neg hn] at h
      by_cases hb : (decide (s.b.toNat ≤ r.length) && (r.take s.b.toNat).all St.notLoop) = true
      · rw [if_pos hb] at h
        obtain ⟨t, ht, rfl⟩ := Option.map_eq_some_iff.1 h
        rcases List.mem_append.1 hx with hx | hx
        · have hm := rep_mem hx
          rw [Bool.and_eq_true, List.all_eq_true] at hb
          exact ⟨hb.2 x hm, List.mem_cons_of_mem _ (List.mem_of_mem_take hm)⟩
        · have := unr_mem r s.b.toNat t ht x hx
          exact ⟨this.1, List.mem_cons_of_mem _ this.2⟩
      · rw [if_neg hb] at h
        cases h

theorem unr_self : ∀ (ps : List St), (∀ x ∈ ps, x.notLoop = true) → unr ps 0 = some ps
  | [], _ => by simp [unr]
  | s :: r, h => by
    rw [unr, if_pos (h s List.mem_cons_self), unr_self r (fun x hx => h x (List.mem_cons_of_mem _ hx))]
    rfl

theorem unrolled_parts {ps os : List St} (h : unrolled ps = some os) : ps.length ≤ 10 ∧ os.length ≤ 12 ∧ unr ps 0 = some os ∧ (∀ x ∈ os, x.notLoop = true) ∧ os.all St.ok = true := by
  unfold unrolled at h
  by_cases hc : (decide (ps.length ≤ 10) && ps.all St.ok) = true
  · rw [if_pos hc] at h
    rw [Bool.and_eq_true] at hc
    obtain ⟨hu, hl⟩ := Option.filter_eq_some_iff.1 h
    have hm := unr_mem ps 0 os hu
    refine ⟨of_decide_eq_true hc.1, of_decide_eq_true hl, hu, fun x hx => (hm x hx).1, List.all_eq_true.2 fun x hx => List.all_eq_true.1 hc.2 x (hm x hx).2⟩
  · rw [if_neg hc] at h
    cases h

theorem unrolled_self {ps os : List St} (h : unrolled ps = some os) (h10 : os.length ≤ 10) : unrolled os = some os := by
  obtain ⟨_, h12, _, hn, ho⟩ := unrolled_parts h
  exact unrolled_yes h10 ho (unr_self os hn) h12

end Go.Proofs.Ytjokiminlplbcaa
