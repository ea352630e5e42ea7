/- Diagrams, plain: a table by which cells are found. -/
import Derived.Test.YtghkpmafocacoaaO0
namespace Go.Proofs.Ytghkpmafocacoaa
set_option maxRecDepth 100000
set_option linter.unusedVariables false
open Go.RowKit

/-- A table by which cells are found, from a slot of their own on: it has 1 more than a cell's index, or 0. -/
structure Tab (h : Ce → Nat) (ds : List Ce) (sl : List Int) : Prop where
  len : sl.length = 251
  bd : ∀ j, j < 251 → 0 ≤ sl.getD j 0 ∧ sl.getD j 0 ≤ (ds.length : Int)
  found : ∀ i, i < ds.length → ∃ d, d < 251 ∧ sl.getD ((h (gt ds i) + d) % 251) 0 = (i : Int) + 1 ∧ ∀ d', d' < d → 0 < sl.getD ((h (gt ds i) + d') % 251) 0
  zeros : 251 ≤ sl.count 0 + ds.length
  nodup : ds.Nodup
theorem Tab.nil (h : Ce → Nat) : Tab h [] (List.replicate 251 0) := by
  refine ⟨List.length_replicate, fun j hj => ?_, fun i hi => absurd hi (Nat.not_lt_zero _), ?_, List.nodup_nil⟩
  · rw [List.getD_eq_getElem?_getD, List.getElem?_replicate, if_pos hj]
    exact ⟨Int.le_refl 0, Int.le_refl 0⟩
  · rw [List.count_replicate_self]
    exact Nat.le_refl _
/-- What has been gone through: slots that are taken by others. -/
def Past (ds : List Ce) (sl : List Int) (p : Nat) (c : Ce) (d : Nat) : Prop := ∀ d', d' < d → 0 < sl.getD ((p + d') % 251) 0 ∧ gt ds (sl.getD ((p + d') % 251) 0 - 1).toNat ≠ c
theorem Tab.free {h : Ce → Nat} {ds : List Ce} {sl : List Int} (t : Tab h ds sl) (hl : ds.length ≤ 250) {p d : Nat} (hp : ∀ d', d' < d → 0 < sl.getD ((p + d') % 251) 0) : d < 251 := by
  refine Nat.lt_of_not_le fun hd => ?_
  have hz := t.zeros
  have hc : 0 < sl.count 0 := by omega
  have hm := List.count_pos_iff.1 hc
  obtain ⟨j, hj, e⟩ := List.getElem_of_mem hm
  rw [t.len] at hj
  have hx := hp ((j + 251 - p % 251) % 251) (by omega)
  rw [show (p + (j + 251 - p % 251) % 251) % 251 = j by omega] at hx
  rw [List.getD_eq_getElem?_getD, List.getElem?_eq_getElem (by rw [t.len]; exact hj), e] at hx
  simp at hx
theorem Tab.hit {h : Ce → Nat} {ds : List Ce} {sl : List Int} (t : Tab h ds sl) {j : Nat} (hj : j < 251) {c : Ce} (h0 : 0 < sl.getD j 0) (hc : gt ds (sl.getD j 0 - 1).toNat = c) :
    cput ds c = (ds, (sl.getD j 0 - 1).toNat) ∧ (sl.getD j 0 - 1).toNat < ds.length := by
  have hb := t.bd j hj
  generalize sl.getD j 0 = x at *
  have hlt : (x - 1).toNat < ds.length := by omega
  have hg := gt_some hlt
  rw [hc] at hg
  have hm : c ∈ ds := List.mem_of_getElem? hg
  refine ⟨?_, hlt⟩
  unfold cput
  rw [if_pos hm]
  have hi : ds.idxOf c < ds.length := List.idxOf_lt_length_iff.2 hm
  have e1 : ds[ds.idxOf c] = c := List.getElem_idxOf hi
  have e2 : ds[(x - 1).toNat] = c := (List.getElem?_eq_some_iff.1 hg).2
  have := (List.getElem_inj (h₀ := hi) (h₁ := hlt) t.nodup).1 (e1.trans e2.symm)
  rw [this]
theorem Tab.miss {h : Ce → Nat} {ds : List Ce} {sl : List Int} (t : Tab h ds sl) {c : Ce} {d : Nat} (hp : Past ds sl (h c) c d) (h0 : ¬ 0 < sl.getD ((h c + d) % 251) 0) : c ∉ ds := by
  intro hm
  obtain ⟨i, hi, e⟩ := List.getElem_of_mem hm
  have hg : gt ds i = c := gt_get (by rw [List.getElem?_eq_getElem hi, e])
  obtain ⟨di, h1, h2, h3⟩ := t.found i hi
  rw [hg] at h2 h3
  rcases Nat.lt_trichotomy di d with hlt | rfl | hlt
  · have := (hp di hlt).2
    rw [h2] at this
    exact this (by rw [show ((i : Int) + 1 - 1).toNat = i by omega]; exact hg)
  · omega
  · exact h0 (h3 d hlt)
theorem getD_set (sl : List Int) (p j : Nat) (x : Int) (hp : p < sl.length) : (sl.set p x).getD j 0 = if j = p then x else sl.getD j 0 := by
  rw [List.getD_eq_getElem?_getD, List.getD_eq_getElem?_getD, List.getElem?_set]
  by_cases e : j = p
  · subst e
    rw [if_pos rfl, if_pos rfl, if_pos hp]
    rfl
  · rw [if_neg (fun q => e q.symm), if_neg e]
theorem Tab.add {h : Ce → Nat} {ds : List Ce} {sl : List Int} (t : Tab h ds sl) {c : Ce} {d : Nat} (hd : d < 251) (hp : Past ds sl (h c) c d) (h0 : ¬ 0 < sl.getD ((h c + d) % 251) 0) :
    cput ds c = (ds ++ [c], ds.length) ∧ Tab h (ds ++ [c]) (sl.set ((h c + d) % 251) ((ds.length : Int) + 1)) := by
  have hn := t.miss hp h0
  have hpos : (h c + d) % 251 < 251 := Nat.mod_lt _ (by decide)
  have hz : sl.getD ((h c + d) % 251) 0 = 0 := by have := t.bd _ hpos; omega
  refine ⟨by unfold cput; rw [if_neg hn, List.idxOf_eq_length hn], ⟨?_, fun j hj => ?_, fun i hi => ?_, ?_, ?_⟩⟩
  · rw [List.length_set]; exact t.len
  · have := t.bd j hj
    rw [getD_set _ _ _ _ (by rw [t.len]; exact hpos), List.length_append, List.length_singleton]
    split <;> omega
  · rw [List.length_append, List.length_singleton] at hi
    by_cases e : i < ds.length
    · obtain ⟨di, h1, h2, h3⟩ := t.found i e
      refine ⟨di, h1, ?_, fun d' hd' => ?_⟩
      · rw [gt_left e, getD_set _ _ _ _ (by rw [t.len]; exact hpos), if_neg ?_]
        · exact h2
        · intro q
          rw [q, hz] at h2
          omega
      · rw [gt_left e, getD_set _ _ _ _ (by rw [t.len]; exact hpos)]
        split
        · omega
        · exact h3 d' hd'
    · obtain rfl : i = ds.length := by omega
      have hg : gt (ds ++ [c]) ds.length = c := gt_get (by simp)
      refine ⟨d, hd, ?_, fun d' hd' => ?_⟩
      · rw [hg, getD_set _ _ _ _ (by rw [t.len]; exact hpos), if_pos rfl]
      · rw [hg, getD_set _ _ _ _ (by rw [t.len]; exact hpos)]
        split
        · omega
        · exact (hp d' hd').1
  · have hz2 := t.zeros
    have hj : (h c + d) % 251 < sl.length := by rw [t.len]; exact hpos
    rw [List.length_append, List.length_singleton, List.count_set hj]
    split <;> split <;> omega
  · rw [List.nodup_append]
    exact ⟨t.nodup, by simp, fun a ha b hb => by rw [List.mem_singleton.1 hb]; rintro rfl; exact hn ha⟩
theorem Past.next {ds : List Ce} {sl : List Int} {p : Nat} {c : Ce} {d : Nat} (h : Past ds sl p c d) (h0 : 0 < sl.getD ((p + d) % 251) 0) (hc : gt ds (sl.getD ((p + d) % 251) 0 - 1).toNat ≠ c) : Past ds sl p c (d + 1) := fun d' hd' => by
  by_cases e : d' = d
  · subst e
    exact ⟨h0, hc⟩
  · exact h d' (by omega)
end Go.Proofs.Ytghkpmafocacoaa
