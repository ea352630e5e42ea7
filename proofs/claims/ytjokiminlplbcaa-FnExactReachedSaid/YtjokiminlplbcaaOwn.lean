/- Lists of statements that a call has made itself. -/
import Derived.Test.YtjokiminlplbcaaLst
import Derived.OwnWalk
namespace Go.Proofs.Ytjokiminlplbcaa
set_option maxRecDepth 100000
open Go.RowKit

def flat (os : List St) : List Value := os.flatMap St.cells
theorem flat_nil : flat [] = [] := rfl
theorem flat_append (a b : List St) : flat (a ++ b) = flat a ++ flat b := List.flatMap_append
theorem flat_length (os : List St) : (flat os).length = os.length * 7 := by
  induction os with
  | nil => rfl
  | cons s r ih =>
    have : flat (s :: r) = s.cells ++ flat r := rfl
    rw [this, List.length_append, ih, List.length_cons]
    simp [St.cells]; omega
theorem flat_one : ∀ (os : List St), ∀ u ∈ flat os, u.oneCell' = true := by
  intro os u hu
  obtain ⟨s, _, hs⟩ := List.mem_flatMap.1 hu
  simp only [St.cells, List.mem_cons, List.not_mem_nil, or_false] at hs
  rcases hs with rfl | rfl | rfl | rfl | rfl | rfl | rfl <;> rfl

/-- Where a cell of a flat list comes from. -/
theorem flat_get : ∀ {qs : List St} {j : Nat} {u : Value}, (flat qs)[j]? = some u → ∃ i r s, j = i * 7 + r ∧ qs[i]? = some s ∧ s.cells[r]? = some u
  | [], j, u, h => by simp [flat] at h
  | s :: qs, j, u, h => by
    have e : flat (s :: qs) = s.cells ++ flat qs := rfl
    rw [e] at h
    by_cases hj : j < 7
    · exact ⟨0, j, s, by omega, rfl, by rwa [List.getElem?_append_left (by simpa [St.cells] using hj)] at h⟩
    · rw [List.getElem?_append_right (by simp [St.cells]; omega)] at h
      obtain ⟨i, r, q, h1, h2, h3⟩ := flat_get h
      have h1' : j - 7 = i * 7 + r := h1
      exact ⟨i + 1, r, q, by omega, h2, h3⟩
theorem flat_at : ∀ {qs : List St} {i r : Nat} {s : St} {u : Value}, qs[i]? = some s → s.cells[r]? = some u → (flat qs)[i * 7 + r]? = some u
  | [], i, r, s, u, h, _ => by simp at h
  | q :: qs, 0, r, s, u, h, hu => by
    have hq : q = s := by simpa using h
    subst hq
    have hr : r < 7 := by have := (List.getElem?_eq_some_iff.1 hu).1; simpa [St.cells] using this
    have e : flat (q :: qs) = q.cells ++ flat qs := rfl
    rw [e, Nat.zero_mul, Nat.zero_add, List.getElem?_append_left (by simpa [St.cells] using hr)]
    exact hu
  | q :: qs, i + 1, r, s, u, h, hu => by
    have e : flat (q :: qs) = q.cells ++ flat qs := rfl
    rw [e, List.getElem?_append_right (by simp [St.cells]; omega)]
    have : (i + 1) * 7 + r - q.cells.length = i * 7 + r := by simp [St.cells]; omega
    rw [this]
    exact flat_at (by simpa using h) hu

/-- A slice's value that the call itself has made, from block 'base' on: it holds these statements. -/
def Own (w : World) (base : Nat) (v : Value) (os : List St) : Prop := w.ownsRow base 83 7 v os.length (flat os)

theorem Own.nil (w : World) (base : Nat) : Own w base (.slice none 0 0) [] := World.ownsRow_nil w base _ _
theorem Own.alloc {w : World} {base : Nat} {v : Value} {os : List St} (h : Own w base v os) (o : Obj) : Own (w.alloc o) base v os := World.ownsRow.alloc h o
theorem Own.below {w w' : World} {base : Nat} {v : Value} {os : List St} (h : Own w base v os) (hb : Below w.heap.size w w') : Own w' base v os := by
  refine ⟨h.1, ?_⟩
  rcases h.2 with hn | ⟨g, cap, cur, hv, hg, hh, rest⟩
  · exact .inl hn
  · exact .inr ⟨g, cap, cur, hv, hg, (hb.block g (Array.getElem?_eq_some_iff.1 hh).1).trans hh, rest⟩
theorem Own.form {w : World} {base : Nat} {v : Value} {os : List St} (h : Own w base v os) : ∃ A c, v = .slice A os.length c ∧ os.length ≤ c ∧ c ≤ maxLen := by
  rcases h.2 with ⟨hv, hn⟩ | ⟨g, cap, cur, hv, _, _, h1, h2, _⟩
  · exact ⟨none, 0, by rw [hv, hn], by omega, by simp [maxLen]⟩
  · exact ⟨_, cap, hv, h1, h2⟩
/-- What a call has made reads as a list. -/
theorem Own.lst {w : World} {base : Nat} {A : Option Addr} {n c : Nat} {os : List St} (h : Own w base (.slice A n c) os) : Lst w w.heap.size A n os := by
  rcases h.2 with ⟨hv, hn⟩ | ⟨g, cap, cur, hv, hg, hh, h1, h2, h3, h4⟩
  · injection hv with _ e2 _
    exact ⟨by omega, fun h0 => by omega⟩
  · injection hv with e1 e2 _
    refine ⟨by omega, fun h0 => ⟨g, 0, e1, (Array.getElem?_eq_some_iff.1 hh).1, fun k s hs j u hu => ?_⟩⟩
    have hf := flat_at hs hu
    rw [Nat.zero_add, cell_of_row w g _ cur 83 (0, 0) hh]
    rw [← h4, List.getElem?_take] at hf
    split at hf
    · simpa using hf
    · cases hf

theorem info_stmt : (Try.prog.info? 83).map (fun i => (i.zero, i.size, i.bytes)) = some (some (.agg #[.int .i64 0, .int .i64 0, .int .i64 0, .int .i64 0, .int .i64 0, .int .i64 0, .int .i64 0]), 7, 56) := by kernel_rfl

/-- The cells of a part of a list, from its head on. -/
theorem Lst.part {w : World} {B n k m g off : Nat} {ps : List St} (h : Lst w B (some ⟨g, off, none⟩) n ps) (hm : 0 < m) (hk : k + m ≤ n) :
    ∀ j u, (flat ((ps.drop k).take m))[j]? = some u → w.cell? ((⟨g, off + k * 7, none⟩ : Addr).add j) = some u := by
  intro j u hu
  obtain ⟨i, r, s, rfl, hs, hr⟩ := flat_get hu
  obtain ⟨g', off', e, hg, hc⟩ := h.2 (by omega)
  injection e with e
  injection e with e1 e2 _
  subst e1 e2
  rw [List.getElem?_take, List.getElem?_drop] at hs
  split at hs
  · have hx := hc (k + i) s hs r u hr
    have ha : ((⟨g, off + k * 7, none⟩ : Addr).add (i * 7 + r)) = ⟨g, off + (k + i) * 7 + r, none⟩ := by
      unfold Addr.add
      split
      · (rename_i h0; simp at h0 ⊢; try omega)
      · (simp; try omega)
    rw [ha]; exact hx
  · cases hs

/-- The rest of a list, from a place on. -/
theorem Lst.drop_ {w : World} {B n k g off : Nat} {A' : Option Addr} {ps : List St} (h : Lst w B (some ⟨g, off, none⟩) n ps) (hA : n - k = 0 ∨ A' = some ⟨g, off + k * 7, none⟩) : Lst w B A' (n - k) (ps.drop k) := by
  refine ⟨by rw [List.length_drop, h.1], fun hn => ?_⟩
  obtain ⟨g', off', e, hg, hc⟩ := h.2 (by omega)
  injection e with e
  injection e with e1 e2 _
  subst e1 e2
  rcases hA with h0 | rfl
  · omega
  · refine ⟨g, _, rfl, hg, fun i s hs => ?_⟩
    rw [List.getElem?_drop] at hs
    have := hc (k + i) s hs
    rwa [show off + (k + i) * 7 = off + k * 7 + i * 7 by omega] at this

/-- Behind an append: what the call owns now, and that nothing below has turned. -/
theorem Own.append_ {w w' : World} {base : Nat} {v v' : Value} {os news : List St} (hown : Own w base v os) (h : w'.ownsRow base 83 7 v' (os.length + news.length) (flat os ++ flat news)) (hg : w.grownBy w' v.ownBlock)
    {w0 : World} (hb : Below base w0 w) (hB : base ≤ w.heap.size) : Own w' base v' (os ++ news) ∧ Below base w0 w' := by
  refine ⟨?_, hb.grown hg hB fun k hk => ((World.ownsRow.lt hown) k hk).1⟩
  unfold Own
  rw [List.length_append, flat_append]
  exact h

end Go.Proofs.Ytjokiminlplbcaa
