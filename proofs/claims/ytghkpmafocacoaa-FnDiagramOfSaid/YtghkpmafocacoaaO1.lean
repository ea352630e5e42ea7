/- Diagrams: lists of cells in memory, of the call's own too; the laws' helpers over them. -/
import Derived.Test.YtghkpmafocacoaaO0
import Derived.Test.YtghkpmafocacoaaMem
import Derived.Deep.LoopGhost
import Derived.OwnWalk
namespace Go.Proofs.Ytghkpmafocacoaa
set_option maxRecDepth 100000
set_option linter.unusedVariables false
open Go.RowKit

/-- The cells of a cell, one behind the other. -/
def Ce.cells (s : Ce) : List Value := [.int .i64 s.v, .int .i64 s.n, .int .i64 s.a, .int .i64 s.b, .int .i64 s.c]
def CeAt (w : World) (g o : Nat) (s : Ce) : Prop := ∀ j u, s.cells[j]? = some u → w.cell? ⟨g, o + j, none⟩ = some u

theorem CeAt.open_ {w : World} {g o : Nat} {s : Ce} (h : CeAt w g o s) :
    w.cell? ⟨g, o, none⟩ = some (.int .i64 s.v) ∧ w.cell? ⟨g, o + 1, none⟩ = some (.int .i64 s.n) ∧ w.cell? ⟨g, o + 2, none⟩ = some (.int .i64 s.a) ∧ w.cell? ⟨g, o + 3, none⟩ = some (.int .i64 s.b) ∧ w.cell? ⟨g, o + 4, none⟩ = some (.int .i64 s.c) :=
  ⟨h 0 _ rfl, h 1 _ rfl, h 2 _ rfl, h 3 _ rfl, h 4 _ rfl⟩
def CLst (w : World) (B : Nat) (A : Option Addr) (n : Nat) (ps : List Ce) : Prop :=
  ps.length = n ∧ (0 < n → ∃ g off, A = some ⟨g, off, none⟩ ∧ g < B ∧ ∀ k s, ps[k]? = some s → CeAt w g (off + k * 5) s)

theorem CeAt.keep {w w' : World} {g o : Nat} {s : Ce} (h : CeAt w g o s) (hk : ∀ p : Addr, p.block = g → w'.cell? p = w.cell? p) : CeAt w' g o s := fun j u hu => (hk _ rfl).trans (h j u hu)
theorem CLst.keep {w w' : World} {B : Nat} {A : Option Addr} {n : Nat} {ps : List Ce} (h : CLst w B A n ps) (hk : ∀ p : Addr, p.block < B → w'.cell? p = w.cell? p) : CLst w' B A n ps :=
  ⟨h.1, fun hn => by
    obtain ⟨g, off, e, hg, hc⟩ := h.2 hn
    exact ⟨g, off, e, hg, fun k s hs => (hc k s hs).keep fun p hp => hk p (by omega)⟩⟩
theorem CLst.below {w w' : World} {B : Nat} {A : Option Addr} {n : Nat} {ps : List Ce} (h : CLst w B A n ps) (hb : Below B w w') : CLst w' B A n ps := h.keep fun _ hp => hb.cell hp
theorem CLst.more {w : World} {B B' : Nat} {A : Option Addr} {n : Nat} {ps : List Ce} (h : CLst w B A n ps) (hB : B ≤ B') : CLst w B' A n ps :=
  ⟨h.1, fun hn => by
    obtain ⟨g, off, e, hg, hc⟩ := h.2 hn
    exact ⟨g, off, e, by omega, hc⟩⟩
theorem CLst.at_ {w : World} {B : Nat} {A : Option Addr} {n k : Nat} {ps : List Ce} (h : CLst w B A n ps) (hk : k < n) :
    ∃ (g off : Nat) (s : Ce), A = some ⟨g, off, none⟩ ∧ g < B ∧ ps[k]? = some s ∧ CeAt w g (off + k * 5) s := by
  obtain ⟨g, off, e, hg, hc⟩ := h.2 (by omega)
  have hl : k < ps.length := by have := h.1; omega
  exact ⟨g, off, ps[k], e, hg, List.getElem?_eq_getElem hl, hc k _ (List.getElem?_eq_getElem hl)⟩

def cflat (os : List Ce) : List Value := os.flatMap Ce.cells
theorem cflat_nil : cflat [] = [] := rfl
theorem cflat_append (a b : List Ce) : cflat (a ++ b) = cflat a ++ cflat b := List.flatMap_append
theorem cflat_length (os : List Ce) : (cflat os).length = os.length * 5 := by
  induction os with
  | nil => rfl
  | cons s r ih =>
    have : cflat (s :: r) = s.cells ++ cflat r := rfl
    rw [this, List.length_append, ih, List.length_cons]
    simp [Ce.cells]; omega
theorem cflat_one : ∀ (os : List Ce), ∀ u ∈ cflat os, u.oneCell' = true := by
  intro os u hu
  obtain ⟨s, _, hs⟩ := List.mem_flatMap.1 hu
  simp only [Ce.cells, List.mem_cons, List.not_mem_nil, or_false] at hs
  rcases hs with rfl | rfl | rfl | rfl | rfl <;> rfl
theorem cflat_get : ∀ {qs : List Ce} {j : Nat} {u : Value}, (cflat qs)[j]? = some u → ∃ i r s, j = i * 5 + r ∧ qs[i]? = some s ∧ s.cells[r]? = some u
  | [], j, u, h => by simp [cflat] at h
  | s :: qs, j, u, h => by
    have e : cflat (s :: qs) = s.cells ++ cflat qs := rfl
    rw [e] at h
    by_cases hj : j < 5
    · exact ⟨0, j, s, by omega, rfl, by rwa [List.getElem?_append_left (by simpa [Ce.cells] using hj)] at h⟩
    · rw [List.getElem?_append_right (by simp [Ce.cells]; omega)] at h
      obtain ⟨i, r, q, h1, h2, h3⟩ := cflat_get h
      have h1' : j - 5 = i * 5 + r := h1
      exact ⟨i + 1, r, q, by omega, h2, h3⟩
theorem cflat_at : ∀ {qs : List Ce} {i r : Nat} {s : Ce} {u : Value}, qs[i]? = some s → s.cells[r]? = some u → (cflat qs)[i * 5 + r]? = some u
  | [], i, r, s, u, h, _ => by simp at h
  | q :: qs, 0, r, s, u, h, hu => by
    have hq : q = s := by simpa using h
    subst hq
    have hr : r < 5 := by have := (List.getElem?_eq_some_iff.1 hu).1; simpa [Ce.cells] using this
    have e : cflat (q :: qs) = q.cells ++ cflat qs := rfl
    rw [e, Nat.zero_mul, Nat.zero_add, List.getElem?_append_left (by simpa [Ce.cells] using hr)]
    exact hu
  | q :: qs, i + 1, r, s, u, h, hu => by
    have e : cflat (q :: qs) = q.cells ++ cflat qs := rfl
    rw [e, List.getElem?_append_right (by simp [Ce.cells]; omega)]
    have : (i + 1) * 5 + r - q.cells.length = i * 5 + r := by simp [Ce.cells]; omega
    rw [this]
    exact cflat_at (by simpa using h) hu

def COwn (w : World) (base : Nat) (v : Value) (os : List Ce) : Prop := w.ownsRow base 47 5 v os.length (cflat os)

theorem COwn.nil (w : World) (base : Nat) : COwn w base (.slice none 0 0) [] := World.ownsRow_nil w base _ _
theorem COwn.alloc {w : World} {base : Nat} {v : Value} {os : List Ce} (h : COwn w base v os) (o : Obj) : COwn (w.alloc o) base v os := World.ownsRow.alloc h o
theorem COwn.below {w w' : World} {base : Nat} {v : Value} {os : List Ce} (h : COwn w base v os) (hb : Below w.heap.size w w') : COwn w' base v os := by
  refine ⟨h.1, ?_⟩
  rcases h.2 with hn | ⟨g, cap, cur, hv, hg, hh, rest⟩
  · exact .inl hn
  · exact .inr ⟨g, cap, cur, hv, hg, (hb.block g (Array.getElem?_eq_some_iff.1 hh).1).trans hh, rest⟩
theorem COwn.form {w : World} {base : Nat} {v : Value} {os : List Ce} (h : COwn w base v os) : ∃ A c, v = .slice A os.length c ∧ os.length ≤ c ∧ c ≤ maxLen := by
  rcases h.2 with ⟨hv, hn⟩ | ⟨g, cap, cur, hv, _, _, h1, h2, _⟩
  · exact ⟨none, 0, by rw [hv, hn], by omega, by simp [maxLen]⟩
  · exact ⟨_, cap, hv, h1, h2⟩
theorem COwn.lst {w : World} {base : Nat} {A : Option Addr} {n c : Nat} {os : List Ce} (h : COwn w base (.slice A n c) os) : CLst w w.heap.size A n os := by
  rcases h.2 with ⟨hv, hn⟩ | ⟨g, cap, cur, hv, hg, hh, h1, h2, h3, h4⟩
  · injection hv with _ e2 _
    exact ⟨by omega, fun h0 => by omega⟩
  · injection hv with e1 e2 _
    refine ⟨by omega, fun h0 => ⟨g, 0, e1, (Array.getElem?_eq_some_iff.1 hh).1, fun k s hs j u hu => ?_⟩⟩
    have hf := cflat_at hs hu
    rw [Nat.zero_add, cell_of_row w g _ cur 47 (0, 0) hh]
    rw [← h4, List.getElem?_take] at hf
    split at hf
    · simpa using hf
    · cases hf

theorem info_cell : (Try.prog.info? 47).map (fun i => (i.zero, i.size, i.bytes)) = some (some (.agg #[.int .i64 0, .int .i64 0, .int .i64 0, .int .i64 0, .int .i64 0]), 5, 40) := by kernel_rfl

theorem CLst.part {w : World} {B n k m g off : Nat} {ps : List Ce} (h : CLst w B (some ⟨g, off, none⟩) n ps) (hm : 0 < m) (hk : k + m ≤ n) :
    ∀ j u, (cflat ((ps.drop k).take m))[j]? = some u → w.cell? ((⟨g, off + k * 5, none⟩ : Addr).add j) = some u := by
  intro j u hu
  obtain ⟨i, r, s, rfl, hs, hr⟩ := cflat_get hu
  obtain ⟨g', off', e, hg, hc⟩ := h.2 (by omega)
  injection e with e
  injection e with e1 e2 _
  subst e1 e2
  rw [List.getElem?_take, List.getElem?_drop] at hs
  split at hs
  · have hx := hc (k + i) s hs r u hr
    have ha : ((⟨g, off + k * 5, none⟩ : Addr).add (i * 5 + r)) = ⟨g, off + (k + i) * 5 + r, none⟩ := by
      unfold Addr.add
      split
      · (rename_i h0; simp at h0 ⊢; try omega)
      · (simp; try omega)
    rw [ha]; exact hx
  · cases hs

theorem CLst.drop_ {w : World} {B n k g off : Nat} {A' : Option Addr} {ps : List Ce} (h : CLst w B (some ⟨g, off, none⟩) n ps) (hA : n - k = 0 ∨ A' = some ⟨g, off + k * 5, none⟩) : CLst w B A' (n - k) (ps.drop k) := by
  refine ⟨by rw [List.length_drop, h.1], fun hn => ?_⟩
  obtain ⟨g', off', e, hg, hc⟩ := h.2 (by omega)
  injection e with e
  injection e with e1 e2 _
  subst e1 e2
  rcases hA with h0 | rfl
  · omega
  · refine ⟨g, _, rfl, hg, fun i s hs => ?_⟩
    rw [List.getElem?_drop] at hs
    have := hc (k + i) s hs
    rwa [show off + (k + i) * 5 = off + k * 5 + i * 5 by omega] at this

theorem COwn.append_ {w w' : World} {base : Nat} {v v' : Value} {os news : List Ce} (hown : COwn w base v os) (h : w'.ownsRow base 47 5 v' (os.length + news.length) (cflat os ++ cflat news)) (hg : w.grownBy w' v.ownBlock)
    {w0 : World} (hb : Below base w0 w) (hB : base ≤ w.heap.size) : COwn w' base v' (os ++ news) ∧ Below base w0 w' := by
  refine ⟨?_, hb.grown hg hB fun k hk => ((World.ownsRow.lt hown) k hk).1⟩
  unfold COwn
  rw [List.length_append, cflat_append]
  exact h

end Go.Proofs.Ytghkpmafocacoaa
