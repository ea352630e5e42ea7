/- Whether a change fits: plain facts for the model's l6Ok. -/
import Derived.Test.YtkggejmamhakaaaCn
namespace Go.Proofs.Ytkggejmamhakaaa
set_option maxRecDepth 100000
set_option linter.unusedVariables false
open Go.RowKit

theorem ok_wsm {s : St} (h : s.ok = true) (h6 : s.k < 6) : (0 ≤ s.u ∧ s.u ≤ 9) ∧ (0 ≤ s.v ∧ s.v ≤ 9) ∧ (0 ≤ s.x ∧ s.x ≤ 9) := by
  have := ok_w h h6
  exact ⟨this.1, this.2.1, this.2.2.1⟩
theorem bit_and : ∀ r : Fin 16, ∀ a : Fin 4, (bits .and .i64 (r : Int) (bitN (a : Int)) == 0) = (bitAt r a == 0) := by decide +kernel
theorem bit_and' {b : St} {A : Int} (hA : 0 ≤ A ∧ A ≤ 3) : (bits .and .i64 b.reads (bitN A) == 0) = (bitAt b.reads A == 0) := by
  have h4 := reads_bd b
  have := bit_and ⟨b.reads.toNat, by omega⟩ ⟨A.toNat, by omega⟩
  dsimp only at this
  rwa [Int.toNat_of_nonneg (by omega), Int.toNat_of_nonneg (by omega)] at this
theorem bit_own : ∀ a : Fin 4, bitAt (bitN (a : Int)) a = 1 := by decide +kernel
theorem bit_two : ∀ a b : Fin 4, a ≠ b → bitAt (bitN (a : Int) + bitN (b : Int)) b = 1 := by decide +kernel
/-- What draws or weighs by a variable reads it. -/
theorem by_reads {b : St} (hb : b.ok = true) (h6 : b.k < 6) (hk : b.k = 3 ∨ b.k = 5) : bitAt b.reads b.b = 1 := by
  rcases (ok_low h6).1 hb with ⟨hk', _⟩ | ⟨hk', _⟩ | ⟨hk', _⟩ | ⟨_, ha, hbb, hne, _⟩
  · omega
  · omega
  · omega
  · unfold St.reads
    rw [if_pos hb]
    rcases hk with hk | hk
    · rw [if_pos (.inr hk)]
      have := bit_own ⟨b.b.toNat, by omega⟩
      dsimp only at this
      rwa [Int.toNat_of_nonneg (by omega)] at this
    · rw [if_neg (by omega), if_pos (.inr hk)]
      have := bit_two ⟨b.a.toNat, by omega⟩ ⟨b.b.toNat, by omega⟩ (fun e => by injection e with e; omega)
      dsimp only at this
      rwa [Int.toNat_of_nonneg (by omega), Int.toNat_of_nonneg (by omega)] at this
theorem sets_low {s : St} (h : s.ok = true) : s.sets = if s.k ≤ 3 then s.a else -1 := by
  unfold St.sets
  by_cases h3 : s.k ≤ 3
  · rw [if_pos ⟨h, h3⟩, if_pos h3]
  · rw [if_neg (fun e => h3 e.2), if_neg h3]
theorem a_bd {s : St} (h : s.ok = true) (h6 : s.k < 6) : 0 ≤ s.a ∧ s.a ≤ 3 := by
  rcases (ok_low h6).1 h with ⟨_, h, _⟩ | ⟨_, h, _⟩ | ⟨_, h, _⟩ | ⟨_, h, _⟩ <;> exact h
theorem fits_no {c : Int} {a : St} (hc : 0 ≤ c ∧ c ≤ 4) (h : c ≠ 3) : fits c a none = false := by
  cases hf : fits c a none
  · rfl
  · exact absurd (fits_none hc hf) h
theorem fits3 {a : St} {ob : Option St} (h5 : a.k ≤ 5) : fits 3 a ob = (decide (2 ≤ a.k) && decide (1 < com a)) := by
  simp [fits, may1, may2, fitB, h5]
theorem fits0 {a b : St} (ha : a.k < 6) (hb : b.k < 6) : fits 0 a (some b) = swapOk a b := by
  rw [fits_some]
  simp [may1, may2, fitR, show a.k ≤ 5 by omega, show b.k ≤ 5 by omega]
theorem fits1 {a b : St} : fits 1 a (some b) = (wOk (a.u * b.u) (a.v * b.v) (a.x * b.x) && (((a.k == 2) && (b.k == 4)) || ((a.k == 4) && (b.k == 4))) && (a.a == b.a)) := by
  rw [fits_some]
  simp only [may1, may2, fitR]
  simp only [show ¬ ((1 : Int) = 0) by decide, show ¬ ((1 : Int) = 3) by decide, if_true, if_false]
  cases a.k == 2 <;> cases a.k == 4 <;> cases b.k == 4 <;> cases a.a == b.a <;> cases wOk (a.u * b.u) (a.v * b.v) (a.x * b.x) <;> rfl
theorem fits2 {a b : St} (ha : a.ok = true) (ha6 : a.k < 6) (hb : b.ok = true) (hb6 : b.k < 6) : fits 2 a (some b) = (decide (0 ≤ a.sets) && (b.sets == a.sets) && (bitAt b.reads a.sets == 0)) := by
  have h1 := a_bd ha ha6
  have h2 := a_bd hb hb6
  have e : fits 2 a (some b) = (decide (a.k ≤ 3) && decide (b.k ≤ 3) && (a.a == b.a && (bits .and .i64 b.reads (bitN a.a) == 0))) := by
    rw [fits_some]; simp [may1, may2, fitR]
  rw [e, sets_low ha, sets_low hb]
  by_cases ka : a.k ≤ 3
  · rw [if_pos ka, bit_and' h1]
    by_cases kb : b.k ≤ 3
    · rw [if_pos kb]
      simp only [ka, kb, h1.1, decide_true, Bool.true_and]
      rw [show (a.a == b.a) = (b.a == a.a) by rw [Bool.eq_iff_iff, beq_iff_eq, beq_iff_eq]; exact ⟨Eq.symm, Eq.symm⟩]
    · rw [if_neg kb]
      have : ((-1 : Int) == a.a) = false := by simp; omega
      simp [kb, this]
  · rw [if_neg ka]
    simp [ka]
theorem fits4 {a b : St} (ha : a.ok = true) (ha6 : a.k < 6) (hb : b.ok = true) (hb6 : b.k < 6) : fits 4 a (some b) = ((a.k == 0) && decide (a.b < 0) && (bitAt b.reads a.a == 1) && ((b.k == 3) || (b.k == 5)) && (b.b == a.a)) := by
  have e : fits 4 a (some b) = ((a.k == 0) && ((b.k == 3) || (b.k == 5)) && ((a.b == -1) && (a.a == b.b))) := by
    rw [fits_some]; simp [may1, may2, fitR]
  rw [e, Bool.eq_iff_iff]
  simp only [Bool.and_eq_true, Bool.or_eq_true, beq_iff_eq, decide_eq_true_iff]
  constructor
  · rintro ⟨⟨h0, hk⟩, h1, h2⟩
    refine ⟨⟨⟨⟨h0, by omega⟩, ?_⟩, hk⟩, h2.symm⟩
    rw [h2]
    exact by_reads hb hb6 hk
  · rintro ⟨⟨⟨⟨h0, hn⟩, _⟩, hk⟩, h2⟩
    refine ⟨⟨h0, hk⟩, ?_, h2.symm⟩
    rcases (ok_low ha6).1 ha with ⟨_, _, hb', _⟩ | ⟨h, _⟩ | ⟨h, _⟩ | ⟨h, _⟩ <;> omega
theorem two_ofm {w w0 : World} {g h : Nat} {a b : St} (h1 : Has w0 g 63 #[.int .i64 a.k, .int .i64 a.a, .int .i64 a.b, .int .i64 a.c, .int .i64 a.u, .int .i64 a.v, .int .i64 a.x]) (h2 : Has w0 h 63 #[.int .i64 b.k, .int .i64 b.a, .int .i64 b.b, .int .i64 b.c, .int .i64 b.u, .int .i64 b.v, .int .i64 b.x]) (hb : Below w0.heap.size w0 w) :
    Below w0.heap.size w0 w ∧ w.cell? ⟨g, 0, none⟩ = some (.int .i64 a.k) ∧ w.cell? ⟨g, 1, none⟩ = some (.int .i64 a.a) ∧ w.cell? ⟨g, 2, none⟩ = some (.int .i64 a.b) ∧ w.cell? ⟨g, 3, none⟩ = some (.int .i64 a.c) ∧ w.cell? ⟨g, 4, none⟩ = some (.int .i64 a.u) ∧ w.cell? ⟨g, 5, none⟩ = some (.int .i64 a.v) ∧ w.cell? ⟨g, 6, none⟩ = some (.int .i64 a.x) ∧ w.cell? ⟨h, 0, none⟩ = some (.int .i64 b.k) ∧ w.cell? ⟨h, 1, none⟩ = some (.int .i64 b.a) ∧ w.cell? ⟨h, 2, none⟩ = some (.int .i64 b.b) ∧ w.cell? ⟨h, 3, none⟩ = some (.int .i64 b.c) ∧ w.cell? ⟨h, 4, none⟩ = some (.int .i64 b.u) ∧ w.cell? ⟨h, 5, none⟩ = some (.int .i64 b.v) ∧ w.cell? ⟨h, 6, none⟩ = some (.int .i64 b.x) :=
  ⟨hb, (h1.kept hb).cell 0, (h1.kept hb).cell 1, (h1.kept hb).cell 2, (h1.kept hb).cell 3, (h1.kept hb).cell 4, (h1.kept hb).cell 5, (h1.kept hb).cell 6, (h2.kept hb).cell 0, (h2.kept hb).cell 1, (h2.kept hb).cell 2, (h2.kept hb).cell 3, (h2.kept hb).cell 4, (h2.kept hb).cell 5, (h2.kept hb).cell 6⟩

end Go.Proofs.Ytkggejmamhakaaa
