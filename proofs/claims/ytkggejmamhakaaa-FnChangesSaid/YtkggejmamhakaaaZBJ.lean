/- Parts of the proof: Q0. -/
import Derived.Test.YtkggejmamhakaaaZBG
namespace Go.Proofs.Ytkggejmamhakaaa
set_option maxRecDepth 100000
set_option linter.unusedVariables false
open Go.RowKit
/-- What stood behind an operation stands behind it when another one is listed. -/
theorem kn {i k : Nat} {l l' : Array Bool} {C : Prop} (hn : Hid (∀ k, i ≠ k → l'.getD k false = true → l.getD k false = true)) (h : Hid (l.getD k false = true → C)) (hd : i ≠ k := by decide) : l'.getD k false = true → C := fun e => h.out (hn.out k hd e)
theorem ok_wsm {s : St} (h : s.ok = true) (h6 : s.k < 6) : (0 ≤ s.u ∧ s.u ≤ 9) ∧ (0 ≤ s.v ∧ s.v ≤ 9) ∧ (0 ≤ s.x ∧ s.x ≤ 9) := by
  have := ok_w h h6
  exact ⟨this.1, this.2.1, this.2.2.1⟩
theorem bit_and : ∀ r : Fin 16, ∀ a : Fin 4, (bits .and .i64 (r : Int) (bitN (a : Int)) == 0) = (bitAt r a == 0) := by decide +kernel
theorem bit_and' {b : St} {A : Int} (hA : 0 ≤ A ∧ A ≤ 3) : (bits .and .i64 b.reads (bitN A) == 0) = (bitAt b.reads A == 0) := by
  have h4 := reads_bd b
  have := bit_and ⟨b.reads.toNat, by omega⟩ ⟨A.toNat, by omega⟩
  dsimp only at this
  rwa [Int.toNat_of_nonneg (by omega), Int.toNat_of_nonneg (by omega)] at this
theorem bit_own : ∀ a : Fin 4, bitAt (bitN (a : Int)) a = 1 := by decide +kernel
theorem bit_two : ∀ a b : Fin 4, a ≠ b → bitAt (bitN (a : Int) + bitN (b : Int)) b = 1 := by decide +kernel
/-- What draws or weighs by a variable reads it. -/
theorem by_reads {b : St} (hb : b.ok = true) (h6 : b.k < 6) (hk : b.k = 3 ∨ b.k = 5) : bitAt b.reads b.b = 1 := by
  rcases (ok_low h6).1 hb with ⟨hk', _⟩ | ⟨hk', _⟩ | ⟨hk', _⟩ | ⟨_, ha, hbb, hne, _⟩
  · omega
  · omega
  · omega
  · unfold St.reads
    rw [if_pos hb]
    rcases hk with hk | hk
    · rw [if_pos (.inr hk)]
      have := bit_own ⟨b.b.toNat, by omega⟩
      dsimp only at this
      rwa [Int.toNat_of_nonneg (by omega)] at this
    · rw [if_neg (by omega), if_pos (.inr hk)]
      have := bit_two ⟨b.a.toNat, by omega⟩ ⟨b.b.toNat, by omega⟩ (fun e => by injection e with e; omega)
      dsimp only at this
      rwa [Int.toNat_of_nonneg (by omega), Int.toNat_of_nonneg (by omega)] at this
theorem sets_low {s : St} (h : s.ok = true) : s.sets = if s.k ≤ 3 then s.a else -1 := by
  unfold St.sets
  by_cases h3 : s.k ≤ 3
  · rw [if_pos ⟨h, h3⟩, if_pos h3]
  · rw [if_neg (fun e => h3 e.2), if_neg h3]
theorem a_bd {s : St} (h : s.ok = true) (h6 : s.k < 6) : 0 ≤ s.a ∧ s.a ≤ 3 := by
  rcases (ok_low h6).1 h with ⟨_, h, _⟩ | ⟨_, h, _⟩ | ⟨_, h, _⟩ | ⟨_, h, _⟩ <;> exact h
theorem fits_no {c : Int} {a : St} (hc : 0 ≤ c ∧ c ≤ 4) (h : c ≠ 3) : fits c a none = false := by
  cases hf : fits c a none
  · rfl
  · exact absurd (fits_none hc hf) h
theorem fits3 {a : St} {ob : Option St} (h5 : a.k ≤ 5) : fits 3 a ob = (decide (2 ≤ a.k) && decide (1 < com a)) := by
  simp [fits, may1, may2, fitB, h5]
theorem fits0 {a b : St} (ha : a.k < 6) (hb : b.k < 6) : fits 0 a (some b) = swapOk a b := by
  rw [fits_some]
  simp [may1, may2, fitR, show a.k ≤ 5 by omega, show b.k ≤ 5 by omega]
theorem fits1 {a b : St} : fits 1 a (some b) = (wOk (a.u * b.u) (a.v * b.v) (a.x * b.x) && (((a.k == 2) && (b.k == 4)) || ((a.k == 4) && (b.k == 4))) && (a.a == b.a)) := by
  rw [fits_some]
  simp only [may1, may2, fitR]
  simp only [show ¬ ((1 : Int) = 0) by decide, show ¬ ((1 : Int) = 3) by decide, if_true, if_false]
  cases a.k == 2 <;> cases a.k == 4 <;> cases b.k == 4 <;> cases a.a == b.a <;> cases wOk (a.u * b.u) (a.v * b.v) (a.x * b.x) <;> rfl
theorem fits2 {a b : St} (ha : a.ok = true) (ha6 : a.k < 6) (hb : b.ok = true) (hb6 : b.k < 6) : fits 2 a (some b) = (decide (0 ≤ a.sets) && (b.sets == a.sets) && (bitAt b.reads a.sets == 0)) := by
  have h1 := a_bd ha ha6
  have h2 := a_bd hb hb6
  have e : fits 2 a (some b) = (decide (a.k ≤ 3) && decide (b.k ≤ 3) && (a.a == b.a && (bits .and .i64 b.reads (bitN a.a) == 0))) := by
    rw [fits_some]; simp [may1, may2, fitR]
  rw [e, sets_low ha, sets_low hb]
  by_cases ka : a.k ≤ 3
  · rw [if_pos ka, bit_and' h1]
    by_cases kb : b.k ≤ 3
    · rw [if_pos kb]
      simp only [ka, kb, h1.1, decide_true, Bool.true_and]
      rw [show (a.a == b.a) = (b.a == a.a) by rw [Bool.eq_iff_iff, beq_iff_eq, beq_iff_eq]; exact ⟨Eq.symm, Eq.symm⟩]
    · rw [if_neg kb]
      have : ((-1 : Int) == a.a) = false := by simp; omega
      simp [kb, this]
  · rw [if_neg ka]
    simp [ka]
theorem fits4 {a b : St} (ha : a.ok = true) (ha6 : a.k < 6) (hb : b.ok = true) (hb6 : b.k < 6) : fits 4 a (some b) = ((a.k == 0) && decide (a.b < 0) && (bitAt b.reads a.a == 1) && ((b.k == 3) || (b.k == 5)) && (b.b == a.a)) := by
  have e : fits 4 a (some b) = ((a.k == 0) && ((b.k == 3) || (b.k == 5)) && ((a.b == -1) && (a.a == b.b))) := by
    rw [fits_some]; simp [may1, may2, fitR]
  rw [e, Bool.eq_iff_iff]
  simp only [Bool.and_eq_true, Bool.or_eq_true, beq_iff_eq, decide_eq_true_iff]
  constructor
  · rintro ⟨⟨h0, hk⟩, h1, h2⟩
    refine ⟨⟨⟨⟨h0, by omega⟩, ?_⟩, hk⟩, h2.symm⟩
    rw [h2]
    exact by_reads hb hb6 hk
  · rintro ⟨⟨⟨⟨h0, hn⟩, _⟩, hk⟩, h2⟩
    refine ⟨⟨h0, hk⟩, ?_, h2.symm⟩
    rcases (ok_low ha6).1 ha with ⟨_, _, hb', _⟩ | ⟨h, _⟩ | ⟨h, _⟩ | ⟨h, _⟩ <;> omega
theorem two_ofm {w w0 : World} {g h : Nat} {a b : St} (h1 : Has w0 g 63 #[.int .i64 a.k, .int .i64 a.a, .int .i64 a.b, .int .i64 a.c, .int .i64 a.u, .int .i64 a.v, .int .i64 a.x]) (h2 : Has w0 h 63 #[.int .i64 b.k, .int .i64 b.a, .int .i64 b.b, .int .i64 b.c, .int .i64 b.u, .int .i64 b.v, .int .i64 b.x]) (hb : Below w0.heap.size w0 w) :
    Below w0.heap.size w0 w ∧ w.cell? ⟨g, 0, none⟩ = some (.int .i64 a.k) ∧ w.cell? ⟨g, 1, none⟩ = some (.int .i64 a.a) ∧ w.cell? ⟨g, 2, none⟩ = some (.int .i64 a.b) ∧ w.cell? ⟨g, 3, none⟩ = some (.int .i64 a.c) ∧ w.cell? ⟨g, 4, none⟩ = some (.int .i64 a.u) ∧ w.cell? ⟨g, 5, none⟩ = some (.int .i64 a.v) ∧ w.cell? ⟨g, 6, none⟩ = some (.int .i64 a.x) ∧ w.cell? ⟨h, 0, none⟩ = some (.int .i64 b.k) ∧ w.cell? ⟨h, 1, none⟩ = some (.int .i64 b.a) ∧ w.cell? ⟨h, 2, none⟩ = some (.int .i64 b.b) ∧ w.cell? ⟨h, 3, none⟩ = some (.int .i64 b.c) ∧ w.cell? ⟨h, 4, none⟩ = some (.int .i64 b.u) ∧ w.cell? ⟨h, 5, none⟩ = some (.int .i64 b.v) ∧ w.cell? ⟨h, 6, none⟩ = some (.int .i64 b.x) :=
  ⟨hb, (h1.kept hb).cell 0, (h1.kept hb).cell 1, (h1.kept hb).cell 2, (h1.kept hb).cell 3, (h1.kept hb).cell 4, (h1.kept hb).cell 5, (h1.kept hb).cell 6, (h2.kept hb).cell 0, (h2.kept hb).cell 1, (h2.kept hb).cell 2, (h2.kept hb).cell 3, (h2.kept hb).cell 4, (h2.kept hb).cell 5, (h2.kept hb).cell 6⟩
end Go.Proofs.Ytkggejmamhakaaa
namespace Go.Proofs.Ytkggejmamhakaaa
set_option maxRecDepth 100000
set_option linter.unusedVariables false
open Go.RowKit
set_option maxHeartbeats 2000000 in
theorem l6Ok_0 (A : Option Addr) (n cap k : Nat) (ps : List St) (a b : St) (w : World) (h : Lst w w.heap.size A n ps) (hn : n ≤ 1048576) (ha : ps[k]? = some a) (hoa : a.ok = true ∧ a.k < 6) (hb : ps[k + 1]? = some b) (hobb : b.ok = true ∧ b.k < 6) :
    Calls Try.prog 60 #[.slice A n cap, .int .i64 0, .int .i64 (k : Int)] w fun e w' => e = .returned (.bool (fits 0 a (some b))) ∧ Below w.heap.size w w' := by
  have hk : k < n := by have := (List.getElem?_eq_some_iff.1 ha).1; have := h.1; omega
  obtain ⟨g, off, s0, rfl, hg, hs0, hat⟩ := h.at_ hk
  obtain rfl : a = s0 := by rw [ha] at hs0; injection hs0
  obtain ⟨c0, c1, c2, c3, c4, c5, c6⟩ := hat.open_
  have hk0 : (0 : Int) ≤ (k : Int) := by omega
  have hk1 : (k : Int) < (n : Int) := by omega
  have hwa := ok_wsm hoa.1 hoa.2
  have h1 := Has.new w 63 #[.int .i64 a.k, .int .i64 a.a, .int .i64 a.b, .int .i64 a.c, .int .i64 a.u, .int .i64 a.v, .int .i64 a.x]
  have hh1 := Lib.hid h1
  have hB := Lib.hid (show Below w.heap.size w (w.alloc (.cells #[.int .i64 a.k, .int .i64 a.a, .int .i64 a.b, .int .i64 a.c, .int .i64 a.u, .int .i64 a.v, .int .i64 a.x] 63)) from (Below.refl _ _).alloc (Nat.le_refl _) _)
  have hk' : k + 1 < n := by have := (List.getElem?_eq_some_iff.1 hb).1; have := h.1; omega
  obtain ⟨g', off', s1, e, _, hs1, hat1⟩ := h.at_ hk'
  obtain ⟨rfl, rfl⟩ : g = g' ∧ off = off' := by injection e with e; injection e with e1 e2; exact ⟨e1, e2⟩
  obtain rfl : b = s1 := by rw [hb] at hs1; injection hs1
  obtain ⟨d0, d1, d2, d3, d4, d5, d6⟩ := hat1.open_
  have hwb := ok_wsm hobb.1 hobb.2
  have ge : ((k : Int) + 1 == (n : Int)) = false := by simp; omega
  have hk2 : (k : Int) + 1 < (n : Int) := by omega
  have h1' := h1.alloc (.cells #[.int .i64 b.k, .int .i64 b.a, .int .i64 b.b, .int .i64 b.c, .int .i64 b.u, .int .i64 b.v, .int .i64 b.x] 63)
  have h2 := (Has.newAt (w := w.alloc (.cells #[.int .i64 a.k, .int .i64 a.a, .int .i64 a.b, .int .i64 a.c, .int .i64 a.u, .int .i64 a.v, .int .i64 a.x] 63)) (n := w.heap.size + 1) (t := 63) (cs := #[.int .i64 b.k, .int .i64 b.a, .int .i64 b.b, .int .i64 b.c, .int .i64 b.u, .int .i64 b.v, .int .i64 b.x]) (by simp))
  have hB2 := Lib.hid (show Below w.heap.size w ((w.alloc (.cells #[.int .i64 a.k, .int .i64 a.a, .int .i64 a.b, .int .i64 a.c, .int .i64 a.u, .int .i64 a.v, .int .i64 a.x] 63)).alloc (.cells #[.int .i64 b.k, .int .i64 b.a, .int .i64 b.b, .int .i64 b.c, .int .i64 b.u, .int .i64 b.v, .int .i64 b.x] 63)) from ((Below.refl _ _).alloc (Nat.le_refl _) _).alloc (by simp) _)
  have cA := Lib.hid (fun wx => l6Apart_any a b wx hoa.1 hobb.1)
  have cPr := Lib.hid (fun wx => l6Product_any a b wx hwa hwb)
  have r0 := Lib.hid (fits0 (a := a) (b := b) hoa.2 hobb.2)
  have r1 := Lib.hid (fits1 (a := a) (b := b))
  have r2 := Lib.hid (fits2 hoa.1 hoa.2 hobb.1 hobb.2)
  have r4 := Lib.hid (fits4 hoa.1 hoa.2 hobb.1 hobb.2)
  have hbA := a_bd hoa.1 hoa.2
  have hbS := sets_bd a hoa.1
  have hbR := reads_bd b
  have e1 := h1'.cell
  have e2 := h2.cell
  have hz2 : ((w.alloc (.cells #[.int .i64 a.k, .int .i64 a.a, .int .i64 a.b, .int .i64 a.c, .int .i64 a.u, .int .i64 a.v, .int .i64 a.x] 63)).alloc (.cells #[.int .i64 b.k, .int .i64 b.a, .int .i64 b.b, .int .i64 b.c, .int .i64 b.u, .int .i64 b.v, .int .i64 b.x] 63)).heap.size = w.heap.size + 2 := by simp
  have hzz := Lib.hid hz2
  have hh2 := Lib.hid h2
  have hh1' := Lib.hid h1'
  clear h hat hs0 ha hb hs1 hat1 e h1 h1' h2 hz2 hwa hwb hobb hoa
  go_enter Try.func60, Try.ntmps60
  go_wp2_with fail
  refine (cA.out _).mono ?_
  rintro e w3 ⟨rfl, hb3⟩
  have hB3 := Lib.hid (hB2.out.trans (hb3.mono (by simp; omega)))
  clear hb3 e1 e2
  go_wp2_with fail
  go_ret
  exact ⟨ret_bool r0.out, hB3.out⟩
set_option maxHeartbeats 2000000 in
theorem l6Ok_1 (A : Option Addr) (n cap k : Nat) (ps : List St) (a b : St) (w : World) (h : Lst w w.heap.size A n ps) (hn : n ≤ 1048576) (ha : ps[k]? = some a) (hoa : a.ok = true ∧ a.k < 6) (hb : ps[k + 1]? = some b) (hobb : b.ok = true ∧ b.k < 6) :
    Calls Try.prog 60 #[.slice A n cap, .int .i64 1, .int .i64 (k : Int)] w fun e w' => e = .returned (.bool (fits 1 a (some b))) ∧ Below w.heap.size w w' := by
  have hk : k < n := by have := (List.getElem?_eq_some_iff.1 ha).1; have := h.1; omega
  obtain ⟨g, off, s0, rfl, hg, hs0, hat⟩ := h.at_ hk
  obtain rfl : a = s0 := by rw [ha] at hs0; injection hs0
  obtain ⟨c0, c1, c2, c3, c4, c5, c6⟩ := hat.open_
  have hk0 : (0 : Int) ≤ (k : Int) := by omega
  have hk1 : (k : Int) < (n : Int) := by omega
  have hwa := ok_wsm hoa.1 hoa.2
  have h1 := Has.new w 63 #[.int .i64 a.k, .int .i64 a.a, .int .i64 a.b, .int .i64 a.c, .int .i64 a.u, .int .i64 a.v, .int .i64 a.x]
  have hh1 := Lib.hid h1
  have hB := Lib.hid (show Below w.heap.size w (w.alloc (.cells #[.int .i64 a.k, .int .i64 a.a, .int .i64 a.b, .int .i64 a.c, .int .i64 a.u, .int .i64 a.v, .int .i64 a.x] 63)) from (Below.refl _ _).alloc (Nat.le_refl _) _)
  have hk' : k + 1 < n := by have := (List.getElem?_eq_some_iff.1 hb).1; have := h.1; omega
  obtain ⟨g', off', s1, e, _, hs1, hat1⟩ := h.at_ hk'
  obtain ⟨rfl, rfl⟩ : g = g' ∧ off = off' := by injection e with e; injection e with e1 e2; exact ⟨e1, e2⟩
  obtain rfl : b = s1 := by rw [hb] at hs1; injection hs1
  obtain ⟨d0, d1, d2, d3, d4, d5, d6⟩ := hat1.open_
  have hwb := ok_wsm hobb.1 hobb.2
  have ge : ((k : Int) + 1 == (n : Int)) = false := by simp; omega
  have hk2 : (k : Int) + 1 < (n : Int) := by omega
  have h1' := h1.alloc (.cells #[.int .i64 b.k, .int .i64 b.a, .int .i64 b.b, .int .i64 b.c, .int .i64 b.u, .int .i64 b.v, .int .i64 b.x] 63)
  have h2 := (Has.newAt (w := w.alloc (.cells #[.int .i64 a.k, .int .i64 a.a, .int .i64 a.b, .int .i64 a.c, .int .i64 a.u, .int .i64 a.v, .int .i64 a.x] 63)) (n := w.heap.size + 1) (t := 63) (cs := #[.int .i64 b.k, .int .i64 b.a, .int .i64 b.b, .int .i64 b.c, .int .i64 b.u, .int .i64 b.v, .int .i64 b.x]) (by simp))
  have hB2 := Lib.hid (show Below w.heap.size w ((w.alloc (.cells #[.int .i64 a.k, .int .i64 a.a, .int .i64 a.b, .int .i64 a.c, .int .i64 a.u, .int .i64 a.v, .int .i64 a.x] 63)).alloc (.cells #[.int .i64 b.k, .int .i64 b.a, .int .i64 b.b, .int .i64 b.c, .int .i64 b.u, .int .i64 b.v, .int .i64 b.x] 63)) from ((Below.refl _ _).alloc (Nat.le_refl _) _).alloc (by simp) _)
  have cA := Lib.hid (fun wx => l6Apart_any a b wx hoa.1 hobb.1)
  have cPr := Lib.hid (fun wx => l6Product_any a b wx hwa hwb)
  have r0 := Lib.hid (fits0 (a := a) (b := b) hoa.2 hobb.2)
  have r1 := Lib.hid (fits1 (a := a) (b := b))
  have r2 := Lib.hid (fits2 hoa.1 hoa.2 hobb.1 hobb.2)
  have r4 := Lib.hid (fits4 hoa.1 hoa.2 hobb.1 hobb.2)
  have hbA := a_bd hoa.1 hoa.2
  have hbS := sets_bd a hoa.1
  have hbR := reads_bd b
  have e1 := h1'.cell
  have e2 := h2.cell
  have hz2 : ((w.alloc (.cells #[.int .i64 a.k, .int .i64 a.a, .int .i64 a.b, .int .i64 a.c, .int .i64 a.u, .int .i64 a.v, .int .i64 a.x] 63)).alloc (.cells #[.int .i64 b.k, .int .i64 b.a, .int .i64 b.b, .int .i64 b.c, .int .i64 b.u, .int .i64 b.v, .int .i64 b.x] 63)).heap.size = w.heap.size + 2 := by simp
  have hzz := Lib.hid hz2
  have hh2 := Lib.hid h2
  have hh1' := Lib.hid h1'
  clear h hat hs0 ha hb hs1 hat1 e h1 h1' h2 hz2 hwa hwb hobb hoa
  have hX := r1.out
  have hS : ∀ (p5 p4 : Bool), wOk (a.u * b.u) (a.v * b.v) (a.x * b.x) = p5 → (a.a == b.a) = p4 → True := fun _ _ _ _ => trivial
  have hcase : ((a.k == 2) = true ∧ (a.k == 4) = false ∧ (b.k == 4) = true) ∨ ((a.k == 2) = true ∧ (a.k == 4) = false ∧ (b.k == 4) = false) ∨ ((a.k == 2) = false ∧ (a.k == 4) = true ∧ (b.k == 4) = true) ∨ ((a.k == 2) = false ∧ (a.k == 4) = true ∧ (b.k == 4) = false) ∨ ((a.k == 2) = false ∧ (a.k == 4) = false ∧ (b.k == 4) = true) ∨ ((a.k == 2) = false ∧ (a.k == 4) = false ∧ (b.k == 4) = false) := by
    by_cases q1 : a.k = 2 <;> by_cases q2 : a.k = 4 <;> by_cases q3 : b.k = 4 <;> simp [q1, q2, q3] <;> omega
  rcases hcase with ⟨p1, p3, p2⟩ | ⟨p1, p3, p2⟩ | ⟨p1, p3, p2⟩ | ⟨p1, p3, p2⟩ | ⟨p1, p3, p2⟩ | ⟨p1, p3, p2⟩
  all_goals
    cases p5 : wOk (a.u * b.u) (a.v * b.v) (a.x * b.x)
    all_goals
      rw [p1, p2, p3, p5] at hX
      have hRr := Lib.hid hX
      have hp5 := Lib.hid p5
      clear hX p5 r0 r1 r2 r4 hS
      go_enter Try.func60, Try.ntmps60
      go_wp2_with fail
      refine (cPr.out _).mono ?_
      rw [hp5.out]
      rintro e w3 ⟨rfl, hb3⟩
      have hB3 := Lib.hid ((hB2.out.trans (hb3.mono (by simp; omega))).alloc (by have := hb3.size; simp at this; omega) (.cells #[.int .i64 (a.u * b.u), .int .i64 (a.v * b.v), .int .i64 (a.x * b.x)] 61))
      have f1 := ((hh1'.out.kept hb3).alloc (.cells #[.int .i64 (a.u * b.u), .int .i64 (a.v * b.v), .int .i64 (a.x * b.x)] 61)).cell
      have f2 := ((hh2.out.kept hb3).alloc (.cells #[.int .i64 (a.u * b.u), .int .i64 (a.v * b.v), .int .i64 (a.x * b.x)] 61)).cell
      clear hb3 e1 e2
      go_wp2_with fail
      go_ret
      exact ⟨ret_bool hRr.out, hB3.out⟩
end Go.Proofs.Ytkggejmamhakaaa
namespace Go.Proofs.Ytkggejmamhakaaa
set_option maxRecDepth 100000
set_option linter.unusedVariables false
open Go.RowKit
set_option maxHeartbeats 2000000 in
theorem l6Ok_2t (A : Option Addr) (n cap k : Nat) (ps : List St) (a b : St) (w : World) (h : Lst w w.heap.size A n ps) (hn : n ≤ 1048576) (ha : ps[k]? = some a) (hoa : a.ok = true ∧ a.k < 6) (s0 : 0 ≤ a.sets) (s1' : b.sets = a.sets) (hb : ps[k + 1]? = some b) (hobb : b.ok = true ∧ b.k < 6) :
    Calls Try.prog 60 #[.slice A n cap, .int .i64 2, .int .i64 (k : Int)] w fun e w' => e = .returned (.bool (fits 2 a (some b))) ∧ Below w.heap.size w w' := by
  have hk : k < n := by have := (List.getElem?_eq_some_iff.1 ha).1; have := h.1; omega
  obtain ⟨g, off, s0, rfl, hg, hs0, hat⟩ := h.at_ hk
  obtain rfl : a = s0 := by rw [ha] at hs0; injection hs0
  obtain ⟨c0, c1, c2, c3, c4, c5, c6⟩ := hat.open_
  have hk0 : (0 : Int) ≤ (k : Int) := by omega
  have hk1 : (k : Int) < (n : Int) := by omega
  have hwa := ok_wsm hoa.1 hoa.2
  have h1 := Has.new w 63 #[.int .i64 a.k, .int .i64 a.a, .int .i64 a.b, .int .i64 a.c, .int .i64 a.u, .int .i64 a.v, .int .i64 a.x]
  have hh1 := Lib.hid h1
  have hB := Lib.hid (show Below w.heap.size w (w.alloc (.cells #[.int .i64 a.k, .int .i64 a.a, .int .i64 a.b, .int .i64 a.c, .int .i64 a.u, .int .i64 a.v, .int .i64 a.x] 63)) from (Below.refl _ _).alloc (Nat.le_refl _) _)
  have hk' : k + 1 < n := by have := (List.getElem?_eq_some_iff.1 hb).1; have := h.1; omega
  obtain ⟨g', off', s1, e, _, hs1, hat1⟩ := h.at_ hk'
  obtain ⟨rfl, rfl⟩ : g = g' ∧ off = off' := by injection e with e; injection e with e1 e2; exact ⟨e1, e2⟩
  obtain rfl : b = s1 := by rw [hb] at hs1; injection hs1
  obtain ⟨d0, d1, d2, d3, d4, d5, d6⟩ := hat1.open_
  have hwb := ok_wsm hobb.1 hobb.2
  have ge : ((k : Int) + 1 == (n : Int)) = false := by simp; omega
  have hk2 : (k : Int) + 1 < (n : Int) := by omega
  have h1' := h1.alloc (.cells #[.int .i64 b.k, .int .i64 b.a, .int .i64 b.b, .int .i64 b.c, .int .i64 b.u, .int .i64 b.v, .int .i64 b.x] 63)
  have h2 := (Has.newAt (w := w.alloc (.cells #[.int .i64 a.k, .int .i64 a.a, .int .i64 a.b, .int .i64 a.c, .int .i64 a.u, .int .i64 a.v, .int .i64 a.x] 63)) (n := w.heap.size + 1) (t := 63) (cs := #[.int .i64 b.k, .int .i64 b.a, .int .i64 b.b, .int .i64 b.c, .int .i64 b.u, .int .i64 b.v, .int .i64 b.x]) (by simp))
  have hB2 := Lib.hid (show Below w.heap.size w ((w.alloc (.cells #[.int .i64 a.k, .int .i64 a.a, .int .i64 a.b, .int .i64 a.c, .int .i64 a.u, .int .i64 a.v, .int .i64 a.x] 63)).alloc (.cells #[.int .i64 b.k, .int .i64 b.a, .int .i64 b.b, .int .i64 b.c, .int .i64 b.u, .int .i64 b.v, .int .i64 b.x] 63)) from ((Below.refl _ _).alloc (Nat.le_refl _) _).alloc (by simp) _)
  have cA := Lib.hid (fun wx => l6Apart_any a b wx hoa.1 hobb.1)
  have cPr := Lib.hid (fun wx => l6Product_any a b wx hwa hwb)
  have r0 := Lib.hid (fits0 (a := a) (b := b) hoa.2 hobb.2)
  have r1 := Lib.hid (fits1 (a := a) (b := b))
  have r2 := Lib.hid (fits2 hoa.1 hoa.2 hobb.1 hobb.2)
  have r4 := Lib.hid (fits4 hoa.1 hoa.2 hobb.1 hobb.2)
  have hbA := a_bd hoa.1 hoa.2
  have hbS := sets_bd a hoa.1
  have hbR := reads_bd b
  have e1 := h1'.cell
  have e2 := h2.cell
  have hz2 : ((w.alloc (.cells #[.int .i64 a.k, .int .i64 a.a, .int .i64 a.b, .int .i64 a.c, .int .i64 a.u, .int .i64 a.v, .int .i64 a.x] 63)).alloc (.cells #[.int .i64 b.k, .int .i64 b.a, .int .i64 b.b, .int .i64 b.c, .int .i64 b.u, .int .i64 b.v, .int .i64 b.x] 63)).heap.size = w.heap.size + 2 := by simp
  have hzz := Lib.hid hz2
  have hh2 := Lib.hid h2
  have hh1' := Lib.hid h1'
  clear h hat hs0 ha hb hs1 hat1 e h1 h1' h2 hz2 hwa hwb hobb hoa
  have cSa : Hid (∀ wx : World, Calls Try.prog 93 #[.agg #[.int .i64 a.k, .int .i64 a.a, .int .i64 a.b, .int .i64 a.c, .int .i64 a.u, .int .i64 a.v, .int .i64 a.x]] wx fun e w' => e = .returned (.int .i64 a.sets) ∧ Below wx.heap.size wx w') := Lib.hid (fun wx => specStmtSets_any a.k a.a a.b a.c a.u a.v a.x wx)
  have cSb : Hid (∀ wx : World, Calls Try.prog 93 #[.agg #[.int .i64 b.k, .int .i64 b.a, .int .i64 b.b, .int .i64 b.c, .int .i64 b.u, .int .i64 b.v, .int .i64 b.x]] wx fun e w' => e = .returned (.int .i64 b.sets) ∧ Below wx.heap.size wx w') := Lib.hid (fun wx => specStmtSets_any b.k b.a b.b b.c b.u b.v b.x wx)
  have cRb : Hid (∀ wx : World, Calls Try.prog 94 #[.agg #[.int .i64 b.k, .int .i64 b.a, .int .i64 b.b, .int .i64 b.c, .int .i64 b.u, .int .i64 b.v, .int .i64 b.x]] wx fun e w' => e = .returned (.int .i64 b.reads) ∧ Below wx.heap.size wx w') := Lib.hid (fun wx => specStmtReads_any b.k b.a b.b b.c b.u b.v b.x wx)
  clear r0 r1 cA cPr
  have hS0 := hbS.1
  have hS1 := hbS.2
  have hR0 := hbR.1
  have hR1 := hbR.2
  clear hbS hbR
  have hX : fits 2 a (some b) = (decide (0 ≤ a.sets) && (b.sets == a.sets) && ((b.reads / 2 ^ a.sets.toNat).tmod 2 == 0)) := r2.out
  have s1 : (b.sets == a.sets) = true := by simpa using s1'
  clear r2 r4 s1'
  generalize a.sets = sa at *
  generalize b.sets = sb at *
  generalize b.reads = rb at *
  have hR := Lib.hid (show fits 2 a (some b) = ((rb / 2 ^ sa.toNat).tmod 2 == 0) by rw [hX, s1, decide_eq_true s0, Bool.and_self, Bool.true_and])
  clear hX
  go_enter Try.func60, Try.ntmps60
  go_wp2_with fail
  generalize ((w.alloc (.cells #[.int .i64 a.k, .int .i64 a.a, .int .i64 a.b, .int .i64 a.c, .int .i64 a.u, .int .i64 a.v, .int .i64 a.x] 63)).alloc (.cells #[.int .i64 b.k, .int .i64 b.a, .int .i64 b.b, .int .i64 b.c, .int .i64 b.u, .int .i64 b.v, .int .i64 b.x] 63)) = W0 at hh1' hh2 hB2 hzz e1 e2 ⊢
  have hOk := Lib.hid (fun (wx : World) (hx : Below W0.heap.size W0 wx) => two_ofm hh1'.out hh2.out hx)
  go_region_held3 (fun wx => Below W0.heap.size W0 wx ∧ wx.cell? ⟨w.heap.size, 0, none⟩ = some (.int .i64 a.k) ∧ wx.cell? ⟨w.heap.size, 1, none⟩ = some (.int .i64 a.a) ∧ wx.cell? ⟨w.heap.size, 2, none⟩ = some (.int .i64 a.b) ∧ wx.cell? ⟨w.heap.size, 3, none⟩ = some (.int .i64 a.c) ∧ wx.cell? ⟨w.heap.size, 4, none⟩ = some (.int .i64 a.u) ∧ wx.cell? ⟨w.heap.size, 5, none⟩ = some (.int .i64 a.v) ∧ wx.cell? ⟨w.heap.size, 6, none⟩ = some (.int .i64 a.x) ∧ wx.cell? ⟨w.heap.size + 1, 0, none⟩ = some (.int .i64 b.k) ∧ wx.cell? ⟨w.heap.size + 1, 1, none⟩ = some (.int .i64 b.a) ∧ wx.cell? ⟨w.heap.size + 1, 2, none⟩ = some (.int .i64 b.b) ∧ wx.cell? ⟨w.heap.size + 1, 3, none⟩ = some (.int .i64 b.c) ∧ wx.cell? ⟨w.heap.size + 1, 4, none⟩ = some (.int .i64 b.u) ∧ wx.cell? ⟨w.heap.size + 1, 5, none⟩ = some (.int .i64 b.v) ∧ wx.cell? ⟨w.heap.size + 1, 6, none⟩ = some (.int .i64 b.x)) (first | exact hOk.out _ ((Below.refl _ _).drew) | exact hOk.out _ (bt6 (by assumption) hbq) | exact hOk.out _ (bs6 (by assumption)) | exact hOk.out _ (bd6 (by assumption)) | go_keep) (first | (go_at_call 93; first | (with_reducible refine (cSa.out _).mono ?_; rintro e q ⟨rfl, hbq⟩) | (with_reducible refine (cSb.out _).mono ?_; rintro e q ⟨rfl, hbq⟩)) | (go_at_call 94; with_reducible refine (cRb.out _).mono ?_; rintro e q ⟨rfl, hbq⟩))
  rename_i hHeld
  have hB5 := Lib.hid (hB2.out.trans (hHeld.1.mono (by have := hzz.out; omega)))
  clear hHeld e1 e2 hOk
  go_wp2_with fail
  go_ret
  exact ⟨ret_bool hR.out, hB5.out⟩
end Go.Proofs.Ytkggejmamhakaaa
