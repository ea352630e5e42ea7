/- Changes: whether one fits, what stands in a program then, the first that is no swap, what is tidy; plain functions. -/
import Derived.Test.YtaipdkfbkcknkaaLiv
import Derived.Test.YtaipdkfbkcknkaaAn
import Derived.Test.YtaipdkfbkcknkaaUnP
namespace Go.Proofs.Ytaipdkfbkcknkaa
set_option maxRecDepth 100000
set_option linter.unusedVariables false
open Go.RowKit

/-- What the weights of a statement have in common. -/
def com (s : St) : Int := gcdF [s.u, s.v, s.x]
/-- Which kinds may be the first one of a change, and which the second one (6: none). -/
def may1 (c k : Int) : Bool := if c = 0 then decide (k ≤ 5) else if c = 1 then k == 2 || k == 4 else if c = 2 then decide (k ≤ 3) else if c = 3 then decide (2 ≤ k) && decide (k ≤ 5) else k == 0
def may2 (c k : Int) : Bool := if c = 0 then decide (k ≤ 5) else if c = 1 then k == 4 else if c = 2 then decide (k ≤ 3) else if c = 3 then true else k == 3 || k == 5
def kindO : Option St → Int
  | none => 6
  | some b => b.k
/-- Nothing hangs on which of two that set x, y and read rx, ry is first. -/
def swapB (x rx y ry : Int) : Bool := (bits .and .i64 (bitN x) (bits .or .i64 (bitN y) ry) == 0) && (bits .and .i64 (bitN y) rx == 0)
def swapOk (a b : St) : Bool := swapB a.sets a.reads b.sets b.reads
def fitR (c : Int) (a b : St) : Bool :=
  if c = 1 then a.a == b.a && wOk (a.u * b.u) (a.v * b.v) (a.x * b.x)
  else if c = 2 then a.a == b.a && (bits .and .i64 b.reads (bitN a.a) == 0)
  else if c = 4 then a.b == -1 && a.a == b.b
  else swapOk a b
def fitB (c : Int) (a : St) (ob : Option St) : Bool := if c = 3 then decide (1 < com a) else match ob with
  | none => false
  | some b => fitR c a b
def fits (c : Int) (a : St) (ob : Option St) : Bool := may1 c a.k && may2 c (kindO ob) && fitB c a ob
def fitAt (c : Int) (ps : List St) (i : Nat) : Bool := match ps[i]? with
  | none => false
  | some a => fits c a ps[i + 1]?
def cgOk (ps : List St) (c z : Int) : Bool := plainOk ps && inB c 0 4 && inB z 0 (ps.length - 1) && fitAt c ps z.toNat
/-- By what a change makes the total less. -/
def facBy (c : Int) (a : St) : Int := if c = 3 then com a else if c = 2 ∧ a.draws = true then a.u + a.v + a.x else 1

def setW (a : St) (u v x : Int) : St := ⟨a.k, a.a, a.b, a.c, u, v, x⟩
def scaled (a : St) : St := setW a (a.u / com a) (a.v / com a) (a.x / com a)
def folded (a b : St) : St := setW a (a.u * b.u) (a.v * b.v) (a.x * b.x)
def moved (b : St) (n : Int) : St := ⟨if b.k = 5 then 4 else 2, b.a, 0, 0, b.wgt (n % 3), b.wgt ((1 + n) % 3), b.wgt ((2 + n) % 3)⟩
/-- What stands in a window behind a change. -/
def chg (c : Int) (a : St) : Option St → List St
  | none => [scaled a]
  | some b => if c = 0 then [b, a] else if c = 1 then [folded a b] else if c = 2 then [b] else if c = 3 then [scaled a, b] else [a, moved b a.c]
def chDone (c : Int) (ps : List St) (i : Nat) : List St := ps.take i ++ (match ps[i]? with
  | none => []
  | some a => chg c a ps[i + 1]?) ++ ps.drop (i + 2)

theorem plain_iff {ps : List St} : plainOk ps = true ↔ ps.length ≤ 10 ∧ ∀ s ∈ ps, s.ok = true ∧ s.k < 6 := by
  unfold plainOk
  rw [Bool.and_eq_true, List.all_eq_true]
  constructor
  · rintro ⟨h1, h2⟩
    obtain ⟨os, ho⟩ := Option.isSome_iff_exists.1 h1
    obtain ⟨h3, _, h4, _⟩ := unrolled_ok ho
    exact ⟨h4, fun s hs => ⟨List.all_eq_true.1 h3 s hs, of_decide_eq_true (h2 s hs)⟩⟩
  · rintro ⟨h1, h2⟩
    have h3 : unrolled ps = some ps := unrolled_yes h1 (List.all_eq_true.2 fun s hs => (h2 s hs).1) (unr_self ps fun s hs => by
      have := (h2 s hs).2
      unfold St.notLoop
      simp; omega) (by omega)
    exact ⟨by rw [h3]; rfl, fun s hs => decide_eq_true (h2 s hs).2⟩
theorem plain_self {ps : List St} (h : plainOk ps = true) : unrolled ps = some ps := by
  obtain ⟨h1, h2⟩ := plain_iff.1 h
  exact unrolled_yes h1 (List.all_eq_true.2 fun s hs => (h2 s hs).1) (unr_self ps fun s hs => by
      have := (h2 s hs).2
      unfold St.notLoop
      simp; omega) (by omega)

theorem wOk_iff {u v x : Int} : wOk u v x = true ↔ (0 ≤ u ∧ u ≤ 9) ∧ (0 ≤ v ∧ v ≤ 9) ∧ (0 ≤ x ∧ x ≤ 9) ∧ 0 < u + v + x := by
  unfold wOk
  rw [Bool.and_eq_true, Bool.and_eq_true, Bool.and_eq_true, inB_iff, inB_iff, inB_iff, decide_eq_true_iff, and_assoc, and_assoc]
theorem wZero_iff {u v x : Int} : wZero u v x = true ↔ u = 0 ∧ v = 0 ∧ x = 0 := by
  unfold wZero
  rw [Bool.and_eq_true, Bool.and_eq_true, beq_iff_eq, beq_iff_eq, beq_iff_eq, and_assoc]
theorem ok_low {s : St} (h6 : s.k < 6) : s.ok = true ↔
    (s.k = 0 ∧ (0 ≤ s.a ∧ s.a ≤ 3) ∧ (-1 ≤ s.b ∧ s.b ≤ 3) ∧ (0 ≤ s.c ∧ s.c ≤ 2) ∧ s.u = 0 ∧ s.v = 0 ∧ s.x = 0) ∨
    (s.k = 1 ∧ (0 ≤ s.a ∧ s.a ≤ 3) ∧ (0 ≤ s.b ∧ s.b ≤ 3) ∧ s.a ≠ s.b ∧ s.c = 0 ∧ s.u = 0 ∧ s.v = 0 ∧ s.x = 0) ∨
    ((s.k = 2 ∨ s.k = 4) ∧ (0 ≤ s.a ∧ s.a ≤ 3) ∧ s.b = 0 ∧ s.c = 0 ∧ wOk s.u s.v s.x = true) ∨
    ((s.k = 3 ∨ s.k = 5) ∧ (0 ≤ s.a ∧ s.a ≤ 3) ∧ (0 ≤ s.b ∧ s.b ≤ 3) ∧ s.a ≠ s.b ∧ s.c = 0 ∧ wOk s.u s.v s.x = true) := by
  obtain ⟨k, a, b, c, u, v, x⟩ := s
  have h6' : k < 6 := h6
  rcases kind_cases k with rfl | rfl | rfl | rfl | rfl | rfl | rfl | rfl | hk | ⟨hk, _⟩
  · constructor
    · intro h
      rw [ok_0] at h
      simp only [Bool.and_eq_true, inB_iff, wZero_iff] at h
      exact .inl ⟨rfl, h.1.1.1, h.1.1.2, h.1.2, h.2⟩
    · intro h
      rw [ok_0]
      simp only [Bool.and_eq_true, inB_iff, wZero_iff]
      rcases h with ⟨_, h1, h2, h3, h4⟩ | ⟨h, _⟩ | ⟨h, _⟩ | ⟨h, _⟩
      · exact ⟨⟨⟨h1, h2⟩, h3⟩, h4⟩
      all_goals simp at h
  · constructor
    · intro h
      rw [ok_1] at h
      unfold oB zB at h
      simp only [Bool.and_eq_true, inB_iff, wZero_iff, beq_iff_eq, Bool.not_eq_true', beq_eq_false_iff_ne] at h
      exact .inr (.inl ⟨rfl, h.1.1.1, h.1.1.2.1, Ne.symm h.1.1.2.2, h.1.2, h.2⟩)
    · intro h
      rw [ok_1]
      unfold oB zB
      simp only [Bool.and_eq_true, inB_iff, wZero_iff, beq_iff_eq, Bool.not_eq_true', beq_eq_false_iff_ne]
      rcases h with ⟨h, _⟩ | ⟨_, h1, h2, h5, h3, h4⟩ | ⟨h, _⟩ | ⟨h, _⟩
      · simp at h
      · exact ⟨⟨⟨h1, h2, Ne.symm h5⟩, h3⟩, h4⟩
      all_goals simp at h
  · constructor
    · intro h
      rw [ok_2] at h
      unfold zB at h
      simp only [Bool.and_eq_true, inB_iff, beq_iff_eq] at h
      exact .inr (.inr (.inl ⟨.inl rfl, h.1.1.1, h.1.1.2, h.1.2, h.2⟩))
    · intro h
      rw [ok_2]
      unfold zB
      simp only [Bool.and_eq_true, inB_iff, beq_iff_eq]
      rcases h with ⟨h, _⟩ | ⟨h, _⟩ | ⟨_, h1, h2, h3, h4⟩ | ⟨h, _⟩
      · simp at h
      · simp at h
      · exact ⟨⟨⟨h1, h2⟩, h3⟩, h4⟩
      · simp at h
  · constructor
    · intro h
      rw [ok_3] at h
      unfold oB zB at h
      simp only [Bool.and_eq_true, inB_iff, beq_iff_eq, Bool.not_eq_true', beq_eq_false_iff_ne] at h
      exact .inr (.inr (.inr ⟨.inl rfl, h.1.1.1, h.1.1.2.1, Ne.symm h.1.1.2.2, h.1.2, h.2⟩))
    · intro h
      rw [ok_3]
      unfold oB zB
      simp only [Bool.and_eq_true, inB_iff, beq_iff_eq, Bool.not_eq_true', beq_eq_false_iff_ne]
      rcases h with ⟨h, _⟩ | ⟨h, _⟩ | ⟨h, _⟩ | ⟨_, h1, h2, h5, h3, h4⟩
      · simp at h
      · simp at h
      · simp at h
      · exact ⟨⟨⟨h1, h2, Ne.symm h5⟩, h3⟩, h4⟩
  · constructor
    · intro h
      rw [ok_4] at h
      unfold zB at h
      simp only [Bool.and_eq_true, inB_iff, beq_iff_eq] at h
      exact .inr (.inr (.inl ⟨.inr rfl, h.1.1.1, h.1.1.2, h.1.2, h.2⟩))
    · intro h
      rw [ok_4]
      unfold zB
      simp only [Bool.and_eq_true, inB_iff, beq_iff_eq]
      rcases h with ⟨h, _⟩ | ⟨h, _⟩ | ⟨_, h1, h2, h3, h4⟩ | ⟨h, _⟩
      · simp at h
      · simp at h
      · exact ⟨⟨⟨h1, h2⟩, h3⟩, h4⟩
      · simp at h
  · constructor
    · intro h
      rw [ok_5] at h
      unfold oB zB at h
      simp only [Bool.and_eq_true, inB_iff, beq_iff_eq, Bool.not_eq_true', beq_eq_false_iff_ne] at h
      exact .inr (.inr (.inr ⟨.inr rfl, h.1.1.1, h.1.1.2.1, Ne.symm h.1.1.2.2, h.1.2, h.2⟩))
    · intro h
      rw [ok_5]
      unfold oB zB
      simp only [Bool.and_eq_true, inB_iff, beq_iff_eq, Bool.not_eq_true', beq_eq_false_iff_ne]
      rcases h with ⟨h, _⟩ | ⟨h, _⟩ | ⟨h, _⟩ | ⟨_, h1, h2, h5, h3, h4⟩
      · simp at h
      · simp at h
      · simp at h
      · exact ⟨⟨⟨h1, h2, Ne.symm h5⟩, h3⟩, h4⟩
  · omega
  · omega
  · constructor
    · intro h; rw [ok_far (.inl hk)] at h; cases h
    · intro h; rcases h with ⟨h, _⟩ | ⟨h, _⟩ | ⟨h, _⟩ | ⟨h, _⟩ <;> (dsimp only at h; omega)
  · omega

/-- The weights of a statement, if it has some, and else noughts. -/
theorem ok_w {s : St} (h : s.ok = true) (h6 : s.k < 6) : (0 ≤ s.u ∧ s.u ≤ 9) ∧ (0 ≤ s.v ∧ s.v ≤ 9) ∧ (0 ≤ s.x ∧ s.x ≤ 9) ∧ (2 ≤ s.k → 0 < s.u + s.v + s.x) := by
  rcases (ok_low h6).1 h with ⟨hk, _, _, _, h1, h2, h3⟩ | ⟨hk, _, _, _, _, h1, h2, h3⟩ | ⟨hk, _, _, _, hw⟩ | ⟨hk, _, _, _, _, hw⟩
  · omega
  · omega
  · have := wOk_iff.1 hw; omega
  · have := wOk_iff.1 hw; omega

theorem com_bd {s : St} (h : s.ok = true) (h6 : s.k < 6) : 0 ≤ com s ∧ com s ≤ 9 := by
  obtain ⟨h1, h2, h3, _⟩ := ok_w h h6
  exact gcdF_bd (M := 9) (ds := [s.u, s.v, s.x]) (fun x hx => by
    rcases List.mem_cons.1 hx with rfl | hx
    · exact h1
    · rcases List.mem_cons.1 hx with rfl | hx
      · exact h2
      · rw [List.mem_singleton.1 hx]; exact h3) (by decide)
theorem com_dvd {s : St} (h : s.ok = true) (h6 : s.k < 6) : com s ∣ s.u ∧ com s ∣ s.v ∧ com s ∣ s.x := by
  obtain ⟨h1, h2, h3, _⟩ := ok_w h h6
  have := gcdF_dvd (M := 9) (ds := [s.u, s.v, s.x]) (fun x hx => by
    rcases List.mem_cons.1 hx with rfl | hx
    · exact h1
    · rcases List.mem_cons.1 hx with rfl | hx
      · exact h2
      · rw [List.mem_singleton.1 hx]; exact h3) (by decide)
  exact ⟨this _ (by simp), this _ (by simp), this _ (by simp)⟩
theorem com_pos {s : St} (h : s.ok = true) (h6 : s.k < 6) (h2 : 2 ≤ s.k) : 1 ≤ com s := by
  obtain ⟨h1, h3, h4, h5⟩ := ok_w h h6
  have h7 := com_bd h h6
  obtain ⟨⟨a, ha⟩, ⟨b, hb⟩, ⟨c, hc⟩⟩ := com_dvd h h6
  by_cases h0 : com s = 0
  · rw [h0, Int.zero_mul] at ha hb hc
    have := h5 h2
    omega
  · omega
/-- Weights divided: again weights, and less of them. -/
theorem scaled_w {s : St} (h : s.ok = true) (h6 : s.k < 6) (h2 : 2 ≤ s.k) :
    s.u = com s * (s.u / com s) ∧ s.v = com s * (s.v / com s) ∧ s.x = com s * (s.x / com s) ∧ wOk (s.u / com s) (s.v / com s) (s.x / com s) = true := by
  obtain ⟨h1, h3, h4, h5⟩ := ok_w h h6
  have hp := com_pos h h6 h2
  obtain ⟨⟨a, ha⟩, ⟨b, hb⟩, ⟨c, hc⟩⟩ := com_dvd h h6
  have h5' := h5 h2
  generalize com s = g at *
  have hg : g ≠ 0 := by omega
  have e1 : s.u / g = a := by rw [ha, Int.mul_ediv_cancel_left _ hg]
  have e2 : s.v / g = b := by rw [hb, Int.mul_ediv_cancel_left _ hg]
  have e3 : s.x / g = c := by rw [hc, Int.mul_ediv_cancel_left _ hg]
  rw [e1, e2, e3]
  refine ⟨ha, hb, hc, wOk_iff.2 ?_⟩
  have hb1 : ∀ y z : Int, y = g * z → 0 ≤ y ∧ y ≤ 9 → 0 ≤ z ∧ z ≤ 9 := fun y z e hy => by
    have h0 : 0 ≤ z := by
      by_cases hz : 0 ≤ z
      · exact hz
      · have : g * z ≤ 1 * z := Int.mul_le_mul_of_nonpos_right hp (by omega)
        omega
    have : 1 * z ≤ g * z := Int.mul_le_mul_of_nonneg_right hp h0
    omega
  have k1 := hb1 _ _ ha h1
  have k2 := hb1 _ _ hb h3
  have k3 := hb1 _ _ hc h4
  refine ⟨k1, k2, k3, ?_⟩
  by_cases h0 : 0 < a + b + c
  · exact h0
  · have ea : a = 0 := by omega
    have eb : b = 0 := by omega
    have ec : c = 0 := by omega
    rw [ea, Int.mul_zero] at ha
    rw [eb, Int.mul_zero] at hb
    rw [ec, Int.mul_zero] at hc
    omega

theorem bitsAll_ok : ∀ x : Fin 5, ∀ rx : Fin 16, ∀ y : Fin 5, ∀ ry : Fin 16, swapB ((x : Int) - 1) rx ((y : Int) - 1) ry = swapB ((y : Int) - 1) ry ((x : Int) - 1) rx := by decide +kernel
theorem sets_bd (s : St) (h : s.ok = true) : -1 ≤ s.sets ∧ s.sets ≤ 3 := by
  unfold St.sets
  have := ok_rng (k := s.k) (a := s.a) (b := s.b) (c := s.c) (u := s.u) (v := s.v) (x := s.x) h
  split <;> omega
theorem swapOk_comm {a b : St} (ha : a.ok = true) (hb : b.ok = true) : swapOk a b = swapOk b a := by
  have h1 := sets_bd a ha
  have h2 := sets_bd b hb
  have h3 := reads_bd a
  have h4 := reads_bd b
  unfold swapOk
  have := bitsAll_ok ⟨(a.sets + 1).toNat, by omega⟩ ⟨a.reads.toNat, by omega⟩ ⟨(b.sets + 1).toNat, by omega⟩ ⟨b.reads.toNat, by omega⟩
  dsimp only at this
  rwa [Int.toNat_of_nonneg (by omega), Int.toNat_of_nonneg (by omega), Int.toNat_of_nonneg (by omega), Int.toNat_of_nonneg (by omega), Int.add_sub_cancel, Int.add_sub_cancel] at this

theorem fits_some (c : Int) (a b : St) : fits c a (some b) = (may1 c a.k && may2 c b.k && (if c = 3 then decide (1 < com a) else fitR c a b)) := rfl
/-- What a fitting change needs, by its number. -/
theorem fits_1 {a : St} {ob : Option St} (h : fits 1 a ob = true) : ∃ b, ob = some b ∧ (a.k = 2 ∨ a.k = 4) ∧ b.k = 4 ∧ a.a = b.a ∧ wOk (a.u * b.u) (a.v * b.v) (a.x * b.x) = true := by
  cases ob with
  | none => simp [fits, may2, kindO] at h
  | some b =>
    refine ⟨b, rfl, ?_⟩
    rw [fits_some] at h
    simpa [may1, may2, fitR, and_assoc] using h
theorem fits_2 {a : St} {ob : Option St} (h : fits 2 a ob = true) : ∃ b, ob = some b ∧ a.k ≤ 3 ∧ b.k ≤ 3 ∧ a.a = b.a ∧ bits .and .i64 b.reads (bitN a.a) = 0 := by
  cases ob with
  | none => simp [fits, may2, kindO] at h
  | some b =>
    refine ⟨b, rfl, ?_⟩
    rw [fits_some] at h
    simpa [may1, may2, fitR, and_assoc] using h
theorem fits_3 {a : St} {ob : Option St} (h : fits 3 a ob = true) : 2 ≤ a.k ∧ a.k ≤ 5 ∧ 1 < com a := by
  simpa [fits, may1, may2, fitB, and_assoc] using h
theorem fits_4 {a : St} {ob : Option St} (h : fits 4 a ob = true) : ∃ b, ob = some b ∧ a.k = 0 ∧ (b.k = 3 ∨ b.k = 5) ∧ a.b = -1 ∧ a.a = b.b := by
  cases ob with
  | none => simp [fits, may2, kindO] at h
  | some b =>
    refine ⟨b, rfl, ?_⟩
    rw [fits_some] at h
    simpa [may1, may2, fitR, and_assoc] using h
theorem fits_0 {a : St} {ob : Option St} (h : fits 0 a ob = true) : ∃ b, ob = some b ∧ a.k ≤ 5 ∧ b.k ≤ 5 ∧ swapOk a b = true := by
  cases ob with
  | none => simp [fits, may2, kindO] at h
  | some b =>
    refine ⟨b, rfl, ?_⟩
    rw [fits_some] at h
    simpa [may1, may2, fitR, and_assoc] using h
theorem fits_none {c : Int} {a : St} (hc : 0 ≤ c ∧ c ≤ 4) (h : fits c a none = true) : c = 3 := by
  obtain rfl | rfl | rfl | rfl | rfl : c = 0 ∨ c = 1 ∨ c = 2 ∨ c = 3 ∨ c = 4 := by omega
  · obtain ⟨b, e, _⟩ := fits_0 h; cases e
  · obtain ⟨b, e, _⟩ := fits_1 h; cases e
  · obtain ⟨b, e, _⟩ := fits_2 h; cases e
  · rfl
  · obtain ⟨b, e, _⟩ := fits_4 h; cases e

theorem scaled_ok {a : St} (h : a.ok = true) (h6 : a.k < 6) (h2 : 2 ≤ a.k) : (scaled a).ok = true ∧ (scaled a).k < 6 := by
  obtain ⟨_, _, _, hw⟩ := scaled_w h h6 h2
  refine ⟨(ok_low (s := scaled a) h6).2 ?_, h6⟩
  rcases (ok_low h6).1 h with ⟨hk, _⟩ | ⟨hk, _⟩ | ⟨hk, h1, h2, h3, _⟩ | ⟨hk, h1, h2, h3, h4, _⟩
  · exfalso; omega
  · exfalso; omega
  · exact .inr (.inr (.inl ⟨hk, h1, h2, h3, hw⟩))
  · exact .inr (.inr (.inr ⟨hk, h1, h2, h3, h4, hw⟩))
theorem folded_ok {a b : St} (h : a.ok = true) (h6 : a.k < 6) (hk : a.k = 2 ∨ a.k = 4) (hw : wOk (a.u * b.u) (a.v * b.v) (a.x * b.x) = true) : (folded a b).ok = true ∧ (folded a b).k < 6 := by
  refine ⟨(ok_low (s := folded a b) h6).2 ?_, h6⟩
  rcases (ok_low h6).1 h with ⟨hk', _⟩ | ⟨hk', _⟩ | ⟨hk', h1, h2, h3, _⟩ | ⟨hk', h1, h2, h3, h4, _⟩
  · exfalso; omega
  · exfalso; omega
  · exact .inr (.inr (.inl ⟨hk, h1, h2, h3, hw⟩))
  · exfalso; omega
theorem moved_ok {b : St} {n : Int} (h : b.ok = true) (h6 : b.k < 6) (hk : b.k = 3 ∨ b.k = 5) (hn : 0 ≤ n ∧ n ≤ 2) : (moved b n).ok = true ∧ (moved b n).k < 6 := by
  have h6' : (moved b n).k < 6 := by unfold moved; dsimp only; split <;> omega
  refine ⟨(ok_low h6').2 ?_, h6'⟩
  rcases (ok_low h6).1 h with ⟨hk', _⟩ | ⟨hk', _⟩ | ⟨hk', h1, h2, h3, _⟩ | ⟨hk', h1, h2, h3, h4, hw⟩
  · exfalso; omega
  · exfalso; omega
  · exfalso; omega
  · refine .inr (.inr (.inl ⟨?_, h1, rfl, rfl, ?_⟩))
    · unfold moved; dsimp only; split
      · exact .inr rfl
      · exact .inl rfl
    · have hw' := wOk_iff.1 hw
      refine wOk_iff.2 ?_
      unfold moved St.wgt
      dsimp only
      obtain rfl | rfl | rfl : n = 0 ∨ n = 1 ∨ n = 2 := by omega
      all_goals (simp only [show (0 : Int) % 3 = 0 from rfl, show (1 : Int) % 3 = 1 from rfl, show (2 : Int) % 3 = 2 from rfl, show ((1 : Int) + 0) % 3 = 1 from rfl, show ((1 : Int) + 1) % 3 = 2 from rfl, show ((1 : Int) + 2) % 3 = 0 from rfl, show ((2 : Int) + 0) % 3 = 2 from rfl, show ((2 : Int) + 1) % 3 = 0 from rfl, show ((2 : Int) + 2) % 3 = 1 from rfl, if_true, show ¬ ((1 : Int) = 0) by decide, show ¬ ((2 : Int) = 0) by decide, show ¬ ((2 : Int) = 1) by decide, if_false] <;> omega)

/-- What stands in a window then are statements, plain ones. -/
theorem chg_ok {c : Int} {a : St} {ob : Option St} (hc : 0 ≤ c ∧ c ≤ 4) (ha : a.ok = true ∧ a.k < 6) (hb : ∀ b, ob = some b → b.ok = true ∧ b.k < 6) (h : fits c a ob = true) : ∀ s ∈ chg c a ob, s.ok = true ∧ s.k < 6 := by
  obtain rfl | rfl | rfl | rfl | rfl : c = 0 ∨ c = 1 ∨ c = 2 ∨ c = 3 ∨ c = 4 := by omega
  · obtain ⟨b, rfl, _⟩ := fits_0 h
    intro s hs
    have : s = b ∨ s = a := by simpa [chg] using hs
    rcases this with rfl | rfl
    · exact hb _ rfl
    · exact ha
  · obtain ⟨b, rfl, hk, hk2, _, hw⟩ := fits_1 h
    intro s hs
    have : s = folded a b := by simpa [chg] using hs
    subst this
    exact folded_ok ha.1 ha.2 hk hw
  · obtain ⟨b, rfl, _⟩ := fits_2 h
    intro s hs
    have : s = b := by simpa [chg] using hs
    subst this
    exact hb _ rfl
  · obtain ⟨h2, _, _⟩ := fits_3 h
    intro s hs
    cases ob with
    | none =>
      have : s = scaled a := by simpa [chg] using hs
      subst this
      exact scaled_ok ha.1 ha.2 h2
    | some b =>
      have : s = scaled a ∨ s = b := by simpa [chg] using hs
      rcases this with rfl | rfl
      · exact scaled_ok ha.1 ha.2 h2
      · exact hb _ rfl
  · obtain ⟨b, rfl, hk0, hk, _, _⟩ := fits_4 h
    intro s hs
    have : s = a ∨ s = moved b a.c := by simpa [chg] using hs
    rcases this with rfl | rfl
    · exact ha
    · have hb' := hb b rfl
      refine moved_ok hb'.1 hb'.2 hk ?_
      rcases (ok_low ha.2).1 ha.1 with ⟨_, _, _, hc, _⟩ | ⟨hk', _⟩ | ⟨hk', _⟩ | ⟨hk', _⟩
      · exact hc
      all_goals omega
theorem chg_len {c : Int} {a : St} {ob : Option St} : (chg c a ob).length ≤ 1 + ob.toList.length ∧ 1 ≤ (chg c a ob).length := by
  cases ob with
  | none => simp [chg]
  | some b =>
    unfold chg
    dsimp only
    repeat' split
    all_goals simp

theorem fitAt_some {c : Int} {ps : List St} {i : Nat} (h : fitAt c ps i = true) : ∃ a, ps[i]? = some a ∧ fits c a ps[i + 1]? = true := by
  unfold fitAt at h
  cases ha : ps[i]? with
  | none => rw [ha] at h; cases h
  | some a => rw [ha] at h; exact ⟨a, rfl, h⟩
theorem done_eq {c : Int} {ps : List St} {i : Nat} {a : St} (h : ps[i]? = some a) : chDone c ps i = ps.take i ++ chg c a ps[i + 1]? ++ ps.drop (i + 2) := by
  unfold chDone; rw [h]
theorem split_at {ps : List St} {i : Nat} {a : St} (h : ps[i]? = some a) : ps = ps.take i ++ (a :: ps[i + 1]?.toList) ++ ps.drop (i + 2) := by
  have hl := (List.getElem?_eq_some_iff.1 h).1
  have e1 : ps.drop i = a :: ps.drop (i + 1) := drop_cons h
  have e2 : ps.drop (i + 1) = ps[i + 1]?.toList ++ ps.drop (i + 2) := by
    cases hb : ps[i + 1]? with
    | none =>
      have : ps.length ≤ i + 1 := List.getElem?_eq_none_iff.1 hb
      rw [List.drop_eq_nil_of_le this, List.drop_eq_nil_of_le (by omega)]; rfl
    | some b => rw [drop_cons hb]; rfl
  conv => lhs; rw [← List.take_append_drop i ps, e1, e2]
  simp
theorem done_plain {c : Int} {ps : List St} {i : Nat} (hc : 0 ≤ c ∧ c ≤ 4) (hp : plainOk ps = true) (h : fitAt c ps i = true) : plainOk (chDone c ps i) = true := by
  obtain ⟨a, ha, hf⟩ := fitAt_some h
  obtain ⟨h10, hok⟩ := plain_iff.1 hp
  have hl := congrArg List.length (split_at ha)
  rw [done_eq ha]
  have hb : ∀ b, ps[i + 1]? = some b → b.ok = true ∧ b.k < 6 := fun b hb => hok b (List.mem_of_getElem? hb)
  have hcl := (chg_len (c := c) (a := a) (ob := ps[i + 1]?)).1
  refine plain_iff.2 ⟨?_, fun s hs => ?_⟩
  · simp only [List.length_append, List.length_cons] at hl ⊢
    omega
  · rcases List.mem_append.1 hs with hs | hs
    · rcases List.mem_append.1 hs with hs | hs
      · exact hok s (List.mem_of_mem_take hs)
      · exact chg_ok hc (hok a (List.mem_of_getElem? ha)) hb hf s hs
    · exact hok s (List.mem_of_mem_drop hs)

/-- What becomes less with every change but a swap. -/
def mass (s : St) : Int := 100 + (if s.k = 3 ∨ s.k = 5 then 1 else 0) + s.u + s.v + s.x
def masses : List St → Int
  | [] => 0
  | s :: r => mass s + masses r
theorem masses_append : ∀ (a b : List St), masses (a ++ b) = masses a + masses b
  | [], b => by simp [masses]
  | s :: r, b => by rw [List.cons_append, masses, masses, masses_append r b]; omega
theorem mass_bd {s : St} (h : s.ok = true) (h6 : s.k < 6) : 100 ≤ mass s ∧ mass s ≤ 128 := by
  have := ok_w h h6
  unfold mass
  split <;> omega
theorem masses_bd : ∀ {ps : List St}, (∀ s ∈ ps, s.ok = true ∧ s.k < 6) → 0 ≤ masses ps ∧ masses ps ≤ 128 * ps.length
  | [], _ => by simp [masses]
  | s :: r, h => by
    have h1 := mass_bd (h s List.mem_cons_self).1 (h s List.mem_cons_self).2
    have h2 := masses_bd (fun t ht => h t (List.mem_cons_of_mem _ ht))
    rw [masses, List.length_cons]
    omega
theorem chg_less {c : Int} {a : St} {ob : Option St} (hc : 1 ≤ c ∧ c ≤ 4) (ha : a.ok = true ∧ a.k < 6) (hb : ∀ b, ob = some b → b.ok = true ∧ b.k < 6) (h : fits c a ob = true) : masses (chg c a ob) < masses (a :: ob.toList) := by
  have hwa := ok_w ha.1 ha.2
  obtain rfl | rfl | rfl | rfl : c = 1 ∨ c = 2 ∨ c = 3 ∨ c = 4 := by omega
  · obtain ⟨b, rfl, hk, hk2, _, hw⟩ := fits_1 h
    have hwb := ok_w (hb b rfl).1 (hb b rfl).2
    have hw' := wOk_iff.1 hw
    show mass (folded a b) + 0 < mass a + (mass b + 0)
    unfold mass folded setW
    dsimp only
    split <;> split <;> omega
  · obtain ⟨b, rfl, _⟩ := fits_2 h
    have h1 := mass_bd ha.1 ha.2
    show mass b + 0 < mass a + (mass b + 0)
    omega
  · obtain ⟨h2, _, h1⟩ := fits_3 h
    obtain ⟨e1, e2, e3, hw⟩ := scaled_w ha.1 ha.2 h2
    have hw' := wOk_iff.1 hw
    have key : mass (scaled a) < mass a := by
      unfold mass scaled setW
      dsimp only
      generalize a.u / com a = p at *
      generalize a.v / com a = q at *
      generalize a.x / com a = r at *
      have k1 : 2 * p ≤ com a * p := Int.mul_le_mul_of_nonneg_right h1 hw'.1.1
      have k2 : 2 * q ≤ com a * q := Int.mul_le_mul_of_nonneg_right h1 hw'.2.1.1
      have k3 : 2 * r ≤ com a * r := Int.mul_le_mul_of_nonneg_right h1 hw'.2.2.1.1
      omega
    cases ob with
    | none => show mass (scaled a) + 0 < mass a + 0; omega
    | some b => show mass (scaled a) + (mass b + 0) < mass a + (mass b + 0); omega
  · obtain ⟨b, rfl, hk0, hk, _, _⟩ := fits_4 h
    have key : mass (moved b a.c) < mass b := by
      have hcc : 0 ≤ a.c ∧ a.c ≤ 2 := by
        rcases (ok_low ha.2).1 ha.1 with ⟨_, _, _, hc, _⟩ | ⟨hk', _⟩ | ⟨hk', _⟩ | ⟨hk', _⟩
        · exact hc
        all_goals omega
      unfold mass moved St.wgt
      dsimp only
      have e1 : (if (if b.k = 5 then (4 : Int) else 2) = 3 ∨ (if b.k = 5 then (4 : Int) else 2) = 5 then (1 : Int) else 0) = 0 := by
        split <;> simp
      rw [e1, if_pos hk]
      generalize a.c = n at hcc ⊢
      obtain rfl | rfl | rfl : n = 0 ∨ n = 1 ∨ n = 2 := by omega
      all_goals (simp only [show (0 : Int) % 3 = 0 from rfl, show (1 : Int) % 3 = 1 from rfl, show (2 : Int) % 3 = 2 from rfl, show ((1 : Int) + 0) % 3 = 1 from rfl, show ((1 : Int) + 1) % 3 = 2 from rfl, show ((1 : Int) + 2) % 3 = 0 from rfl, show ((2 : Int) + 0) % 3 = 2 from rfl, show ((2 : Int) + 1) % 3 = 0 from rfl, show ((2 : Int) + 2) % 3 = 1 from rfl, if_true, show ¬ ((1 : Int) = 0) by decide, show ¬ ((2 : Int) = 0) by decide, show ¬ ((2 : Int) = 1) by decide, if_false] <;> omega)
    show mass a + (mass (moved b a.c) + 0) < mass a + (mass b + 0)
    omega
theorem done_less {c : Int} {ps : List St} {i : Nat} (hc : 1 ≤ c ∧ c ≤ 4) (hp : plainOk ps = true) (h : fitAt c ps i = true) : masses (chDone c ps i) < masses ps := by
  obtain ⟨a, ha, hf⟩ := fitAt_some h
  obtain ⟨h10, hok⟩ := plain_iff.1 hp
  have := chg_less hc (hok a (List.mem_of_getElem? ha)) (fun b hb => hok b (List.mem_of_getElem? hb)) hf
  have e := congrArg masses (split_at ha)
  rw [done_eq ha]
  rw [masses_append, masses_append] at e ⊢
  omega

/-- The first change of all that is no swap. -/
def firstAt (c : Int) (ps : List St) : Option Nat := (List.range ps.length).find? fun i => fitAt c ps i
def nextCh (ps : List St) : Option (Int × Nat) := ((firstAt 1 ps).map fun i => (1, i)) <|> ((firstAt 2 ps).map fun i => (2, i)) <|> ((firstAt 3 ps).map fun i => (3, i)) <|> ((firstAt 4 ps).map fun i => (4, i))
theorem fitAt_lt {c : Int} {ps : List St} {i : Nat} (h : fitAt c ps i = true) : i < ps.length := by
  obtain ⟨a, ha, _⟩ := fitAt_some h
  exact (List.getElem?_eq_some_iff.1 ha).1
theorem first_some {c : Int} {ps : List St} {i : Nat} (h : fitAt c ps i = true) (hb : ∀ j, j < i → fitAt c ps j = false) : firstAt c ps = some i := by
  unfold firstAt
  rw [List.find?_range_eq_some]
  exact ⟨h, List.mem_range.2 (fitAt_lt h), fun j hj => by simp [hb j hj]⟩
theorem first_none {c : Int} {ps : List St} (hb : ∀ j, j < ps.length → fitAt c ps j = false) : firstAt c ps = none := by
  unfold firstAt
  rw [List.find?_eq_none]
  intro j hj
  simp [hb j (List.mem_range.1 hj)]
theorem first_fit {c : Int} {ps : List St} {i : Nat} (h : firstAt c ps = some i) : fitAt c ps i = true := by
  unfold firstAt at h
  exact (List.find?_range_eq_some.1 h).1
theorem next_fit {ps : List St} {c : Int} {i : Nat} (h : nextCh ps = some (c, i)) : (1 ≤ c ∧ c ≤ 4) ∧ fitAt c ps i = true := by
  unfold nextCh at h
  cases h1 : firstAt 1 ps with
  | some j => rw [h1] at h; simp at h; obtain ⟨rfl, rfl⟩ := h; exact ⟨by decide, first_fit h1⟩
  | none =>
    cases h2 : firstAt 2 ps with
    | some j => rw [h1, h2] at h; simp at h; obtain ⟨rfl, rfl⟩ := h; exact ⟨by decide, first_fit h2⟩
    | none =>
      cases h3 : firstAt 3 ps with
      | some j => rw [h1, h2, h3] at h; simp at h; obtain ⟨rfl, rfl⟩ := h; exact ⟨by decide, first_fit h3⟩
      | none =>
        cases h4 : firstAt 4 ps with
        | some j => rw [h1, h2, h3, h4] at h; simp at h; obtain ⟨rfl, rfl⟩ := h; exact ⟨by decide, first_fit h4⟩
        | none => rw [h1, h2, h3, h4] at h; simp at h
/-- It is the one ahead of which none fits. -/
theorem next_some {ps : List St} {c : Nat} {i : Nat} (hc : 1 ≤ c ∧ c ≤ 4) (h : fitAt c ps i = true) (hb : ∀ j, j < i → fitAt c ps j = false) (hl : ∀ d : Nat, 1 ≤ d → d < c → ∀ j, j < ps.length → fitAt d ps j = false) : nextCh ps = some ((c : Int), i) := by
  have hf := first_some h hb
  unfold nextCh
  obtain rfl | rfl | rfl | rfl : c = 1 ∨ c = 2 ∨ c = 3 ∨ c = 4 := by omega
  · have hf' : firstAt 1 ps = some i := hf
    rw [hf']; rfl
  · have hf' : firstAt 2 ps = some i := hf
    have h1 : firstAt 1 ps = none := first_none (hl 1 (by decide) (by decide))
    rw [hf', h1]; rfl
  · have hf' : firstAt 3 ps = some i := hf
    have h1 : firstAt 1 ps = none := first_none (hl 1 (by decide) (by decide))
    have h2 : firstAt 2 ps = none := first_none (hl 2 (by decide) (by decide))
    rw [hf', h1, h2]; rfl
  · have hf' : firstAt 4 ps = some i := hf
    have h1 : firstAt 1 ps = none := first_none (hl 1 (by decide) (by decide))
    have h2 : firstAt 2 ps = none := first_none (hl 2 (by decide) (by decide))
    have h3 : firstAt 3 ps = none := first_none (hl 3 (by decide) (by decide))
    rw [hf', h1, h2, h3]; rfl
theorem next_none {ps : List St} (hl : ∀ d : Nat, 1 ≤ d → d ≤ 4 → ∀ j, j < ps.length → fitAt d ps j = false) : nextCh ps = none := by
  have h1 : firstAt 1 ps = none := first_none (hl 1 (by decide) (by decide))
  have h2 : firstAt 2 ps = none := first_none (hl 2 (by decide) (by decide))
  have h3 : firstAt 3 ps = none := first_none (hl 3 (by decide) (by decide))
  have h4 : firstAt 4 ps = none := first_none (hl 4 (by decide) (by decide))
  unfold nextCh
  rw [h1, h2, h3, h4]; rfl

/-- All changes that make it less are done: the program, and by what the total is less. -/
def tidyN : Nat → List St → Int → List St × Int
  | 0, ps, f => (ps, f)
  | n + 1, ps, f => match nextCh ps with
    | none => (ps, f)
    | some (c, i) => tidyN n (chDone c ps i) (f * facBy c (ps.getD i ⟨0, 0, 0, 0, 0, 0, 0⟩))
def tidy (ps : List St) (f : Int) : List St × Int := tidyN (masses ps).toNat ps f
theorem tidyN_more : ∀ (n m : Nat) (ps : List St) (f : Int), plainOk ps = true → (masses ps).toNat ≤ n → (masses ps).toNat ≤ m → tidyN n ps f = tidyN m ps f
  | n, m, ps, f, hp, hn, hm => by
    cases hx : nextCh ps with
    | none => cases n <;> cases m <;> simp [tidyN, hx]
    | some p =>
      obtain ⟨c, i⟩ := p
      obtain ⟨hc, hf⟩ := next_fit hx
      have h1 := done_less hc hp hf
      have h2 := done_plain ⟨by omega, hc.2⟩ hp hf
      have h3 := (masses_bd (plain_iff.1 h2).2).1
      cases n with
      | zero => omega
      | succ n =>
        cases m with
        | zero => omega
        | succ m =>
          simp only [tidyN, hx]
          exact tidyN_more n m _ _ h2 (by omega) (by omega)
theorem tidy_end {ps : List St} {f : Int} (h : nextCh ps = none) : tidy ps f = (ps, f) := by
  unfold tidy
  cases (masses ps).toNat <;> simp [tidyN, h]
theorem tidy_step {ps : List St} {f : Int} {c : Int} {i : Nat} {a : St} (hp : plainOk ps = true) (h : nextCh ps = some (c, i)) (ha : ps[i]? = some a) : tidy ps f = tidy (chDone c ps i) (f * facBy c a) := by
  obtain ⟨hc, hf⟩ := next_fit h
  have h1 := done_less hc hp hf
  have h2 := done_plain ⟨by omega, hc.2⟩ hp hf
  have h3 := (masses_bd (plain_iff.1 h2).2).1
  have hg : ps.getD i ⟨0, 0, 0, 0, 0, 0, 0⟩ = a := by rw [List.getD_eq_getElem?_getD, ha]; rfl
  unfold tidy
  obtain ⟨n, hn⟩ : ∃ n, (masses ps).toNat = n + 1 := ⟨(masses ps).toNat - 1, by omega⟩
  rw [hn]
  simp only [tidyN, h, hg]
  exact tidyN_more _ _ _ _ h2 (by omega) (Nat.le_refl _)

/-- How much a program can be made less at the most: the products of sums of weights. -/
def sumW (s : St) : Int := if 2 ≤ s.k then s.u + s.v + s.x else 1
def sumWs : List St → Int
  | [] => 1
  | s :: r => sumW s * sumWs r
theorem sumWs_append : ∀ (a b : List St), sumWs (a ++ b) = sumWs a * sumWs b
  | [], b => by simp [sumWs]
  | s :: r, b => by rw [List.cons_append, sumWs, sumWs, sumWs_append r b, Int.mul_assoc]
theorem sumW_bd {s : St} (h : s.ok = true) (h6 : s.k < 6) : 1 ≤ sumW s ∧ sumW s ≤ 27 := by
  have := ok_w h h6
  unfold sumW
  split <;> omega
theorem sumWs_bd : ∀ {ps : List St}, (∀ s ∈ ps, s.ok = true ∧ s.k < 6) → 1 ≤ sumWs ps ∧ sumWs ps ≤ 27 ^ ps.length
  | [], _ => by simp [sumWs]
  | s :: r, h => by
    have h1 := sumW_bd (h s List.mem_cons_self).1 (h s List.mem_cons_self).2
    have h2 := sumWs_bd (fun t ht => h t (List.mem_cons_of_mem _ ht))
    rw [sumWs, List.length_cons, Int.pow_succ, Int.mul_comm]
    refine ⟨?_, Int.mul_le_mul h2.2 h1.2 (by omega) (by omega)⟩
    have := Int.mul_le_mul h2.1 h1.1 (by omega) (by omega)
    omega
theorem fac_pos {c : Int} {a : St} {ob : Option St} (hc : 0 ≤ c ∧ c ≤ 4) (ha : a.ok = true ∧ a.k < 6) (h : fits c a ob = true) : 1 ≤ facBy c a ∧ facBy c a ≤ 27 := by
  have hw := ok_w ha.1 ha.2
  have hcb := com_bd ha.1 ha.2
  unfold facBy
  split
  · rename_i e
    subst e
    obtain ⟨h2, _, h1⟩ := fits_3 h
    omega
  · split
    · rename_i e
      have hd : a.k = 2 ∨ a.k = 3 := by simpa [St.draws] using e.2
      have := hw.2.2.2 (by omega)
      omega
    · omega
theorem chg_sumW {c : Int} {a : St} {ob : Option St} (hc : 0 ≤ c ∧ c ≤ 4) (ha : a.ok = true ∧ a.k < 6) (hb : ∀ b, ob = some b → b.ok = true ∧ b.k < 6) (h : fits c a ob = true) : facBy c a * sumWs (chg c a ob) ≤ sumWs (a :: ob.toList) := by
  have hwa := ok_w ha.1 ha.2
  obtain rfl | rfl | rfl | rfl | rfl : c = 0 ∨ c = 1 ∨ c = 2 ∨ c = 3 ∨ c = 4 := by omega
  · obtain ⟨b, rfl, _⟩ := fits_0 h
    show 1 * (sumW b * (sumW a * 1)) ≤ sumW a * (sumW b * 1)
    rw [Int.mul_one, Int.mul_one, Int.one_mul, Int.mul_comm]
    exact Int.le_refl _
  · obtain ⟨b, rfl, hk, hk2, _, hw⟩ := fits_1 h
    have hwb := ok_w (hb b rfl).1 (hb b rfl).2
    have hw' := wOk_iff.1 hw
    show 1 * (sumW (folded a b) * 1) ≤ sumW a * (sumW b * 1)
    have e : sumW (folded a b) = a.u * b.u + a.v * b.v + a.x * b.x := if_pos (by show 2 ≤ a.k; omega)
    rw [e]
    unfold sumW
    rw [if_pos (by omega), if_pos (by omega), Int.one_mul, Int.mul_one, Int.mul_one, Int.add_mul, Int.add_mul, Int.mul_add, Int.mul_add, Int.mul_add, Int.mul_add, Int.mul_add, Int.mul_add]
    have p : ∀ y z : Int, 0 ≤ y → 0 ≤ z → 0 ≤ y * z := fun _ _ => Int.mul_nonneg
    have q1 := p _ _ hwa.1.1 hwb.2.1.1
    have q2 := p _ _ hwa.1.1 hwb.2.2.1.1
    have q3 := p _ _ hwa.2.1.1 hwb.1.1
    have q4 := p _ _ hwa.2.1.1 hwb.2.2.1.1
    have q5 := p _ _ hwa.2.2.1.1 hwb.1.1
    have q6 := p _ _ hwa.2.2.1.1 hwb.2.1.1
    omega
  · obtain ⟨b, rfl, hk, _⟩ := fits_2 h
    show facBy 2 a * (sumW b * 1) ≤ sumW a * (sumW b * 1)
    have hbb := sumW_bd (hb b rfl).1 (hb b rfl).2
    have : facBy 2 a ≤ sumW a := by
      unfold facBy sumW
      rw [if_neg (by decide)]
      split
      · rename_i e
        have hd : a.k = 2 ∨ a.k = 3 := by simpa [St.draws] using e.2
        rw [if_pos (by omega)]; omega
      · split
        · rename_i h2
          have := hwa.2.2.2 h2
          omega
        · omega
    exact Int.mul_le_mul_of_nonneg_right this (by omega)
  · obtain ⟨h2, _, h1⟩ := fits_3 h
    obtain ⟨e1, e2, e3, hw⟩ := scaled_w ha.1 ha.2 h2
    have key : com a * sumW (scaled a) = sumW a := by
      unfold sumW
      rw [if_pos (show 2 ≤ (scaled a).k from h2), if_pos h2]
      show com a * (a.u / com a + a.v / com a + a.x / com a) = _
      rw [Int.mul_add, Int.mul_add, ← e1, ← e2, ← e3]
    have hf : facBy 3 a = com a := if_pos rfl
    rw [hf]
    cases ob with
    | none => show com a * (sumW (scaled a) * 1) ≤ sumW a * 1; rw [Int.mul_one, Int.mul_one, key]; exact Int.le_refl _
    | some b => show com a * (sumW (scaled a) * (sumW b * 1)) ≤ sumW a * (sumW b * 1); rw [← Int.mul_assoc, key]; exact Int.le_refl _
  · obtain ⟨b, rfl, hk0, hk, _, _⟩ := fits_4 h
    have hcc : 0 ≤ a.c ∧ a.c ≤ 2 := by
      rcases (ok_low ha.2).1 ha.1 with ⟨_, _, _, hc, _⟩ | ⟨hk', _⟩ | ⟨hk', _⟩ | ⟨hk', _⟩
      · exact hc
      all_goals omega
    have key : sumW (moved b a.c) = sumW b := by
      unfold sumW
      rw [if_pos (show 2 ≤ (moved b a.c).k by unfold moved; dsimp only; split <;> decide), if_pos (by omega)]
      unfold moved St.wgt
      dsimp only
      generalize a.c = n at hcc ⊢
      obtain rfl | rfl | rfl : n = 0 ∨ n = 1 ∨ n = 2 := by omega
      all_goals (simp only [show (0 : Int) % 3 = 0 from rfl, show (1 : Int) % 3 = 1 from rfl, show (2 : Int) % 3 = 2 from rfl, show ((1 : Int) + 0) % 3 = 1 from rfl, show ((1 : Int) + 1) % 3 = 2 from rfl, show ((1 : Int) + 2) % 3 = 0 from rfl, show ((2 : Int) + 0) % 3 = 2 from rfl, show ((2 : Int) + 1) % 3 = 0 from rfl, show ((2 : Int) + 2) % 3 = 1 from rfl, if_true, show ¬ ((1 : Int) = 0) by decide, show ¬ ((2 : Int) = 0) by decide, show ¬ ((2 : Int) = 1) by decide, if_false] <;> omega)
    show 1 * (sumW a * (sumW (moved b a.c) * 1)) ≤ sumW a * (sumW b * 1)
    rw [key, Int.one_mul]; exact Int.le_refl _
theorem done_sumW {c : Int} {ps : List St} {i : Nat} {a : St} (hc : 0 ≤ c ∧ c ≤ 4) (hp : plainOk ps = true) (h : fitAt c ps i = true) (ha : ps[i]? = some a) : facBy c a * sumWs (chDone c ps i) ≤ sumWs ps := by
  obtain ⟨a', ha', hf⟩ := fitAt_some h
  rw [ha] at ha'
  obtain rfl : a = a' := by injection ha'
  obtain ⟨h10, hok⟩ := plain_iff.1 hp
  have h1 := chg_sumW hc (hok a (List.mem_of_getElem? ha)) (fun b hb => hok b (List.mem_of_getElem? hb)) hf
  have e := congrArg sumWs (split_at ha)
  rw [done_eq ha, sumWs_append, sumWs_append]
  rw [sumWs_append, sumWs_append] at e
  have h2 := (sumWs_bd (fun s hs => hok s (List.mem_of_mem_take (i := i) hs))).1
  have h3 := (sumWs_bd (fun s hs => hok s (List.mem_of_mem_drop (i := i + 2) hs))).1
  rw [e]
  have e2 : facBy c a * (sumWs (ps.take i) * sumWs (chg c a ps[i + 1]?) * sumWs (ps.drop (i + 2))) = sumWs (ps.take i) * (facBy c a * sumWs (chg c a ps[i + 1]?)) * sumWs (ps.drop (i + 2)) := by
    rw [← Int.mul_assoc, ← Int.mul_assoc, ← Int.mul_assoc, Int.mul_comm (facBy c a) (sumWs (ps.take i))]
  rw [e2]
  exact Int.mul_le_mul_of_nonneg_right (Int.mul_le_mul_of_nonneg_left h1 (by omega)) (by omega)
end Go.Proofs.Ytaipdkfbkcknkaa
