/- The program's StmtOk returns what the document's table says, for every seven numbers. -/
import Derived.Test.YtjokiminlplbcaaStOkI
namespace Go.Proofs.Ytjokiminlplbcaa
set_option maxRecDepth 100000
open Go.RowKit

theorem ok_0 (a b c u v x : Int) : (St.mk 0 a b c u v x).ok = (inB a 0 3 && inB b (-1) 3 && inB c 0 2 && wZero u v x) := by
  simp [St.ok, Bool.and_assoc]

theorem ok_1 (a b c u v x : Int) : (St.mk 1 a b c u v x).ok = (inB a 0 3 && oB b a && zB c && wZero u v x) := by
  have e : (b == a) = (a == b) := by rw [Bool.eq_iff_iff, beq_iff_eq, beq_iff_eq]; exact ⟨Eq.symm, Eq.symm⟩
  unfold oB zB
  rw [e]
  simp [St.ok, Bool.and_assoc]

theorem ok_2 (a b c u v x : Int) : (St.mk 2 a b c u v x).ok = (inB a 0 3 && zB b && zB c && wOk u v x) := by
  simp [St.ok, zB, Bool.and_assoc]

theorem ok_3 (a b c u v x : Int) : (St.mk 3 a b c u v x).ok = (inB a 0 3 && oB b a && zB c && wOk u v x) := by
  have e : (b == a) = (a == b) := by rw [Bool.eq_iff_iff, beq_iff_eq, beq_iff_eq]; exact ⟨Eq.symm, Eq.symm⟩
  unfold oB zB
  rw [e]
  simp [St.ok, Bool.and_assoc]

theorem ok_4 (a b c u v x : Int) : (St.mk 4 a b c u v x).ok = (inB a 0 3 && zB b && zB c && wOk u v x) := by
  simp [St.ok, zB, Bool.and_assoc]

theorem ok_5 (a b c u v x : Int) : (St.mk 5 a b c u v x).ok = (inB a 0 3 && oB b a && zB c && wOk u v x) := by
  have e : (b == a) = (a == b) := by rw [Bool.eq_iff_iff, beq_iff_eq, beq_iff_eq]; exact ⟨Eq.symm, Eq.symm⟩
  unfold oB zB
  rw [e]
  simp [St.ok, Bool.and_assoc]

theorem ok_6 (a b c u v x : Int) : (St.mk 6 a b c u v x).ok = (inB a 0 3 && inB b 1 12 && inB c 0 2 && wZero u v x) := by
  simp [St.ok, Bool.and_assoc]

theorem ok_7 (a b c u v x : Int) : (St.mk 7 a b c u v x).ok = (zB a && inB b 1 10 && inB c 0 3 && wZero u v x) := by
  simp [St.ok, zB, Bool.and_assoc]

theorem StmtOk_any (k a b c u v x : Int) (w : World) :
    Calls Try.prog 112 #[.agg #[.int .i64 k, .int .i64 a, .int .i64 b, .int .i64 c, .int .i64 u, .int .i64 v, .int .i64 x]] w fun e w' => e = .returned (.bool (St.mk k a b c u v x).ok) ∧ Below w.heap.size w w' := by
  rcases kind_cases k with rfl | rfl | rfl | rfl | rfl | rfl | rfl | rfl | h | ⟨h, h'⟩
  · rw [ok_0]; exact StmtOk_0 a b c u v x w
  · rw [ok_1]; exact StmtOk_1 a b c u v x w
  · rw [ok_2]; exact StmtOk_2 a b c u v x w
  · rw [ok_3]; exact StmtOk_3 a b c u v x w
  · rw [ok_4]; exact StmtOk_4 a b c u v x w
  · rw [ok_5]; exact StmtOk_5 a b c u v x w
  · rw [ok_6]; exact StmtOk_6 a b c u v x w
  · rw [ok_7]; exact StmtOk_7 a b c u v x w
  · rw [ok_far (by omega)]; exact StmtOk_far k a b c u v x (by omega) w
  · rw [ok_far (by omega)]; exact StmtOk_far k a b c u v x (by omega) w
/-- What is known of the numbers of a statement, by its kind. -/
theorem ok_rng {k a b c u v x : Int} (h : (St.mk k a b c u v x).ok = true) :
    (k = 0 ∧ 0 ≤ a ∧ a ≤ 3 ∧ -1 ≤ b ∧ b ≤ 3 ∧ 0 ≤ c ∧ c ≤ 2) ∨ (k = 1 ∧ 0 ≤ a ∧ a ≤ 3 ∧ 0 ≤ b ∧ b ≤ 3 ∧ a ≠ b) ∨ (k = 2 ∧ 0 ≤ a ∧ a ≤ 3 ∧ b = 0) ∨ (k = 3 ∧ 0 ≤ a ∧ a ≤ 3 ∧ 0 ≤ b ∧ b ≤ 3 ∧ a ≠ b) ∨
    (k = 4 ∧ 0 ≤ a ∧ a ≤ 3 ∧ b = 0) ∨ (k = 5 ∧ 0 ≤ a ∧ a ≤ 3 ∧ 0 ≤ b ∧ b ≤ 3 ∧ a ≠ b) ∨ (k = 6 ∧ 0 ≤ a ∧ a ≤ 3 ∧ 1 ≤ b ∧ b ≤ 12 ∧ 0 ≤ c ∧ c ≤ 2) ∨ (k = 7 ∧ a = 0 ∧ 1 ≤ b ∧ b ≤ 10 ∧ 0 ≤ c ∧ c ≤ 3) := by
  rcases kind_cases k with rfl | rfl | rfl | rfl | rfl | rfl | rfl | rfl | hk | ⟨hk, hk'⟩
  · rw [ok_0] at h; simp [inB_iff] at h; simp; omega
  · rw [ok_1] at h; simp [oB, zB, inB_iff] at h; simp; omega
  · rw [ok_2] at h; simp [zB, inB_iff] at h; simp; omega
  · rw [ok_3] at h; simp [oB, zB, inB_iff] at h; simp; omega
  · rw [ok_4] at h; simp [zB, inB_iff] at h; simp; omega
  · rw [ok_5] at h; simp [oB, zB, inB_iff] at h; simp; omega
  · rw [ok_6] at h; simp [inB_iff] at h; simp; omega
  · rw [ok_7] at h; simp [zB, inB_iff] at h; simp; omega
  · rw [ok_far (by omega)] at h; cases h
  · rw [ok_far (by omega)] at h; cases h

end Go.Proofs.Ytjokiminlplbcaa
