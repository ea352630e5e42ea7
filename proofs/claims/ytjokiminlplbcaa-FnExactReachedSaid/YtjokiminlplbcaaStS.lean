/- Which variable a statement sets: the program and the model return the same. -/
import Derived.Test.YtjokiminlplbcaaStR
namespace Go.Proofs.Ytjokiminlplbcaa
set_option maxRecDepth 100000
open Go.RowKit

theorem StmtSets_0 (a b c u v x : Int) (w : World) (hok : (St.mk 0 a b c u v x).ok = true) :
    Calls Try.prog 125 #[.agg #[.int .i64 0, .int .i64 a, .int .i64 b, .int .i64 c, .int .i64 u, .int .i64 v, .int .i64 x]] w fun e w' => e = .returned (.int .i64 a) ∧ Below w.heap.size w w' := by
  go_enter Try.func125, Try.ntmps125
  go_wp2_with fail
  refine (StmtOk_any _ _ _ _ _ _ _ _).mono ?_
  rw [hok]
  rintro e w1 ⟨rfl, hb1⟩
  have hc := ((Has.new w 83 #[.int .i64 0, .int .i64 a, .int .i64 b, .int .i64 c, .int .i64 u, .int .i64 v, .int .i64 x]).kept hb1).cell
  have hB1 := Lib.hid (((Below.refl _ _).alloc (Nat.le_refl _) _).trans (hb1.mono (by simp)))
  clear hb1 hok
  go_wp2_with (go_at_call 122; refine (kindCode_0 _).mono ?_; rintro e w' ⟨rfl, rfl⟩)
  go_ret
  exact ⟨rfl, hB1.out⟩

theorem StmtSets_1 (a b c u v x : Int) (w : World) (hok : (St.mk 1 a b c u v x).ok = true) :
    Calls Try.prog 125 #[.agg #[.int .i64 1, .int .i64 a, .int .i64 b, .int .i64 c, .int .i64 u, .int .i64 v, .int .i64 x]] w fun e w' => e = .returned (.int .i64 a) ∧ Below w.heap.size w w' := by
  go_enter Try.func125, Try.ntmps125
  go_wp2_with fail
  refine (StmtOk_any _ _ _ _ _ _ _ _).mono ?_
  rw [hok]
  rintro e w1 ⟨rfl, hb1⟩
  have hc := ((Has.new w 83 #[.int .i64 1, .int .i64 a, .int .i64 b, .int .i64 c, .int .i64 u, .int .i64 v, .int .i64 x]).kept hb1).cell
  have hB1 := Lib.hid (((Below.refl _ _).alloc (Nat.le_refl _) _).trans (hb1.mono (by simp)))
  clear hb1 hok
  go_wp2_with (go_at_call 122; refine (kindCode_1 _).mono ?_; rintro e w' ⟨rfl, rfl⟩)
  go_ret
  exact ⟨rfl, hB1.out⟩

theorem StmtSets_2 (a b c u v x : Int) (w : World) (hok : (St.mk 2 a b c u v x).ok = true) :
    Calls Try.prog 125 #[.agg #[.int .i64 2, .int .i64 a, .int .i64 b, .int .i64 c, .int .i64 u, .int .i64 v, .int .i64 x]] w fun e w' => e = .returned (.int .i64 a) ∧ Below w.heap.size w w' := by
  go_enter Try.func125, Try.ntmps125
  go_wp2_with fail
  refine (StmtOk_any _ _ _ _ _ _ _ _).mono ?_
  rw [hok]
  rintro e w1 ⟨rfl, hb1⟩
  have hc := ((Has.new w 83 #[.int .i64 2, .int .i64 a, .int .i64 b, .int .i64 c, .int .i64 u, .int .i64 v, .int .i64 x]).kept hb1).cell
  have hB1 := Lib.hid (((Below.refl _ _).alloc (Nat.le_refl _) _).trans (hb1.mono (by simp)))
  clear hb1 hok
  go_wp2_with (go_at_call 122; refine (kindCode_2 _).mono ?_; rintro e w' ⟨rfl, rfl⟩)
  go_ret
  exact ⟨rfl, hB1.out⟩

theorem StmtSets_3 (a b c u v x : Int) (w : World) (hok : (St.mk 3 a b c u v x).ok = true) :
    Calls Try.prog 125 #[.agg #[.int .i64 3, .int .i64 a, .int .i64 b, .int .i64 c, .int .i64 u, .int .i64 v, .int .i64 x]] w fun e w' => e = .returned (.int .i64 a) ∧ Below w.heap.size w w' := by
  go_enter Try.func125, Try.ntmps125
  go_wp2_with fail
  refine (StmtOk_any _ _ _ _ _ _ _ _).mono ?_
  rw [hok]
  rintro e w1 ⟨rfl, hb1⟩
  have hc := ((Has.new w 83 #[.int .i64 3, .int .i64 a, .int .i64 b, .int .i64 c, .int .i64 u, .int .i64 v, .int .i64 x]).kept hb1).cell
  have hB1 := Lib.hid (((Below.refl _ _).alloc (Nat.le_refl _) _).trans (hb1.mono (by simp)))
  clear hb1 hok
  go_wp2_with (go_at_call 122; refine (kindCode_3 _).mono ?_; rintro e w' ⟨rfl, rfl⟩)
  go_ret
  exact ⟨rfl, hB1.out⟩

theorem StmtSets_4 (a b c u v x : Int) (w : World) (hok : (St.mk 4 a b c u v x).ok = true) :
    Calls Try.prog 125 #[.agg #[.int .i64 4, .int .i64 a, .int .i64 b, .int .i64 c, .int .i64 u, .int .i64 v, .int .i64 x]] w fun e w' => e = .returned (.int .i64 (-1)) ∧ Below w.heap.size w w' := by
  go_enter Try.func125, Try.ntmps125
  go_wp2_with fail
  refine (StmtOk_any _ _ _ _ _ _ _ _).mono ?_
  rw [hok]
  rintro e w1 ⟨rfl, hb1⟩
  have hc := ((Has.new w 83 #[.int .i64 4, .int .i64 a, .int .i64 b, .int .i64 c, .int .i64 u, .int .i64 v, .int .i64 x]).kept hb1).cell
  have hB1 := Lib.hid (((Below.refl _ _).alloc (Nat.le_refl _) _).trans (hb1.mono (by simp)))
  clear hb1 hok
  go_wp2_with (go_at_call 122; refine (kindCode_4 _).mono ?_; rintro e w' ⟨rfl, rfl⟩)
  go_ret
  exact ⟨rfl, hB1.out⟩

theorem StmtSets_5 (a b c u v x : Int) (w : World) (hok : (St.mk 5 a b c u v x).ok = true) :
    Calls Try.prog 125 #[.agg #[.int .i64 5, .int .i64 a, .int .i64 b, .int .i64 c, .int .i64 u, .int .i64 v, .int .i64 x]] w fun e w' => e = .returned (.int .i64 (-1)) ∧ Below w.heap.size w w' := by
  go_enter Try.func125, Try.ntmps125
  go_wp2_with fail
  refine (StmtOk_any _ _ _ _ _ _ _ _).mono ?_
  rw [hok]
  rintro e w1 ⟨rfl, hb1⟩
  have hc := ((Has.new w 83 #[.int .i64 5, .int .i64 a, .int .i64 b, .int .i64 c, .int .i64 u, .int .i64 v, .int .i64 x]).kept hb1).cell
  have hB1 := Lib.hid (((Below.refl _ _).alloc (Nat.le_refl _) _).trans (hb1.mono (by simp)))
  clear hb1 hok
  go_wp2_with (go_at_call 122; refine (kindCode_5 _).mono ?_; rintro e w' ⟨rfl, rfl⟩)
  go_ret
  exact ⟨rfl, hB1.out⟩

theorem StmtSets_6 (a b c u v x : Int) (w : World) (hok : (St.mk 6 a b c u v x).ok = true) :
    Calls Try.prog 125 #[.agg #[.int .i64 6, .int .i64 a, .int .i64 b, .int .i64 c, .int .i64 u, .int .i64 v, .int .i64 x]] w fun e w' => e = .returned (.int .i64 (-1)) ∧ Below w.heap.size w w' := by
  go_enter Try.func125, Try.ntmps125
  go_wp2_with fail
  refine (StmtOk_any _ _ _ _ _ _ _ _).mono ?_
  rw [hok]
  rintro e w1 ⟨rfl, hb1⟩
  have hc := ((Has.new w 83 #[.int .i64 6, .int .i64 a, .int .i64 b, .int .i64 c, .int .i64 u, .int .i64 v, .int .i64 x]).kept hb1).cell
  have hB1 := Lib.hid (((Below.refl _ _).alloc (Nat.le_refl _) _).trans (hb1.mono (by simp)))
  clear hb1 hok
  go_wp2_with (go_at_call 122; refine (kindCode_6 _).mono ?_; rintro e w' ⟨rfl, rfl⟩)
  go_ret
  exact ⟨rfl, hB1.out⟩

theorem StmtSets_7 (a b c u v x : Int) (w : World) (hok : (St.mk 7 a b c u v x).ok = true) :
    Calls Try.prog 125 #[.agg #[.int .i64 7, .int .i64 a, .int .i64 b, .int .i64 c, .int .i64 u, .int .i64 v, .int .i64 x]] w fun e w' => e = .returned (.int .i64 (-1)) ∧ Below w.heap.size w w' := by
  go_enter Try.func125, Try.ntmps125
  go_wp2_with fail
  refine (StmtOk_any _ _ _ _ _ _ _ _).mono ?_
  rw [hok]
  rintro e w1 ⟨rfl, hb1⟩
  have hc := ((Has.new w 83 #[.int .i64 7, .int .i64 a, .int .i64 b, .int .i64 c, .int .i64 u, .int .i64 v, .int .i64 x]).kept hb1).cell
  have hB1 := Lib.hid (((Below.refl _ _).alloc (Nat.le_refl _) _).trans (hb1.mono (by simp)))
  clear hb1 hok
  go_wp2_with (go_at_call 122; refine (kindCode_7 _).mono ?_; rintro e w' ⟨rfl, rfl⟩)
  go_ret
  exact ⟨rfl, hB1.out⟩

theorem sets_no {s : St} (h : s.ok = false) : s.sets = -1 := by simp [St.sets, h]
theorem StmtSets_any (k a b c u v x : Int) (w : World) :
    Calls Try.prog 125 #[.agg #[.int .i64 k, .int .i64 a, .int .i64 b, .int .i64 c, .int .i64 u, .int .i64 v, .int .i64 x]] w fun e w' => e = .returned (.int .i64 (St.mk k a b c u v x).sets) ∧ Below w.heap.size w w' := by
  cases hok : (St.mk k a b c u v x).ok
  · have hR := Lib.hid (sets_no hok)
    go_enter Try.func125, Try.ntmps125
    go_wp2_with fail
    refine (StmtOk_any _ _ _ _ _ _ _ _).mono ?_
    rw [hok]
    rintro e w1 ⟨rfl, hb1⟩
    have hB1 := Lib.hid (((Below.refl _ _).alloc (Nat.le_refl _) _).trans (hb1.mono (by simp)))
    clear hb1 hok
    go_wp2
    go_ret
    exact ⟨ret_int hR.out, hB1.out⟩
  · rcases kind_cases k with rfl | rfl | rfl | rfl | rfl | rfl | rfl | rfl | h | ⟨h, h'⟩
    · rw [show (St.mk 0 a b c u v x).sets = a by simp [St.sets, hok]]; exact StmtSets_0 a b c u v x w hok
    · rw [show (St.mk 1 a b c u v x).sets = a by simp [St.sets, hok]]; exact StmtSets_1 a b c u v x w hok
    · rw [show (St.mk 2 a b c u v x).sets = a by simp [St.sets, hok]]; exact StmtSets_2 a b c u v x w hok
    · rw [show (St.mk 3 a b c u v x).sets = a by simp [St.sets, hok]]; exact StmtSets_3 a b c u v x w hok
    · rw [show (St.mk 4 a b c u v x).sets = -1 by simp [St.sets, hok]]; exact StmtSets_4 a b c u v x w hok
    · rw [show (St.mk 5 a b c u v x).sets = -1 by simp [St.sets, hok]]; exact StmtSets_5 a b c u v x w hok
    · rw [show (St.mk 6 a b c u v x).sets = -1 by simp [St.sets, hok]]; exact StmtSets_6 a b c u v x w hok
    · rw [show (St.mk 7 a b c u v x).sets = -1 by simp [St.sets, hok]]; exact StmtSets_7 a b c u v x w hok
    · rw [ok_far (by omega)] at hok; cases hok
    · rw [ok_far (by omega)] at hok; cases hok

end Go.Proofs.Ytjokiminlplbcaa
