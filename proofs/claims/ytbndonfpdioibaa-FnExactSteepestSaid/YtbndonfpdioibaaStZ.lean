/- What a statement reads and sets: the program and the model return the same. Which variable a statement sets: the program and the model return the same. -/
import Derived.Test.YtbndonfpdioibaaStO
import Derived.Test.YtbndonfpdioibaaMem
namespace Go.Proofs.Ytbndonfpdioibaa
set_option maxRecDepth 100000
open Go.RowKit

def bitN (n : Int) : Int := if inB n 0 3 = true then (2 ^ n.toNat : Nat) else 0
def St.reads (s : St) : Int :=
  if s.ok = true then
    (if s.k = 0 ∨ s.k = 3 then bitN s.b else if s.k = 1 ∨ s.k = 5 then bitN s.a + bitN s.b else if s.k = 4 ∨ s.k = 6 then bitN s.a else 0)
  else 0
def St.sets (s : St) : Int := if s.ok = true ∧ s.k ≤ 3 then s.a else -1

theorem bitOf_any (n : Int) (w : World) : Calls Try.prog 190 #[.int .i64 n] w fun e w' => e = .returned (.int .i64 (bitN n)) ∧ w = w' := by
  rcases inB_cases n 0 3 with ⟨h1, h2, hr⟩ | ⟨h1, hr⟩
  · obtain ⟨k, rfl, hk⟩ := nat4 h1 h2
    obtain rfl | rfl | rfl | rfl : k = 0 ∨ k = 1 ∨ k = 2 ∨ k = 3 := by omega
    all_goals
      go_enter Try.func190, Try.ntmps190
      go_wp2_with (go_at_call 113; refine (varOk_any _ _).mono ?_; rintro e w' ⟨rfl, rfl⟩)
      go_ret
      exact ⟨rfl, rfl⟩
  · have hR := Lib.hid (show bitN n = 0 by simp [bitN, hr])
    go_enter Try.func190, Try.ntmps190
    go_wp2_with (go_at_call 113; refine (varOk_any _ _).mono ?_; rintro e w' ⟨rfl, rfl⟩)
    go_ret
    exact ⟨ret_int hR.out, rfl⟩
theorem bit_cases {n : Int} (h0 : 0 ≤ n) (h1 : n ≤ 3) : n = 0 ∨ n = 1 ∨ n = 2 ∨ n = 3 := by omega
theorem bitN_bd (n : Int) : 0 ≤ bitN n ∧ bitN n ≤ 8 := by
  rcases inB_cases n 0 3 with ⟨h1, h2, hr⟩ | ⟨h1, hr⟩
  · obtain rfl | rfl | rfl | rfl := bit_cases h1 h2
    all_goals decide
  · simp [bitN, hr]
theorem or1 {a : Int} (h0 : 0 ≤ a) (h1 : a ≤ 3) : bits .or .i64 0 (wrap64 (2 ^ a.toNat)) = bitN a := by
  obtain rfl | rfl | rfl | rfl := bit_cases h0 h1
  all_goals decide +kernel
theorem or2 {a b : Int} (h0 : 0 ≤ a) (h1 : a ≤ 3) (h2 : 0 ≤ b) (h3 : b ≤ 3) (hne : a ≠ b) : bits .or .i64 (bits .or .i64 0 (wrap64 (2 ^ a.toNat))) (wrap64 (2 ^ b.toNat)) = bitN a + bitN b := by
  obtain rfl | rfl | rfl | rfl := bit_cases h0 h1 <;> obtain rfl | rfl | rfl | rfl := bit_cases h2 h3
  all_goals first | (exact absurd rfl hne) | decide +kernel

theorem StmtReads_0 (a b c u v x : Int) (w : World) (hok : (St.mk 0 a b c u v x).ok = true) :
    Calls Try.prog 189 #[.agg #[.int .i64 0, .int .i64 a, .int .i64 b, .int .i64 c, .int .i64 u, .int .i64 v, .int .i64 x]] w fun e w' => e = .returned (.int .i64 (bitN b)) ∧ Below w.heap.size w w' := by
  go_enter Try.func189, Try.ntmps189
  go_wp2_with fail
  refine (StmtOk_any _ _ _ _ _ _ _ _).mono ?_
  rw [hok]
  rintro e w1 ⟨rfl, hb1⟩
  have hc := ((Has.new w 78 #[.int .i64 0, .int .i64 a, .int .i64 b, .int .i64 c, .int .i64 u, .int .i64 v, .int .i64 x]).kept hb1).cell
  have hB1 := Lib.hid (((Below.refl _ _).alloc (Nat.le_refl _) _).trans (hb1.mono (by simp)))
  clear hb1 hok
  go_wp2_with (first | (go_at_call 136; refine (kindCode_0 _).mono ?_; rintro e w' ⟨rfl, rfl⟩) | (go_at_call 190; refine (bitOf_any _ _).mono ?_; rintro e w' ⟨rfl, rfl⟩))
  go_ret
  exact ⟨rfl, hB1.out⟩

theorem StmtReads_1 (a b c u v x : Int) (w : World) (hok : (St.mk 1 a b c u v x).ok = true) :
    Calls Try.prog 189 #[.agg #[.int .i64 1, .int .i64 a, .int .i64 b, .int .i64 c, .int .i64 u, .int .i64 v, .int .i64 x]] w fun e w' => e = .returned (.int .i64 (bitN a + bitN b)) ∧ Below w.heap.size w w' := by
  have h1 := bitN_bd a
  have h2 := bitN_bd b
  go_enter Try.func189, Try.ntmps189
  go_wp2_with fail
  refine (StmtOk_any _ _ _ _ _ _ _ _).mono ?_
  rw [hok]
  rintro e w1 ⟨rfl, hb1⟩
  have hc := ((Has.new w 78 #[.int .i64 1, .int .i64 a, .int .i64 b, .int .i64 c, .int .i64 u, .int .i64 v, .int .i64 x]).kept hb1).cell
  have hB1 := Lib.hid (((Below.refl _ _).alloc (Nat.le_refl _) _).trans (hb1.mono (by simp)))
  clear hb1 hok
  go_wp2_with (first | (go_at_call 136; refine (kindCode_1 _).mono ?_; rintro e w' ⟨rfl, rfl⟩) | (go_at_call 190; refine (bitOf_any _ _).mono ?_; rintro e w' ⟨rfl, rfl⟩))
  go_quiet ((go_at_call 190; exact quiet_left (bitOf_any _ _)))
  go_wp2
  go_ret
  exact ⟨rfl, below_drewN hB1.out _⟩

theorem StmtReads_2 (a b c u v x : Int) (w : World) (hok : (St.mk 2 a b c u v x).ok = true) :
    Calls Try.prog 189 #[.agg #[.int .i64 2, .int .i64 a, .int .i64 b, .int .i64 c, .int .i64 u, .int .i64 v, .int .i64 x]] w fun e w' => e = .returned (.int .i64 0) ∧ Below w.heap.size w w' := by
  go_enter Try.func189, Try.ntmps189
  go_wp2_with fail
  refine (StmtOk_any _ _ _ _ _ _ _ _).mono ?_
  rw [hok]
  rintro e w1 ⟨rfl, hb1⟩
  have hc := ((Has.new w 78 #[.int .i64 2, .int .i64 a, .int .i64 b, .int .i64 c, .int .i64 u, .int .i64 v, .int .i64 x]).kept hb1).cell
  have hB1 := Lib.hid (((Below.refl _ _).alloc (Nat.le_refl _) _).trans (hb1.mono (by simp)))
  clear hb1 hok
  go_wp2_with (first | (go_at_call 136; refine (kindCode_2 _).mono ?_; rintro e w' ⟨rfl, rfl⟩) | (go_at_call 190; refine (bitOf_any _ _).mono ?_; rintro e w' ⟨rfl, rfl⟩))
  go_ret
  exact ⟨rfl, hB1.out⟩

theorem StmtReads_3 (a b c u v x : Int) (w : World) (hok : (St.mk 3 a b c u v x).ok = true) :
    Calls Try.prog 189 #[.agg #[.int .i64 3, .int .i64 a, .int .i64 b, .int .i64 c, .int .i64 u, .int .i64 v, .int .i64 x]] w fun e w' => e = .returned (.int .i64 (bitN b)) ∧ Below w.heap.size w w' := by
  go_enter Try.func189, Try.ntmps189
  go_wp2_with fail
  refine (StmtOk_any _ _ _ _ _ _ _ _).mono ?_
  rw [hok]
  rintro e w1 ⟨rfl, hb1⟩
  have hc := ((Has.new w 78 #[.int .i64 3, .int .i64 a, .int .i64 b, .int .i64 c, .int .i64 u, .int .i64 v, .int .i64 x]).kept hb1).cell
  have hB1 := Lib.hid (((Below.refl _ _).alloc (Nat.le_refl _) _).trans (hb1.mono (by simp)))
  clear hb1 hok
  go_wp2_with (first | (go_at_call 136; refine (kindCode_3 _).mono ?_; rintro e w' ⟨rfl, rfl⟩) | (go_at_call 190; refine (bitOf_any _ _).mono ?_; rintro e w' ⟨rfl, rfl⟩))
  go_ret
  exact ⟨rfl, hB1.out⟩

theorem StmtReads_4 (a b c u v x : Int) (w : World) (hok : (St.mk 4 a b c u v x).ok = true) :
    Calls Try.prog 189 #[.agg #[.int .i64 4, .int .i64 a, .int .i64 b, .int .i64 c, .int .i64 u, .int .i64 v, .int .i64 x]] w fun e w' => e = .returned (.int .i64 (bitN a)) ∧ Below w.heap.size w w' := by
  go_enter Try.func189, Try.ntmps189
  go_wp2_with fail
  refine (StmtOk_any _ _ _ _ _ _ _ _).mono ?_
  rw [hok]
  rintro e w1 ⟨rfl, hb1⟩
  have hc := ((Has.new w 78 #[.int .i64 4, .int .i64 a, .int .i64 b, .int .i64 c, .int .i64 u, .int .i64 v, .int .i64 x]).kept hb1).cell
  have hB1 := Lib.hid (((Below.refl _ _).alloc (Nat.le_refl _) _).trans (hb1.mono (by simp)))
  clear hb1 hok
  go_wp2_with (first | (go_at_call 136; refine (kindCode_4 _).mono ?_; rintro e w' ⟨rfl, rfl⟩) | (go_at_call 190; refine (bitOf_any _ _).mono ?_; rintro e w' ⟨rfl, rfl⟩))
  go_ret
  exact ⟨rfl, hB1.out⟩

theorem StmtReads_5 (a b c u v x : Int) (w : World) (hok : (St.mk 5 a b c u v x).ok = true) :
    Calls Try.prog 189 #[.agg #[.int .i64 5, .int .i64 a, .int .i64 b, .int .i64 c, .int .i64 u, .int .i64 v, .int .i64 x]] w fun e w' => e = .returned (.int .i64 (bitN a + bitN b)) ∧ Below w.heap.size w w' := by
  have h1 := bitN_bd a
  have h2 := bitN_bd b
  go_enter Try.func189, Try.ntmps189
  go_wp2_with fail
  refine (StmtOk_any _ _ _ _ _ _ _ _).mono ?_
  rw [hok]
  rintro e w1 ⟨rfl, hb1⟩
  have hc := ((Has.new w 78 #[.int .i64 5, .int .i64 a, .int .i64 b, .int .i64 c, .int .i64 u, .int .i64 v, .int .i64 x]).kept hb1).cell
  have hB1 := Lib.hid (((Below.refl _ _).alloc (Nat.le_refl _) _).trans (hb1.mono (by simp)))
  clear hb1 hok
  go_wp2_with (first | (go_at_call 136; refine (kindCode_5 _).mono ?_; rintro e w' ⟨rfl, rfl⟩) | (go_at_call 190; refine (bitOf_any _ _).mono ?_; rintro e w' ⟨rfl, rfl⟩))
  go_quiet ((go_at_call 190; exact quiet_left (bitOf_any _ _)))
  go_wp2
  go_ret
  exact ⟨rfl, below_drewN hB1.out _⟩

theorem StmtReads_6 (a b c u v x : Int) (w : World) (hok : (St.mk 6 a b c u v x).ok = true) :
    Calls Try.prog 189 #[.agg #[.int .i64 6, .int .i64 a, .int .i64 b, .int .i64 c, .int .i64 u, .int .i64 v, .int .i64 x]] w fun e w' => e = .returned (.int .i64 (bitN a)) ∧ Below w.heap.size w w' := by
  go_enter Try.func189, Try.ntmps189
  go_wp2_with fail
  refine (StmtOk_any _ _ _ _ _ _ _ _).mono ?_
  rw [hok]
  rintro e w1 ⟨rfl, hb1⟩
  have hc := ((Has.new w 78 #[.int .i64 6, .int .i64 a, .int .i64 b, .int .i64 c, .int .i64 u, .int .i64 v, .int .i64 x]).kept hb1).cell
  have hB1 := Lib.hid (((Below.refl _ _).alloc (Nat.le_refl _) _).trans (hb1.mono (by simp)))
  clear hb1 hok
  go_wp2_with (first | (go_at_call 136; refine (kindCode_6 _).mono ?_; rintro e w' ⟨rfl, rfl⟩) | (go_at_call 190; refine (bitOf_any _ _).mono ?_; rintro e w' ⟨rfl, rfl⟩))
  go_ret
  exact ⟨rfl, hB1.out⟩

theorem StmtReads_7 (a b c u v x : Int) (w : World) (hok : (St.mk 7 a b c u v x).ok = true) :
    Calls Try.prog 189 #[.agg #[.int .i64 7, .int .i64 a, .int .i64 b, .int .i64 c, .int .i64 u, .int .i64 v, .int .i64 x]] w fun e w' => e = .returned (.int .i64 0) ∧ Below w.heap.size w w' := by
  go_enter Try.func189, Try.ntmps189
  go_wp2_with fail
  refine (StmtOk_any _ _ _ _ _ _ _ _).mono ?_
  rw [hok]
  rintro e w1 ⟨rfl, hb1⟩
  have hc := ((Has.new w 78 #[.int .i64 7, .int .i64 a, .int .i64 b, .int .i64 c, .int .i64 u, .int .i64 v, .int .i64 x]).kept hb1).cell
  have hB1 := Lib.hid (((Below.refl _ _).alloc (Nat.le_refl _) _).trans (hb1.mono (by simp)))
  clear hb1 hok
  go_wp2_with (first | (go_at_call 136; refine (kindCode_7 _).mono ?_; rintro e w' ⟨rfl, rfl⟩) | (go_at_call 190; refine (bitOf_any _ _).mono ?_; rintro e w' ⟨rfl, rfl⟩))
  go_ret
  exact ⟨rfl, hB1.out⟩

theorem reads_no {s : St} (h : s.ok = false) : s.reads = 0 := by simp [St.reads, h]
theorem StmtReads_any (k a b c u v x : Int) (w : World) :
    Calls Try.prog 189 #[.agg #[.int .i64 k, .int .i64 a, .int .i64 b, .int .i64 c, .int .i64 u, .int .i64 v, .int .i64 x]] w fun e w' => e = .returned (.int .i64 (St.mk k a b c u v x).reads) ∧ Below w.heap.size w w' := by
  cases hok : (St.mk k a b c u v x).ok
  · have hR := Lib.hid (reads_no hok)
    go_enter Try.func189, Try.ntmps189
    go_wp2_with fail
    refine (StmtOk_any _ _ _ _ _ _ _ _).mono ?_
    rw [hok]
    rintro e w1 ⟨rfl, hb1⟩
    have hB1 := Lib.hid (((Below.refl _ _).alloc (Nat.le_refl _) _).trans (hb1.mono (by simp)))
    clear hb1 hok
    go_wp2
    go_ret
    exact ⟨ret_int hR.out, hB1.out⟩
  · rcases kind_cases k with rfl | rfl | rfl | rfl | rfl | rfl | rfl | rfl | h | ⟨h, h'⟩
    · rw [show (St.mk 0 a b c u v x).reads = (bitN b) by simp [St.reads, hok]]; exact StmtReads_0 a b c u v x w hok
    · rw [show (St.mk 1 a b c u v x).reads = (bitN a + bitN b) by simp [St.reads, hok]]; exact StmtReads_1 a b c u v x w hok
    · rw [show (St.mk 2 a b c u v x).reads = 0 by simp [St.reads, hok]]; exact StmtReads_2 a b c u v x w hok
    · rw [show (St.mk 3 a b c u v x).reads = (bitN b) by simp [St.reads, hok]]; exact StmtReads_3 a b c u v x w hok
    · rw [show (St.mk 4 a b c u v x).reads = (bitN a) by simp [St.reads, hok]]; exact StmtReads_4 a b c u v x w hok
    · rw [show (St.mk 5 a b c u v x).reads = (bitN a + bitN b) by simp [St.reads, hok]]; exact StmtReads_5 a b c u v x w hok
    · rw [show (St.mk 6 a b c u v x).reads = (bitN a) by simp [St.reads, hok]]; exact StmtReads_6 a b c u v x w hok
    · rw [show (St.mk 7 a b c u v x).reads = 0 by simp [St.reads, hok]]; exact StmtReads_7 a b c u v x w hok
    · rw [ok_far (by omega)] at hok; cases hok
    · rw [ok_far (by omega)] at hok; cases hok

end Go.Proofs.Ytbndonfpdioibaa

namespace Go.Proofs.Ytbndonfpdioibaa
set_option maxRecDepth 100000
open Go.RowKit

theorem StmtSets_0 (a b c u v x : Int) (w : World) (hok : (St.mk 0 a b c u v x).ok = true) :
    Calls Try.prog 195 #[.agg #[.int .i64 0, .int .i64 a, .int .i64 b, .int .i64 c, .int .i64 u, .int .i64 v, .int .i64 x]] w fun e w' => e = .returned (.int .i64 a) ∧ Below w.heap.size w w' := by
  go_enter Try.func195, Try.ntmps195
  go_wp2_with fail
  refine (StmtOk_any _ _ _ _ _ _ _ _).mono ?_
  rw [hok]
  rintro e w1 ⟨rfl, hb1⟩
  have hc := ((Has.new w 78 #[.int .i64 0, .int .i64 a, .int .i64 b, .int .i64 c, .int .i64 u, .int .i64 v, .int .i64 x]).kept hb1).cell
  have hB1 := Lib.hid (((Below.refl _ _).alloc (Nat.le_refl _) _).trans (hb1.mono (by simp)))
  clear hb1 hok
  go_wp2_with (go_at_call 136; refine (kindCode_0 _).mono ?_; rintro e w' ⟨rfl, rfl⟩)
  go_ret
  exact ⟨rfl, hB1.out⟩

theorem StmtSets_1 (a b c u v x : Int) (w : World) (hok : (St.mk 1 a b c u v x).ok = true) :
    Calls Try.prog 195 #[.agg #[.int .i64 1, .int .i64 a, .int .i64 b, .int .i64 c, .int .i64 u, .int .i64 v, .int .i64 x]] w fun e w' => e = .returned (.int .i64 a) ∧ Below w.heap.size w w' := by
  go_enter Try.func195, Try.ntmps195
  go_wp2_with fail
  refine (StmtOk_any _ _ _ _ _ _ _ _).mono ?_
  rw [hok]
  rintro e w1 ⟨rfl, hb1⟩
  have hc := ((Has.new w 78 #[.int .i64 1, .int .i64 a, .int .i64 b, .int .i64 c, .int .i64 u, .int .i64 v, .int .i64 x]).kept hb1).cell
  have hB1 := Lib.hid (((Below.refl _ _).alloc (Nat.le_refl _) _).trans (hb1.mono (by simp)))
  clear hb1 hok
  go_wp2_with (go_at_call 136; refine (kindCode_1 _).mono ?_; rintro e w' ⟨rfl, rfl⟩)
  go_ret
  exact ⟨rfl, hB1.out⟩

theorem StmtSets_2 (a b c u v x : Int) (w : World) (hok : (St.mk 2 a b c u v x).ok = true) :
    Calls Try.prog 195 #[.agg #[.int .i64 2, .int .i64 a, .int .i64 b, .int .i64 c, .int .i64 u, .int .i64 v, .int .i64 x]] w fun e w' => e = .returned (.int .i64 a) ∧ Below w.heap.size w w' := by
  go_enter Try.func195, Try.ntmps195
  go_wp2_with fail
  refine (StmtOk_any _ _ _ _ _ _ _ _).mono ?_
  rw [hok]
  rintro e w1 ⟨rfl, hb1⟩
  have hc := ((Has.new w 78 #[.int .i64 2, .int .i64 a, .int .i64 b, .int .i64 c, .int .i64 u, .int .i64 v, .int .i64 x]).kept hb1).cell
  have hB1 := Lib.hid (((Below.refl _ _).alloc (Nat.le_refl _) _).trans (hb1.mono (by simp)))
  clear hb1 hok
  go_wp2_with (go_at_call 136; refine (kindCode_2 _).mono ?_; rintro e w' ⟨rfl, rfl⟩)
  go_ret
  exact ⟨rfl, hB1.out⟩

theorem StmtSets_3 (a b c u v x : Int) (w : World) (hok : (St.mk 3 a b c u v x).ok = true) :
    Calls Try.prog 195 #[.agg #[.int .i64 3, .int .i64 a, .int .i64 b, .int .i64 c, .int .i64 u, .int .i64 v, .int .i64 x]] w fun e w' => e = .returned (.int .i64 a) ∧ Below w.heap.size w w' := by
  go_enter Try.func195, Try.ntmps195
  go_wp2_with fail
  refine (StmtOk_any _ _ _ _ _ _ _ _).mono ?_
  rw [hok]
  rintro e w1 ⟨rfl, hb1⟩
  have hc := ((Has.new w 78 #[.int .i64 3, .int .i64 a, .int .i64 b, .int .i64 c, .int .i64 u, .int .i64 v, .int .i64 x]).kept hb1).cell
  have hB1 := Lib.hid (((Below.refl _ _).alloc (Nat.le_refl _) _).trans (hb1.mono (by simp)))
  clear hb1 hok
  go_wp2_with (go_at_call 136; refine (kindCode_3 _).mono ?_; rintro e w' ⟨rfl, rfl⟩)
  go_ret
  exact ⟨rfl, hB1.out⟩

theorem StmtSets_4 (a b c u v x : Int) (w : World) (hok : (St.mk 4 a b c u v x).ok = true) :
    Calls Try.prog 195 #[.agg #[.int .i64 4, .int .i64 a, .int .i64 b, .int .i64 c, .int .i64 u, .int .i64 v, .int .i64 x]] w fun e w' => e = .returned (.int .i64 (-1)) ∧ Below w.heap.size w w' := by
  go_enter Try.func195, Try.ntmps195
  go_wp2_with fail
  refine (StmtOk_any _ _ _ _ _ _ _ _).mono ?_
  rw [hok]
  rintro e w1 ⟨rfl, hb1⟩
  have hc := ((Has.new w 78 #[.int .i64 4, .int .i64 a, .int .i64 b, .int .i64 c, .int .i64 u, .int .i64 v, .int .i64 x]).kept hb1).cell
  have hB1 := Lib.hid (((Below.refl _ _).alloc (Nat.le_refl _) _).trans (hb1.mono (by simp)))
  clear hb1 hok
  go_wp2_with (go_at_call 136; refine (kindCode_4 _).mono ?_; rintro e w' ⟨rfl, rfl⟩)
  go_ret
  exact ⟨rfl, hB1.out⟩

theorem StmtSets_5 (a b c u v x : Int) (w : World) (hok : (St.mk 5 a b c u v x).ok = true) :
    Calls Try.prog 195 #[.agg #[.int .i64 5, .int .i64 a, .int .i64 b, .int .i64 c, .int .i64 u, .int .i64 v, .int .i64 x]] w fun e w' => e = .returned (.int .i64 (-1)) ∧ Below w.heap.size w w' := by
  go_enter Try.func195, Try.ntmps195
  go_wp2_with fail
  refine (StmtOk_any _ _ _ _ _ _ _ _).mono ?_
  rw [hok]
  rintro e w1 ⟨rfl, hb1⟩
  have hc := ((Has.new w 78 #[.int .i64 5, .int .i64 a, .int .i64 b, .int .i64 c, .int .i64 u, .int .i64 v, .int .i64 x]).kept hb1).cell
  have hB1 := Lib.hid (((Below.refl _ _).alloc (Nat.le_refl _) _).trans (hb1.mono (by simp)))
  clear hb1 hok
  go_wp2_with (go_at_call 136; refine (kindCode_5 _).mono ?_; rintro e w' ⟨rfl, rfl⟩)
  go_ret
  exact ⟨rfl, hB1.out⟩

theorem StmtSets_6 (a b c u v x : Int) (w : World) (hok : (St.mk 6 a b c u v x).ok = true) :
    Calls Try.prog 195 #[.agg #[.int .i64 6, .int .i64 a, .int .i64 b, .int .i64 c, .int .i64 u, .int .i64 v, .int .i64 x]] w fun e w' => e = .returned (.int .i64 (-1)) ∧ Below w.heap.size w w' := by
  go_enter Try.func195, Try.ntmps195
  go_wp2_with fail
  refine (StmtOk_any _ _ _ _ _ _ _ _).mono ?_
  rw [hok]
  rintro e w1 ⟨rfl, hb1⟩
  have hc := ((Has.new w 78 #[.int .i64 6, .int .i64 a, .int .i64 b, .int .i64 c, .int .i64 u, .int .i64 v, .int .i64 x]).kept hb1).cell
  have hB1 := Lib.hid (((Below.refl _ _).alloc (Nat.le_refl _) _).trans (hb1.mono (by simp)))
  clear hb1 hok
  go_wp2_with (go_at_call 136; refine (kindCode_6 _).mono ?_; rintro e w' ⟨rfl, rfl⟩)
  go_ret
  exact ⟨rfl, hB1.out⟩

theorem StmtSets_7 (a b c u v x : Int) (w : World) (hok : (St.mk 7 a b c u v x).ok = true) :
    Calls Try.prog 195 #[.agg #[.int .i64 7, .int .i64 a, .int .i64 b, .int .i64 c, .int .i64 u, .int .i64 v, .int .i64 x]] w fun e w' => e = .returned (.int .i64 (-1)) ∧ Below w.heap.size w w' := by
  go_enter Try.func195, Try.ntmps195
  go_wp2_with fail
  refine (StmtOk_any _ _ _ _ _ _ _ _).mono ?_
  rw [hok]
  rintro e w1 ⟨rfl, hb1⟩
  have hc := ((Has.new w 78 #[.int .i64 7, .int .i64 a, .int .i64 b, .int .i64 c, .int .i64 u, .int .i64 v, .int .i64 x]).kept hb1).cell
  have hB1 := Lib.hid (((Below.refl _ _).alloc (Nat.le_refl _) _).trans (hb1.mono (by simp)))
  clear hb1 hok
  go_wp2_with (go_at_call 136; refine (kindCode_7 _).mono ?_; rintro e w' ⟨rfl, rfl⟩)
  go_ret
  exact ⟨rfl, hB1.out⟩

theorem sets_no {s : St} (h : s.ok = false) : s.sets = -1 := by simp [St.sets, h]
theorem StmtSets_any (k a b c u v x : Int) (w : World) :
    Calls Try.prog 195 #[.agg #[.int .i64 k, .int .i64 a, .int .i64 b, .int .i64 c, .int .i64 u, .int .i64 v, .int .i64 x]] w fun e w' => e = .returned (.int .i64 (St.mk k a b c u v x).sets) ∧ Below w.heap.size w w' := by
  cases hok : (St.mk k a b c u v x).ok
  · have hR := Lib.hid (sets_no hok)
    go_enter Try.func195, Try.ntmps195
    go_wp2_with fail
    refine (StmtOk_any _ _ _ _ _ _ _ _).mono ?_
    rw [hok]
    rintro e w1 ⟨rfl, hb1⟩
    have hB1 := Lib.hid (((Below.refl _ _).alloc (Nat.le_refl _) _).trans (hb1.mono (by simp)))
    clear hb1 hok
    go_wp2
    go_ret
    exact ⟨ret_int hR.out, hB1.out⟩
  · rcases kind_cases k with rfl | rfl | rfl | rfl | rfl | rfl | rfl | rfl | h | ⟨h, h'⟩
    · rw [show (St.mk 0 a b c u v x).sets = a by simp [St.sets, hok]]; exact StmtSets_0 a b c u v x w hok
    · rw [show (St.mk 1 a b c u v x).sets = a by simp [St.sets, hok]]; exact StmtSets_1 a b c u v x w hok
    · rw [show (St.mk 2 a b c u v x).sets = a by simp [St.sets, hok]]; exact StmtSets_2 a b c u v x w hok
    · rw [show (St.mk 3 a b c u v x).sets = a by simp [St.sets, hok]]; exact StmtSets_3 a b c u v x w hok
    · rw [show (St.mk 4 a b c u v x).sets = -1 by simp [St.sets, hok]]; exact StmtSets_4 a b c u v x w hok
    · rw [show (St.mk 5 a b c u v x).sets = -1 by simp [St.sets, hok]]; exact StmtSets_5 a b c u v x w hok
    · rw [show (St.mk 6 a b c u v x).sets = -1 by simp [St.sets, hok]]; exact StmtSets_6 a b c u v x w hok
    · rw [show (St.mk 7 a b c u v x).sets = -1 by simp [St.sets, hok]]; exact StmtSets_7 a b c u v x w hok
    · rw [ok_far (by omega)] at hok; cases hok
    · rw [ok_far (by omega)] at hok; cases hok

end Go.Proofs.Ytbndonfpdioibaa
