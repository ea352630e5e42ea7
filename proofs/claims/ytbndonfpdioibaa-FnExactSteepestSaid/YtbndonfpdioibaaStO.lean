/- The model's StmtOk returns what the document's table says. The program's StmtOk returns what the document's table says. The program's StmtOk returns what the document's table says, for every seven numbers. -/
import Derived.Test.YtbndonfpdioibaaSc
import Derived.Deep.Light
namespace Go.Proofs.Ytbndonfpdioibaa
set_option maxRecDepth 100000
open Go.RowKit

theorem bcell {W w1 : World} (hb : Below W.heap.size W w1) : (∀ b o, b < W.heap.size → w1.cell? ⟨b, o, none⟩ = W.cell? ⟨b, o, none⟩) ∧ (∀ b o, b < W.heap.size → w1.frozen? ⟨b, o, none⟩ = W.frozen? ⟨b, o, none⟩) :=
  ⟨fun b o h => hb.cell (p := ⟨b, o, none⟩) h, fun b o h => hb.frozen (p := ⟨b, o, none⟩) h⟩

theorem kind_cases (k : Int) : k = 0 ∨ k = 1 ∨ k = 2 ∨ k = 3 ∨ k = 4 ∨ k = 5 ∨ k = 6 ∨ k = 7 ∨ k < 0 ∨ (7 < k ∧ 0 ≤ k) := by omega

theorem ok_far {k a b c u v x : Int} (h : k < 0 ∨ (7 < k ∧ 0 ≤ k)) : (St.mk k a b c u v x).ok = false := by
  have e : ∀ n : Int, 0 ≤ n → n ≤ 7 → (k == n) = false := fun n h1 h2 => by simp; omega
  simp [St.ok, e 0 (by omega) (by omega), e 1 (by omega) (by omega), e 2 (by omega) (by omega), e 3 (by omega) (by omega), e 4 (by omega) (by omega), e 5 (by omega) (by omega), e 6 (by omega) (by omega), e 7 (by omega) (by omega)]

set_option maxHeartbeats 2000000 in
theorem specStmtOk_any (k a b c u v x : Int) (w : World) :
    Calls Try.prog 118 #[.agg #[.int .i64 k, .int .i64 a, .int .i64 b, .int .i64 c, .int .i64 u, .int .i64 v, .int .i64 x]] w fun e w' => e = .returned (.bool (St.mk k a b c u v x).ok) ∧ Below w.heap.size w w' := by
  rcases kind_cases k with rfl | rfl | rfl | rfl | rfl | rfl | rfl | rfl | h | ⟨h, h'⟩
  all_goals
    go_enter Try.func118, Try.ntmps118
    go_wp2_with (first | (go_at_call 67; refine (l1In_any _ _ _ _).mono ?_; rintro e w' ⟨rfl, rfl⟩) | (go_at_call 108; refine (l1Var_any _ _).mono ?_; rintro e w' ⟨rfl, rfl⟩) | (go_at_call 158; refine (l1Weights_any _ _ _ _).mono ?_; rintro e w1 ⟨rfl, hb⟩; obtain ⟨hcell, hfz⟩ := bcell hb))
    all_goals
      go_ret
      refine ⟨ret_bool ?_, ?_⟩
      · go_light; first | (rw [ok_far (by omega)]; done) | (simp_all [St.ok, wZero, bne]; done)
      · first | exact ((Below.refl _ _).alloc (Nat.le_refl _) _) | exact ((Below.refl _ _).alloc (Nat.le_refl _) _).trans (hb.mono (by simp))
end Go.Proofs.Ytbndonfpdioibaa

namespace Go.Proofs.Ytbndonfpdioibaa
set_option maxRecDepth 100000
open Go.RowKit
attribute [local go_sem] eqW

theorem quiet_left {P : Program} {f : FuncId} {args : Array Value} {w : World} {n : Nat} {v : Value}
    (h : Calls P f args (w.drewN n) fun e w' => e = .returned v ∧ w.drewN n = w') : Calls P f args (w.drewN n) fun e w'' => e = .returned v ∧ ∃ m, w'' = w.drewN m :=
  h.mono fun _ _ ⟨he, hm⟩ => ⟨he, n, hm.symm⟩
theorem quiet_add_left {P : Program} {f : FuncId} {args : Array Value} {w : World} {a n : Nat} {v : Value}
    (h : Calls P f args (w.drewN (a + n)) fun e w' => e = .returned v ∧ w.drewN (a + n) = w') :
    Calls P f args (w.drewN (a + n)) fun e w'' => e = .returned v ∧ ∃ m, w'' = w.drewN (a + m) :=
  h.mono fun _ _ ⟨he, hm⟩ => ⟨he, n, hm.symm⟩

theorem kindCode_0 (w : World) : Calls Try.prog 136 #[.int .i64 0] w fun e w' => e = .returned (.string ⟨#[118, 112, 99, 48, 98, 97]⟩) ∧ w = w' := by
  go_enter Try.func136, Try.ntmps136
  go_wp2
  go_ret
  exact ⟨by as_aux_lemma => kernel_rfl, rfl⟩

theorem kindCode_1 (w : World) : Calls Try.prog 136 #[.int .i64 1] w fun e w' => e = .returned (.string ⟨#[118, 111, 48, 48, 50, 97]⟩) ∧ w = w' := by
  go_enter Try.func136, Try.ntmps136
  go_wp2
  go_ret
  exact ⟨by as_aux_lemma => kernel_rfl, rfl⟩

theorem kindCode_2 (w : World) : Calls Try.prog 136 #[.int .i64 2] w fun e w' => e = .returned (.string ⟨#[118, 48, 48, 119, 45, 97]⟩) ∧ w = w' := by
  go_enter Try.func136, Try.ntmps136
  go_wp2
  go_ret
  exact ⟨by as_aux_lemma => kernel_rfl, rfl⟩

theorem kindCode_3 (w : World) : Calls Try.prog 136 #[.int .i64 3] w fun e w' => e = .returned (.string ⟨#[118, 111, 48, 119, 98, 97]⟩) ∧ w = w' := by
  go_enter Try.func136, Try.ntmps136
  go_wp2
  go_ret
  exact ⟨by as_aux_lemma => kernel_rfl, rfl⟩

theorem kindCode_4 (w : World) : Calls Try.prog 136 #[.int .i64 4] w fun e w' => e = .returned (.string ⟨#[118, 48, 48, 119, 97, 45]⟩) ∧ w = w' := by
  go_enter Try.func136, Try.ntmps136
  go_wp2
  go_ret
  exact ⟨by as_aux_lemma => kernel_rfl, rfl⟩

theorem kindCode_5 (w : World) : Calls Try.prog 136 #[.int .i64 5] w fun e w' => e = .returned (.string ⟨#[118, 111, 48, 119, 50, 45]⟩) ∧ w = w' := by
  go_enter Try.func136, Try.ntmps136
  go_wp2
  go_ret
  exact ⟨by as_aux_lemma => kernel_rfl, rfl⟩

theorem kindCode_6 (w : World) : Calls Try.prog 136 #[.int .i64 6] w fun e w' => e = .returned (.string ⟨#[118, 107, 99, 48, 97, 45]⟩) ∧ w = w' := by
  go_enter Try.func136, Try.ntmps136
  go_wp2
  go_ret
  exact ⟨by as_aux_lemma => kernel_rfl, rfl⟩

theorem kindCode_7 (w : World) : Calls Try.prog 136 #[.int .i64 7] w fun e w' => e = .returned (.string ⟨#[48, 109, 116, 48, 45, 45]⟩) ∧ w = w' := by
  go_enter Try.func136, Try.ntmps136
  go_wp2
  go_ret
  exact ⟨by as_aux_lemma => kernel_rfl, rfl⟩

theorem hasWeights_0 (a b c u v x : Int) (w : World) : Calls Try.prog 82 #[.agg #[.int .i64 0, .int .i64 a, .int .i64 b, .int .i64 c, .int .i64 u, .int .i64 v, .int .i64 x]] w fun e w' => e = .returned (.bool false) ∧ Below w.heap.size w w' := by
  go_enter Try.func82, Try.ntmps82
  go_wp2_with (go_at_call 136; refine (kindCode_0 _).mono ?_; rintro e w' ⟨rfl, rfl⟩)
  go_ret
  exact ⟨rfl, (Below.refl _ _).alloc (Nat.le_refl _) _⟩
theorem hasWeights_1 (a b c u v x : Int) (w : World) : Calls Try.prog 82 #[.agg #[.int .i64 1, .int .i64 a, .int .i64 b, .int .i64 c, .int .i64 u, .int .i64 v, .int .i64 x]] w fun e w' => e = .returned (.bool false) ∧ Below w.heap.size w w' := by
  go_enter Try.func82, Try.ntmps82
  go_wp2_with (go_at_call 136; refine (kindCode_1 _).mono ?_; rintro e w' ⟨rfl, rfl⟩)
  go_ret
  exact ⟨rfl, (Below.refl _ _).alloc (Nat.le_refl _) _⟩
theorem hasWeights_2 (a b c u v x : Int) (w : World) : Calls Try.prog 82 #[.agg #[.int .i64 2, .int .i64 a, .int .i64 b, .int .i64 c, .int .i64 u, .int .i64 v, .int .i64 x]] w fun e w' => e = .returned (.bool true) ∧ Below w.heap.size w w' := by
  go_enter Try.func82, Try.ntmps82
  go_wp2_with (go_at_call 136; refine (kindCode_2 _).mono ?_; rintro e w' ⟨rfl, rfl⟩)
  go_ret
  exact ⟨rfl, (Below.refl _ _).alloc (Nat.le_refl _) _⟩
theorem hasWeights_3 (a b c u v x : Int) (w : World) : Calls Try.prog 82 #[.agg #[.int .i64 3, .int .i64 a, .int .i64 b, .int .i64 c, .int .i64 u, .int .i64 v, .int .i64 x]] w fun e w' => e = .returned (.bool true) ∧ Below w.heap.size w w' := by
  go_enter Try.func82, Try.ntmps82
  go_wp2_with (go_at_call 136; refine (kindCode_3 _).mono ?_; rintro e w' ⟨rfl, rfl⟩)
  go_ret
  exact ⟨rfl, (Below.refl _ _).alloc (Nat.le_refl _) _⟩
theorem hasWeights_4 (a b c u v x : Int) (w : World) : Calls Try.prog 82 #[.agg #[.int .i64 4, .int .i64 a, .int .i64 b, .int .i64 c, .int .i64 u, .int .i64 v, .int .i64 x]] w fun e w' => e = .returned (.bool true) ∧ Below w.heap.size w w' := by
  go_enter Try.func82, Try.ntmps82
  go_wp2_with (go_at_call 136; refine (kindCode_4 _).mono ?_; rintro e w' ⟨rfl, rfl⟩)
  go_ret
  exact ⟨rfl, (Below.refl _ _).alloc (Nat.le_refl _) _⟩
theorem hasWeights_5 (a b c u v x : Int) (w : World) : Calls Try.prog 82 #[.agg #[.int .i64 5, .int .i64 a, .int .i64 b, .int .i64 c, .int .i64 u, .int .i64 v, .int .i64 x]] w fun e w' => e = .returned (.bool true) ∧ Below w.heap.size w w' := by
  go_enter Try.func82, Try.ntmps82
  go_wp2_with (go_at_call 136; refine (kindCode_5 _).mono ?_; rintro e w' ⟨rfl, rfl⟩)
  go_ret
  exact ⟨rfl, (Below.refl _ _).alloc (Nat.le_refl _) _⟩
theorem hasWeights_6 (a b c u v x : Int) (w : World) : Calls Try.prog 82 #[.agg #[.int .i64 6, .int .i64 a, .int .i64 b, .int .i64 c, .int .i64 u, .int .i64 v, .int .i64 x]] w fun e w' => e = .returned (.bool false) ∧ Below w.heap.size w w' := by
  go_enter Try.func82, Try.ntmps82
  go_wp2_with (go_at_call 136; refine (kindCode_6 _).mono ?_; rintro e w' ⟨rfl, rfl⟩)
  go_ret
  exact ⟨rfl, (Below.refl _ _).alloc (Nat.le_refl _) _⟩
theorem hasWeights_7 (a b c u v x : Int) (w : World) : Calls Try.prog 82 #[.agg #[.int .i64 7, .int .i64 a, .int .i64 b, .int .i64 c, .int .i64 u, .int .i64 v, .int .i64 x]] w fun e w' => e = .returned (.bool false) ∧ Below w.heap.size w w' := by
  go_enter Try.func82, Try.ntmps82
  go_wp2_with (go_at_call 136; refine (kindCode_7 _).mono ?_; rintro e w' ⟨rfl, rfl⟩)
  go_ret
  exact ⟨rfl, (Below.refl _ _).alloc (Nat.le_refl _) _⟩

theorem ok_of {k a b c u v x : Int} {r : Bool} (h : (St.mk k a b c u v x).ok = r) : Ending.returned (.bool r) = .returned (.bool (St.mk k a b c u v x).ok) := by rw [h]

set_option maxHeartbeats 1000000 in
theorem StmtOk_0 (a b c u v x : Int) (w : World) :
    Calls Try.prog 144 #[.agg #[.int .i64 0, .int .i64 a, .int .i64 b, .int .i64 c, .int .i64 u, .int .i64 v, .int .i64 x]] w fun e w' => e = .returned (.bool (inB a 0 3 && inB b (-1) 3 && inB c 0 2 && wZero u v x)) ∧ Below w.heap.size w w' := by
  have hin : inB 0 0 7 = true := rfl
  cases h1 : inB a 0 3
  · go_enter Try.func144, Try.ntmps144
    go_wp2_with (first | (go_at_call 95; refine (within_any _ _ _ _).mono ?_; rintro e w' ⟨rfl, rfl⟩) | (go_at_call 136; refine (kindCode_0 _).mono ?_; rintro e w' ⟨rfl, rfl⟩))
    go_quiet ((go_at_call 175; first | (refine quiet_left (fieldOk_v_at _ _ _ _ ?_); rfl) | (refine quiet_left (fieldOk_p_at _ _ _ _ ?_); rfl) | (refine quiet_left (fieldOk_c_at _ _ _ _ ?_); rfl)))
    go_wp2
    go_ret
    exact ⟨rfl, below_drewN ((Below.refl _ _).alloc (Nat.le_refl _) _) _⟩

  · cases h2 : inB b (-1) 3
    · go_enter Try.func144, Try.ntmps144
      go_wp2_with (first | (go_at_call 95; refine (within_any _ _ _ _).mono ?_; rintro e w' ⟨rfl, rfl⟩) | (go_at_call 136; refine (kindCode_0 _).mono ?_; rintro e w' ⟨rfl, rfl⟩))
      go_quiet ((go_at_call 175; first | (refine quiet_left (fieldOk_v_at _ _ _ _ ?_); rfl) | (refine quiet_left (fieldOk_p_at _ _ _ _ ?_); rfl) | (refine quiet_left (fieldOk_c_at _ _ _ _ ?_); rfl)))
      go_wp2
      go_ret
      exact ⟨rfl, below_drewN ((Below.refl _ _).alloc (Nat.le_refl _) _) _⟩

    · cases h3 : inB c 0 2
      · go_enter Try.func144, Try.ntmps144
        go_wp2_with (first | (go_at_call 95; refine (within_any _ _ _ _).mono ?_; rintro e w' ⟨rfl, rfl⟩) | (go_at_call 136; refine (kindCode_0 _).mono ?_; rintro e w' ⟨rfl, rfl⟩))
        go_quiet ((go_at_call 175; first | (refine quiet_left (fieldOk_v_at _ _ _ _ ?_); rfl) | (refine quiet_left (fieldOk_p_at _ _ _ _ ?_); rfl) | (refine quiet_left (fieldOk_c_at _ _ _ _ ?_); rfl)))
        go_wp2
        go_ret
        exact ⟨rfl, below_drewN ((Below.refl _ _).alloc (Nat.le_refl _) _) _⟩

      · go_enter Try.func144, Try.ntmps144
        go_wp2_with (first | (go_at_call 95; refine (within_any _ _ _ _).mono ?_; rintro e w' ⟨rfl, rfl⟩) | (go_at_call 136; refine (kindCode_0 _).mono ?_; rintro e w' ⟨rfl, rfl⟩))
        go_quiet ((go_at_call 175; first | (refine quiet_left (fieldOk_v_at _ _ _ _ ?_); rfl) | (refine quiet_left (fieldOk_p_at _ _ _ _ ?_); rfl) | (refine quiet_left (fieldOk_c_at _ _ _ _ ?_); rfl)))
        go_wp2_with fail
        refine (hasWeights_0 _ _ _ _ _ _ _).mono ?_
        rintro e w0 ⟨rfl, hb0⟩
        obtain ⟨cq0, fq0⟩ := bcell hb0
        go_wp2
        go_ret
        exact ⟨rfl, (below_drewN ((Below.refl _ _).alloc (Nat.le_refl _) _) _).trans (hb0.mono (by simp))⟩

set_option maxHeartbeats 1000000 in
theorem StmtOk_1 (a b c u v x : Int) (w : World) :
    Calls Try.prog 144 #[.agg #[.int .i64 1, .int .i64 a, .int .i64 b, .int .i64 c, .int .i64 u, .int .i64 v, .int .i64 x]] w fun e w' => e = .returned (.bool (inB a 0 3 && oB b a && zB c && wZero u v x)) ∧ Below w.heap.size w w' := by
  have hin : inB 1 0 7 = true := rfl
  cases h1 : inB a 0 3
  · go_enter Try.func144, Try.ntmps144
    go_wp2_with (first | (go_at_call 95; refine (within_any _ _ _ _).mono ?_; rintro e w' ⟨rfl, rfl⟩) | (go_at_call 136; refine (kindCode_1 _).mono ?_; rintro e w' ⟨rfl, rfl⟩))
    go_quiet ((go_at_call 175; first | (refine quiet_left (fieldOk_v_at _ _ _ _ ?_); rfl) | (refine quiet_left (fieldOk_o_at _ _ _ _ ?_); rfl) | (refine quiet_left (fieldOk_z_at _ _ _ _ ?_); rfl)))
    go_wp2
    go_ret
    exact ⟨rfl, below_drewN ((Below.refl _ _).alloc (Nat.le_refl _) _) _⟩

  · cases h2 : oB b a
    · go_enter Try.func144, Try.ntmps144
      go_wp2_with (first | (go_at_call 95; refine (within_any _ _ _ _).mono ?_; rintro e w' ⟨rfl, rfl⟩) | (go_at_call 136; refine (kindCode_1 _).mono ?_; rintro e w' ⟨rfl, rfl⟩))
      go_quiet ((go_at_call 175; first | (refine quiet_left (fieldOk_v_at _ _ _ _ ?_); rfl) | (refine quiet_left (fieldOk_o_at _ _ _ _ ?_); rfl) | (refine quiet_left (fieldOk_z_at _ _ _ _ ?_); rfl)))
      go_wp2
      go_ret
      exact ⟨rfl, below_drewN ((Below.refl _ _).alloc (Nat.le_refl _) _) _⟩

    · cases h3 : zB c
      · go_enter Try.func144, Try.ntmps144
        go_wp2_with (first | (go_at_call 95; refine (within_any _ _ _ _).mono ?_; rintro e w' ⟨rfl, rfl⟩) | (go_at_call 136; refine (kindCode_1 _).mono ?_; rintro e w' ⟨rfl, rfl⟩))
        go_quiet ((go_at_call 175; first | (refine quiet_left (fieldOk_v_at _ _ _ _ ?_); rfl) | (refine quiet_left (fieldOk_o_at _ _ _ _ ?_); rfl) | (refine quiet_left (fieldOk_z_at _ _ _ _ ?_); rfl)))
        go_wp2
        go_ret
        exact ⟨rfl, below_drewN ((Below.refl _ _).alloc (Nat.le_refl _) _) _⟩

      · go_enter Try.func144, Try.ntmps144
        go_wp2_with (first | (go_at_call 95; refine (within_any _ _ _ _).mono ?_; rintro e w' ⟨rfl, rfl⟩) | (go_at_call 136; refine (kindCode_1 _).mono ?_; rintro e w' ⟨rfl, rfl⟩))
        go_quiet ((go_at_call 175; first | (refine quiet_left (fieldOk_v_at _ _ _ _ ?_); rfl) | (refine quiet_left (fieldOk_o_at _ _ _ _ ?_); rfl) | (refine quiet_left (fieldOk_z_at _ _ _ _ ?_); rfl)))
        go_wp2_with fail
        refine (hasWeights_1 _ _ _ _ _ _ _).mono ?_
        rintro e w0 ⟨rfl, hb0⟩
        obtain ⟨cq0, fq0⟩ := bcell hb0
        go_wp2
        go_ret
        exact ⟨rfl, (below_drewN ((Below.refl _ _).alloc (Nat.le_refl _) _) _).trans (hb0.mono (by simp))⟩

set_option maxHeartbeats 1000000 in
theorem StmtOk_2 (a b c u v x : Int) (w : World) :
    Calls Try.prog 144 #[.agg #[.int .i64 2, .int .i64 a, .int .i64 b, .int .i64 c, .int .i64 u, .int .i64 v, .int .i64 x]] w fun e w' => e = .returned (.bool (inB a 0 3 && zB b && zB c && wOk u v x)) ∧ Below w.heap.size w w' := by
  have hin : inB 2 0 7 = true := rfl
  cases h1 : inB a 0 3
  · go_enter Try.func144, Try.ntmps144
    go_wp2_with (first | (go_at_call 95; refine (within_any _ _ _ _).mono ?_; rintro e w' ⟨rfl, rfl⟩) | (go_at_call 136; refine (kindCode_2 _).mono ?_; rintro e w' ⟨rfl, rfl⟩))
    go_quiet ((go_at_call 175; first | (refine quiet_left (fieldOk_v_at _ _ _ _ ?_); rfl) | (refine quiet_left (fieldOk_z_at _ _ _ _ ?_); rfl)))
    go_wp2
    go_ret
    exact ⟨rfl, below_drewN ((Below.refl _ _).alloc (Nat.le_refl _) _) _⟩

  · cases h2 : zB b
    · go_enter Try.func144, Try.ntmps144
      go_wp2_with (first | (go_at_call 95; refine (within_any _ _ _ _).mono ?_; rintro e w' ⟨rfl, rfl⟩) | (go_at_call 136; refine (kindCode_2 _).mono ?_; rintro e w' ⟨rfl, rfl⟩))
      go_quiet ((go_at_call 175; first | (refine quiet_left (fieldOk_v_at _ _ _ _ ?_); rfl) | (refine quiet_left (fieldOk_z_at _ _ _ _ ?_); rfl)))
      go_wp2
      go_ret
      exact ⟨rfl, below_drewN ((Below.refl _ _).alloc (Nat.le_refl _) _) _⟩

    · cases h3 : zB c
      · go_enter Try.func144, Try.ntmps144
        go_wp2_with (first | (go_at_call 95; refine (within_any _ _ _ _).mono ?_; rintro e w' ⟨rfl, rfl⟩) | (go_at_call 136; refine (kindCode_2 _).mono ?_; rintro e w' ⟨rfl, rfl⟩))
        go_quiet ((go_at_call 175; first | (refine quiet_left (fieldOk_v_at _ _ _ _ ?_); rfl) | (refine quiet_left (fieldOk_z_at _ _ _ _ ?_); rfl)))
        go_wp2
        go_ret
        exact ⟨rfl, below_drewN ((Below.refl _ _).alloc (Nat.le_refl _) _) _⟩

      · go_enter Try.func144, Try.ntmps144
        go_wp2_with (first | (go_at_call 95; refine (within_any _ _ _ _).mono ?_; rintro e w' ⟨rfl, rfl⟩) | (go_at_call 136; refine (kindCode_2 _).mono ?_; rintro e w' ⟨rfl, rfl⟩))
        go_quiet ((go_at_call 175; first | (refine quiet_left (fieldOk_v_at _ _ _ _ ?_); rfl) | (refine quiet_left (fieldOk_z_at _ _ _ _ ?_); rfl)))
        go_wp2_with fail
        refine (hasWeights_2 _ _ _ _ _ _ _).mono ?_
        rintro e w0 ⟨rfl, hb0⟩
        obtain ⟨cq0, fq0⟩ := bcell hb0
        go_wp2_with (go_at_call 176; refine (weightsOk_any _ _ _ _).mono ?_; rintro e w1 ⟨rfl, hb⟩)
        go_ret
        have hz0 := hb0.size
        simp at hz0
        exact ⟨rfl, ((below_drewN ((Below.refl _ _).alloc (Nat.le_refl _) _) _).trans (hb0.mono (by simp))).trans (hb.mono (by omega))⟩

set_option maxHeartbeats 1000000 in
theorem StmtOk_3 (a b c u v x : Int) (w : World) :
    Calls Try.prog 144 #[.agg #[.int .i64 3, .int .i64 a, .int .i64 b, .int .i64 c, .int .i64 u, .int .i64 v, .int .i64 x]] w fun e w' => e = .returned (.bool (inB a 0 3 && oB b a && zB c && wOk u v x)) ∧ Below w.heap.size w w' := by
  have hin : inB 3 0 7 = true := rfl
  cases h1 : inB a 0 3
  · go_enter Try.func144, Try.ntmps144
    go_wp2_with (first | (go_at_call 95; refine (within_any _ _ _ _).mono ?_; rintro e w' ⟨rfl, rfl⟩) | (go_at_call 136; refine (kindCode_3 _).mono ?_; rintro e w' ⟨rfl, rfl⟩))
    go_quiet ((go_at_call 175; first | (refine quiet_left (fieldOk_v_at _ _ _ _ ?_); rfl) | (refine quiet_left (fieldOk_o_at _ _ _ _ ?_); rfl) | (refine quiet_left (fieldOk_z_at _ _ _ _ ?_); rfl)))
    go_wp2
    go_ret
    exact ⟨rfl, below_drewN ((Below.refl _ _).alloc (Nat.le_refl _) _) _⟩

  · cases h2 : oB b a
    · go_enter Try.func144, Try.ntmps144
      go_wp2_with (first | (go_at_call 95; refine (within_any _ _ _ _).mono ?_; rintro e w' ⟨rfl, rfl⟩) | (go_at_call 136; refine (kindCode_3 _).mono ?_; rintro e w' ⟨rfl, rfl⟩))
      go_quiet ((go_at_call 175; first | (refine quiet_left (fieldOk_v_at _ _ _ _ ?_); rfl) | (refine quiet_left (fieldOk_o_at _ _ _ _ ?_); rfl) | (refine quiet_left (fieldOk_z_at _ _ _ _ ?_); rfl)))
      go_wp2
      go_ret
      exact ⟨rfl, below_drewN ((Below.refl _ _).alloc (Nat.le_refl _) _) _⟩

    · cases h3 : zB c
      · go_enter Try.func144, Try.ntmps144
        go_wp2_with (first | (go_at_call 95; refine (within_any _ _ _ _).mono ?_; rintro e w' ⟨rfl, rfl⟩) | (go_at_call 136; refine (kindCode_3 _).mono ?_; rintro e w' ⟨rfl, rfl⟩))
        go_quiet ((go_at_call 175; first | (refine quiet_left (fieldOk_v_at _ _ _ _ ?_); rfl) | (refine quiet_left (fieldOk_o_at _ _ _ _ ?_); rfl) | (refine quiet_left (fieldOk_z_at _ _ _ _ ?_); rfl)))
        go_wp2
        go_ret
        exact ⟨rfl, below_drewN ((Below.refl _ _).alloc (Nat.le_refl _) _) _⟩

      · go_enter Try.func144, Try.ntmps144
        go_wp2_with (first | (go_at_call 95; refine (within_any _ _ _ _).mono ?_; rintro e w' ⟨rfl, rfl⟩) | (go_at_call 136; refine (kindCode_3 _).mono ?_; rintro e w' ⟨rfl, rfl⟩))
        go_quiet ((go_at_call 175; first | (refine quiet_left (fieldOk_v_at _ _ _ _ ?_); rfl) | (refine quiet_left (fieldOk_o_at _ _ _ _ ?_); rfl) | (refine quiet_left (fieldOk_z_at _ _ _ _ ?_); rfl)))
        go_wp2_with fail
        refine (hasWeights_3 _ _ _ _ _ _ _).mono ?_
        rintro e w0 ⟨rfl, hb0⟩
        obtain ⟨cq0, fq0⟩ := bcell hb0
        go_wp2_with (go_at_call 176; refine (weightsOk_any _ _ _ _).mono ?_; rintro e w1 ⟨rfl, hb⟩)
        go_ret
        have hz0 := hb0.size
        simp at hz0
        exact ⟨rfl, ((below_drewN ((Below.refl _ _).alloc (Nat.le_refl _) _) _).trans (hb0.mono (by simp))).trans (hb.mono (by omega))⟩

set_option maxHeartbeats 1000000 in
theorem StmtOk_4 (a b c u v x : Int) (w : World) :
    Calls Try.prog 144 #[.agg #[.int .i64 4, .int .i64 a, .int .i64 b, .int .i64 c, .int .i64 u, .int .i64 v, .int .i64 x]] w fun e w' => e = .returned (.bool (inB a 0 3 && zB b && zB c && wOk u v x)) ∧ Below w.heap.size w w' := by
  have hin : inB 4 0 7 = true := rfl
  cases h1 : inB a 0 3
  · go_enter Try.func144, Try.ntmps144
    go_wp2_with (first | (go_at_call 95; refine (within_any _ _ _ _).mono ?_; rintro e w' ⟨rfl, rfl⟩) | (go_at_call 136; refine (kindCode_4 _).mono ?_; rintro e w' ⟨rfl, rfl⟩))
    go_quiet ((go_at_call 175; first | (refine quiet_left (fieldOk_v_at _ _ _ _ ?_); rfl) | (refine quiet_left (fieldOk_z_at _ _ _ _ ?_); rfl)))
    go_wp2
    go_ret
    exact ⟨rfl, below_drewN ((Below.refl _ _).alloc (Nat.le_refl _) _) _⟩

  · cases h2 : zB b
    · go_enter Try.func144, Try.ntmps144
      go_wp2_with (first | (go_at_call 95; refine (within_any _ _ _ _).mono ?_; rintro e w' ⟨rfl, rfl⟩) | (go_at_call 136; refine (kindCode_4 _).mono ?_; rintro e w' ⟨rfl, rfl⟩))
      go_quiet ((go_at_call 175; first | (refine quiet_left (fieldOk_v_at _ _ _ _ ?_); rfl) | (refine quiet_left (fieldOk_z_at _ _ _ _ ?_); rfl)))
      go_wp2
      go_ret
      exact ⟨rfl, below_drewN ((Below.refl _ _).alloc (Nat.le_refl _) _) _⟩

    · cases h3 : zB c
      · go_enter Try.func144, Try.ntmps144
        go_wp2_with (first | (go_at_call 95; refine (within_any _ _ _ _).mono ?_; rintro e w' ⟨rfl, rfl⟩) | (go_at_call 136; refine (kindCode_4 _).mono ?_; rintro e w' ⟨rfl, rfl⟩))
        go_quiet ((go_at_call 175; first | (refine quiet_left (fieldOk_v_at _ _ _ _ ?_); rfl) | (refine quiet_left (fieldOk_z_at _ _ _ _ ?_); rfl)))
        go_wp2
        go_ret
        exact ⟨rfl, below_drewN ((Below.refl _ _).alloc (Nat.le_refl _) _) _⟩

      · go_enter Try.func144, Try.ntmps144
        go_wp2_with (first | (go_at_call 95; refine (within_any _ _ _ _).mono ?_; rintro e w' ⟨rfl, rfl⟩) | (go_at_call 136; refine (kindCode_4 _).mono ?_; rintro e w' ⟨rfl, rfl⟩))
        go_quiet ((go_at_call 175; first | (refine quiet_left (fieldOk_v_at _ _ _ _ ?_); rfl) | (refine quiet_left (fieldOk_z_at _ _ _ _ ?_); rfl)))
        go_wp2_with fail
        refine (hasWeights_4 _ _ _ _ _ _ _).mono ?_
        rintro e w0 ⟨rfl, hb0⟩
        obtain ⟨cq0, fq0⟩ := bcell hb0
        go_wp2_with (go_at_call 176; refine (weightsOk_any _ _ _ _).mono ?_; rintro e w1 ⟨rfl, hb⟩)
        go_ret
        have hz0 := hb0.size
        simp at hz0
        exact ⟨rfl, ((below_drewN ((Below.refl _ _).alloc (Nat.le_refl _) _) _).trans (hb0.mono (by simp))).trans (hb.mono (by omega))⟩

set_option maxHeartbeats 1000000 in
theorem StmtOk_5 (a b c u v x : Int) (w : World) :
    Calls Try.prog 144 #[.agg #[.int .i64 5, .int .i64 a, .int .i64 b, .int .i64 c, .int .i64 u, .int .i64 v, .int .i64 x]] w fun e w' => e = .returned (.bool (inB a 0 3 && oB b a && zB c && wOk u v x)) ∧ Below w.heap.size w w' := by
  have hin : inB 5 0 7 = true := rfl
  cases h1 : inB a 0 3
  · go_enter Try.func144, Try.ntmps144
    go_wp2_with (first | (go_at_call 95; refine (within_any _ _ _ _).mono ?_; rintro e w' ⟨rfl, rfl⟩) | (go_at_call 136; refine (kindCode_5 _).mono ?_; rintro e w' ⟨rfl, rfl⟩))
    go_quiet ((go_at_call 175; first | (refine quiet_left (fieldOk_v_at _ _ _ _ ?_); rfl) | (refine quiet_left (fieldOk_o_at _ _ _ _ ?_); rfl) | (refine quiet_left (fieldOk_z_at _ _ _ _ ?_); rfl)))
    go_wp2
    go_ret
    exact ⟨rfl, below_drewN ((Below.refl _ _).alloc (Nat.le_refl _) _) _⟩

  · cases h2 : oB b a
    · go_enter Try.func144, Try.ntmps144
      go_wp2_with (first | (go_at_call 95; refine (within_any _ _ _ _).mono ?_; rintro e w' ⟨rfl, rfl⟩) | (go_at_call 136; refine (kindCode_5 _).mono ?_; rintro e w' ⟨rfl, rfl⟩))
      go_quiet ((go_at_call 175; first | (refine quiet_left (fieldOk_v_at _ _ _ _ ?_); rfl) | (refine quiet_left (fieldOk_o_at _ _ _ _ ?_); rfl) | (refine quiet_left (fieldOk_z_at _ _ _ _ ?_); rfl)))
      go_wp2
      go_ret
      exact ⟨rfl, below_drewN ((Below.refl _ _).alloc (Nat.le_refl _) _) _⟩

    · cases h3 : zB c
      · go_enter Try.func144, Try.ntmps144
        go_wp2_with (first | (go_at_call 95; refine (within_any _ _ _ _).mono ?_; rintro e w' ⟨rfl, rfl⟩) | (go_at_call 136; refine (kindCode_5 _).mono ?_; rintro e w' ⟨rfl, rfl⟩))
        go_quiet ((go_at_call 175; first | (refine quiet_left (fieldOk_v_at _ _ _ _ ?_); rfl) | (refine quiet_left (fieldOk_o_at _ _ _ _ ?_); rfl) | (refine quiet_left (fieldOk_z_at _ _ _ _ ?_); rfl)))
        go_wp2
        go_ret
        exact ⟨rfl, below_drewN ((Below.refl _ _).alloc (Nat.le_refl _) _) _⟩

      · go_enter Try.func144, Try.ntmps144
        go_wp2_with (first | (go_at_call 95; refine (within_any _ _ _ _).mono ?_; rintro e w' ⟨rfl, rfl⟩) | (go_at_call 136; refine (kindCode_5 _).mono ?_; rintro e w' ⟨rfl, rfl⟩))
        go_quiet ((go_at_call 175; first | (refine quiet_left (fieldOk_v_at _ _ _ _ ?_); rfl) | (refine quiet_left (fieldOk_o_at _ _ _ _ ?_); rfl) | (refine quiet_left (fieldOk_z_at _ _ _ _ ?_); rfl)))
        go_wp2_with fail
        refine (hasWeights_5 _ _ _ _ _ _ _).mono ?_
        rintro e w0 ⟨rfl, hb0⟩
        obtain ⟨cq0, fq0⟩ := bcell hb0
        go_wp2_with (go_at_call 176; refine (weightsOk_any _ _ _ _).mono ?_; rintro e w1 ⟨rfl, hb⟩)
        go_ret
        have hz0 := hb0.size
        simp at hz0
        exact ⟨rfl, ((below_drewN ((Below.refl _ _).alloc (Nat.le_refl _) _) _).trans (hb0.mono (by simp))).trans (hb.mono (by omega))⟩

set_option maxHeartbeats 1000000 in
theorem StmtOk_6 (a b c u v x : Int) (w : World) :
    Calls Try.prog 144 #[.agg #[.int .i64 6, .int .i64 a, .int .i64 b, .int .i64 c, .int .i64 u, .int .i64 v, .int .i64 x]] w fun e w' => e = .returned (.bool (inB a 0 3 && inB b 1 12 && inB c 0 2 && wZero u v x)) ∧ Below w.heap.size w w' := by
  have hin : inB 6 0 7 = true := rfl
  cases h1 : inB a 0 3
  · go_enter Try.func144, Try.ntmps144
    go_wp2_with (first | (go_at_call 95; refine (within_any _ _ _ _).mono ?_; rintro e w' ⟨rfl, rfl⟩) | (go_at_call 136; refine (kindCode_6 _).mono ?_; rintro e w' ⟨rfl, rfl⟩))
    go_quiet ((go_at_call 175; first | (refine quiet_left (fieldOk_v_at _ _ _ _ ?_); rfl) | (refine quiet_left (fieldOk_k_at _ _ _ _ ?_); rfl) | (refine quiet_left (fieldOk_c_at _ _ _ _ ?_); rfl)))
    go_wp2
    go_ret
    exact ⟨rfl, below_drewN ((Below.refl _ _).alloc (Nat.le_refl _) _) _⟩

  · cases h2 : inB b 1 12
    · go_enter Try.func144, Try.ntmps144
      go_wp2_with (first | (go_at_call 95; refine (within_any _ _ _ _).mono ?_; rintro e w' ⟨rfl, rfl⟩) | (go_at_call 136; refine (kindCode_6 _).mono ?_; rintro e w' ⟨rfl, rfl⟩))
      go_quiet ((go_at_call 175; first | (refine quiet_left (fieldOk_v_at _ _ _ _ ?_); rfl) | (refine quiet_left (fieldOk_k_at _ _ _ _ ?_); rfl) | (refine quiet_left (fieldOk_c_at _ _ _ _ ?_); rfl)))
      go_wp2
      go_ret
      exact ⟨rfl, below_drewN ((Below.refl _ _).alloc (Nat.le_refl _) _) _⟩

    · cases h3 : inB c 0 2
      · go_enter Try.func144, Try.ntmps144
        go_wp2_with (first | (go_at_call 95; refine (within_any _ _ _ _).mono ?_; rintro e w' ⟨rfl, rfl⟩) | (go_at_call 136; refine (kindCode_6 _).mono ?_; rintro e w' ⟨rfl, rfl⟩))
        go_quiet ((go_at_call 175; first | (refine quiet_left (fieldOk_v_at _ _ _ _ ?_); rfl) | (refine quiet_left (fieldOk_k_at _ _ _ _ ?_); rfl) | (refine quiet_left (fieldOk_c_at _ _ _ _ ?_); rfl)))
        go_wp2
        go_ret
        exact ⟨rfl, below_drewN ((Below.refl _ _).alloc (Nat.le_refl _) _) _⟩

      · go_enter Try.func144, Try.ntmps144
        go_wp2_with (first | (go_at_call 95; refine (within_any _ _ _ _).mono ?_; rintro e w' ⟨rfl, rfl⟩) | (go_at_call 136; refine (kindCode_6 _).mono ?_; rintro e w' ⟨rfl, rfl⟩))
        go_quiet ((go_at_call 175; first | (refine quiet_left (fieldOk_v_at _ _ _ _ ?_); rfl) | (refine quiet_left (fieldOk_k_at _ _ _ _ ?_); rfl) | (refine quiet_left (fieldOk_c_at _ _ _ _ ?_); rfl)))
        go_wp2_with fail
        refine (hasWeights_6 _ _ _ _ _ _ _).mono ?_
        rintro e w0 ⟨rfl, hb0⟩
        obtain ⟨cq0, fq0⟩ := bcell hb0
        go_wp2
        go_ret
        exact ⟨rfl, (below_drewN ((Below.refl _ _).alloc (Nat.le_refl _) _) _).trans (hb0.mono (by simp))⟩

set_option maxHeartbeats 1000000 in
theorem StmtOk_7 (a b c u v x : Int) (w : World) :
    Calls Try.prog 144 #[.agg #[.int .i64 7, .int .i64 a, .int .i64 b, .int .i64 c, .int .i64 u, .int .i64 v, .int .i64 x]] w fun e w' => e = .returned (.bool (zB a && inB b 1 10 && inB c 0 3 && wZero u v x)) ∧ Below w.heap.size w w' := by
  have hin : inB 7 0 7 = true := rfl
  cases h1 : zB a
  · go_enter Try.func144, Try.ntmps144
    go_wp2_with (first | (go_at_call 95; refine (within_any _ _ _ _).mono ?_; rintro e w' ⟨rfl, rfl⟩) | (go_at_call 136; refine (kindCode_7 _).mono ?_; rintro e w' ⟨rfl, rfl⟩))
    go_quiet ((go_at_call 175; first | (refine quiet_left (fieldOk_z_at _ _ _ _ ?_); rfl) | (refine quiet_left (fieldOk_m_at _ _ _ _ ?_); rfl) | (refine quiet_left (fieldOk_t_at _ _ _ _ ?_); rfl)))
    go_wp2
    go_ret
    exact ⟨rfl, below_drewN ((Below.refl _ _).alloc (Nat.le_refl _) _) _⟩

  · cases h2 : inB b 1 10
    · go_enter Try.func144, Try.ntmps144
      go_wp2_with (first | (go_at_call 95; refine (within_any _ _ _ _).mono ?_; rintro e w' ⟨rfl, rfl⟩) | (go_at_call 136; refine (kindCode_7 _).mono ?_; rintro e w' ⟨rfl, rfl⟩))
      go_quiet ((go_at_call 175; first | (refine quiet_left (fieldOk_z_at _ _ _ _ ?_); rfl) | (refine quiet_left (fieldOk_m_at _ _ _ _ ?_); rfl) | (refine quiet_left (fieldOk_t_at _ _ _ _ ?_); rfl)))
      go_wp2
      go_ret
      exact ⟨rfl, below_drewN ((Below.refl _ _).alloc (Nat.le_refl _) _) _⟩

    · cases h3 : inB c 0 3
      · go_enter Try.func144, Try.ntmps144
        go_wp2_with (first | (go_at_call 95; refine (within_any _ _ _ _).mono ?_; rintro e w' ⟨rfl, rfl⟩) | (go_at_call 136; refine (kindCode_7 _).mono ?_; rintro e w' ⟨rfl, rfl⟩))
        go_quiet ((go_at_call 175; first | (refine quiet_left (fieldOk_z_at _ _ _ _ ?_); rfl) | (refine quiet_left (fieldOk_m_at _ _ _ _ ?_); rfl) | (refine quiet_left (fieldOk_t_at _ _ _ _ ?_); rfl)))
        go_wp2
        go_ret
        exact ⟨rfl, below_drewN ((Below.refl _ _).alloc (Nat.le_refl _) _) _⟩

      · go_enter Try.func144, Try.ntmps144
        go_wp2_with (first | (go_at_call 95; refine (within_any _ _ _ _).mono ?_; rintro e w' ⟨rfl, rfl⟩) | (go_at_call 136; refine (kindCode_7 _).mono ?_; rintro e w' ⟨rfl, rfl⟩))
        go_quiet ((go_at_call 175; first | (refine quiet_left (fieldOk_z_at _ _ _ _ ?_); rfl) | (refine quiet_left (fieldOk_m_at _ _ _ _ ?_); rfl) | (refine quiet_left (fieldOk_t_at _ _ _ _ ?_); rfl)))
        go_wp2_with fail
        refine (hasWeights_7 _ _ _ _ _ _ _).mono ?_
        rintro e w0 ⟨rfl, hb0⟩
        obtain ⟨cq0, fq0⟩ := bcell hb0
        go_wp2
        go_ret
        exact ⟨rfl, (below_drewN ((Below.refl _ _).alloc (Nat.le_refl _) _) _).trans (hb0.mono (by simp))⟩

theorem StmtOk_far (k a b c u v x : Int) (h : ¬ (0 ≤ k ∧ k ≤ 7)) (w : World) :
    Calls Try.prog 144 #[.agg #[.int .i64 k, .int .i64 a, .int .i64 b, .int .i64 c, .int .i64 u, .int .i64 v, .int .i64 x]] w fun e w' => e = .returned (.bool false) ∧ Below w.heap.size w w' := by
  have hin : inB k 0 7 = false := inB_no h
  clear h
  go_enter Try.func144, Try.ntmps144
  go_wp2_with (first | (go_at_call 95; refine (within_any _ _ _ _).mono ?_; rintro e w' ⟨rfl, rfl⟩))
  go_ret
  exact ⟨rfl, (Below.refl _ _).alloc (Nat.le_refl _) _⟩

end Go.Proofs.Ytbndonfpdioibaa

namespace Go.Proofs.Ytbndonfpdioibaa
set_option maxRecDepth 100000
open Go.RowKit

theorem ok_0 (a b c u v x : Int) : (St.mk 0 a b c u v x).ok = (inB a 0 3 && inB b (-1) 3 && inB c 0 2 && wZero u v x) := by
  simp [St.ok, Bool.and_assoc]

theorem ok_1 (a b c u v x : Int) : (St.mk 1 a b c u v x).ok = (inB a 0 3 && oB b a && zB c && wZero u v x) := by
  have e : (b == a) = (a == b) := by rw [Bool.eq_iff_iff, beq_iff_eq, beq_iff_eq]; exact ⟨Eq.symm, Eq.symm⟩
  unfold oB zB
  rw [e]
  simp [St.ok, Bool.and_assoc]

theorem ok_2 (a b c u v x : Int) : (St.mk 2 a b c u v x).ok = (inB a 0 3 && zB b && zB c && wOk u v x) := by
  simp [St.ok, zB, Bool.and_assoc]

theorem ok_3 (a b c u v x : Int) : (St.mk 3 a b c u v x).ok = (inB a 0 3 && oB b a && zB c && wOk u v x) := by
  have e : (b == a) = (a == b) := by rw [Bool.eq_iff_iff, beq_iff_eq, beq_iff_eq]; exact ⟨Eq.symm, Eq.symm⟩
  unfold oB zB
  rw [e]
  simp [St.ok, Bool.and_assoc]

theorem ok_4 (a b c u v x : Int) : (St.mk 4 a b c u v x).ok = (inB a 0 3 && zB b && zB c && wOk u v x) := by
  simp [St.ok, zB, Bool.and_assoc]

theorem ok_5 (a b c u v x : Int) : (St.mk 5 a b c u v x).ok = (inB a 0 3 && oB b a && zB c && wOk u v x) := by
  have e : (b == a) = (a == b) := by rw [Bool.eq_iff_iff, beq_iff_eq, beq_iff_eq]; exact ⟨Eq.symm, Eq.symm⟩
  unfold oB zB
  rw [e]
  simp [St.ok, Bool.and_assoc]

theorem ok_6 (a b c u v x : Int) : (St.mk 6 a b c u v x).ok = (inB a 0 3 && inB b 1 12 && inB c 0 2 && wZero u v x) := by
  simp [St.ok, Bool.and_assoc]

theorem ok_7 (a b c u v x : Int) : (St.mk 7 a b c u v x).ok = (zB a && inB b 1 10 && inB c 0 3 && wZero u v x) := by
  simp [St.ok, zB, Bool.and_assoc]

theorem StmtOk_any (k a b c u v x : Int) (w : World) :
    Calls Try.prog 144 #[.agg #[.int .i64 k, .int .i64 a, .int .i64 b, .int .i64 c, .int .i64 u, .int .i64 v, .int .i64 x]] w fun e w' => e = .returned (.bool (St.mk k a b c u v x).ok) ∧ Below w.heap.size w w' := by
  rcases kind_cases k with rfl | rfl | rfl | rfl | rfl | rfl | rfl | rfl | h | ⟨h, h'⟩
  · rw [ok_0]; exact StmtOk_0 a b c u v x w
  · rw [ok_1]; exact StmtOk_1 a b c u v x w
  · rw [ok_2]; exact StmtOk_2 a b c u v x w
  · rw [ok_3]; exact StmtOk_3 a b c u v x w
  · rw [ok_4]; exact StmtOk_4 a b c u v x w
  · rw [ok_5]; exact StmtOk_5 a b c u v x w
  · rw [ok_6]; exact StmtOk_6 a b c u v x w
  · rw [ok_7]; exact StmtOk_7 a b c u v x w
  · rw [ok_far (by omega)]; exact StmtOk_far k a b c u v x (by omega) w
  · rw [ok_far (by omega)]; exact StmtOk_far k a b c u v x (by omega) w
theorem hasWeights_any (s : St) (w : World) (hs : s.ok = true) : Calls Try.prog 82 #[.agg #[.int .i64 s.k, .int .i64 s.a, .int .i64 s.b, .int .i64 s.c, .int .i64 s.u, .int .i64 s.v, .int .i64 s.x]] w fun e w' => e = .returned (.bool (inB s.k 2 5)) ∧ Below w.heap.size w w' := by
  obtain ⟨k, a, b, c, u, v, x⟩ := s
  rcases kind_cases k with rfl | rfl | rfl | rfl | rfl | rfl | rfl | rfl | hk | ⟨hk, hk'⟩
  · exact hasWeights_0 a b c u v x w
  · exact hasWeights_1 a b c u v x w
  · exact hasWeights_2 a b c u v x w
  · exact hasWeights_3 a b c u v x w
  · exact hasWeights_4 a b c u v x w
  · exact hasWeights_5 a b c u v x w
  · exact hasWeights_6 a b c u v x w
  · exact hasWeights_7 a b c u v x w
  · rw [ok_far (by omega)] at hs; cases hs
  · rw [ok_far (by omega)] at hs; cases hs
/-- What is known of the numbers of a statement, by its kind. -/
theorem ok_rng {k a b c u v x : Int} (h : (St.mk k a b c u v x).ok = true) :
    (k = 0 ∧ 0 ≤ a ∧ a ≤ 3 ∧ -1 ≤ b ∧ b ≤ 3 ∧ 0 ≤ c ∧ c ≤ 2) ∨ (k = 1 ∧ 0 ≤ a ∧ a ≤ 3 ∧ 0 ≤ b ∧ b ≤ 3 ∧ a ≠ b) ∨ (k = 2 ∧ 0 ≤ a ∧ a ≤ 3 ∧ b = 0) ∨ (k = 3 ∧ 0 ≤ a ∧ a ≤ 3 ∧ 0 ≤ b ∧ b ≤ 3 ∧ a ≠ b) ∨
    (k = 4 ∧ 0 ≤ a ∧ a ≤ 3 ∧ b = 0) ∨ (k = 5 ∧ 0 ≤ a ∧ a ≤ 3 ∧ 0 ≤ b ∧ b ≤ 3 ∧ a ≠ b) ∨ (k = 6 ∧ 0 ≤ a ∧ a ≤ 3 ∧ 1 ≤ b ∧ b ≤ 12 ∧ 0 ≤ c ∧ c ≤ 2) ∨ (k = 7 ∧ a = 0 ∧ 1 ≤ b ∧ b ≤ 10 ∧ 0 ≤ c ∧ c ≤ 3) := by
  rcases kind_cases k with rfl | rfl | rfl | rfl | rfl | rfl | rfl | rfl | hk | ⟨hk, hk'⟩
  · rw [ok_0] at h; simp [inB_iff] at h; simp; omega
  · rw [ok_1] at h; simp [oB, zB, inB_iff] at h; simp; omega
  · rw [ok_2] at h; simp [zB, inB_iff] at h; simp; omega
  · rw [ok_3] at h; simp [oB, zB, inB_iff] at h; simp; omega
  · rw [ok_4] at h; simp [zB, inB_iff] at h; simp; omega
  · rw [ok_5] at h; simp [oB, zB, inB_iff] at h; simp; omega
  · rw [ok_6] at h; simp [inB_iff] at h; simp; omega
  · rw [ok_7] at h; simp [zB, inB_iff] at h; simp; omega
  · rw [ok_far (by omega)] at h; cases h
  · rw [ok_far (by omega)] at h; cases h

end Go.Proofs.Ytbndonfpdioibaa
