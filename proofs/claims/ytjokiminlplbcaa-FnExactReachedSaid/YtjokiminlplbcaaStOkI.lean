/- The program's StmtOk returns what the document's table says. -/
import Derived.Test.YtjokiminlplbcaaFld
import Derived.Test.YtjokiminlplbcaaStOkS
namespace Go.Proofs.Ytjokiminlplbcaa
set_option maxRecDepth 100000
open Go.RowKit
attribute [local go_sem] eqW

theorem quiet_left {P : Program} {f : FuncId} {args : Array Value} {w : World} {n : Nat} {v : Value}
    (h : Calls P f args (w.drewN n) fun e w' => e = .returned v ∧ w.drewN n = w') : Calls P f args (w.drewN n) fun e w'' => e = .returned v ∧ ∃ m, w'' = w.drewN m :=
  h.mono fun _ _ ⟨he, hm⟩ => ⟨he, n, hm.symm⟩
theorem quiet_add_left {P : Program} {f : FuncId} {args : Array Value} {w : World} {a n : Nat} {v : Value}
    (h : Calls P f args (w.drewN (a + n)) fun e w' => e = .returned v ∧ w.drewN (a + n) = w') :
    Calls P f args (w.drewN (a + n)) fun e w'' => e = .returned v ∧ ∃ m, w'' = w.drewN (a + m) :=
  h.mono fun _ _ ⟨he, hm⟩ => ⟨he, n, hm.symm⟩

theorem kindCode_0 (w : World) : Calls Try.prog 122 #[.int .i64 0] w fun e w' => e = .returned (.string ⟨#[118, 112, 99, 48, 98, 97]⟩) ∧ w = w' := by
  go_enter Try.func122, Try.ntmps122
  go_wp2
  go_ret
  exact ⟨by as_aux_lemma => kernel_rfl, rfl⟩

theorem kindCode_1 (w : World) : Calls Try.prog 122 #[.int .i64 1] w fun e w' => e = .returned (.string ⟨#[118, 111, 48, 48, 50, 97]⟩) ∧ w = w' := by
  go_enter Try.func122, Try.ntmps122
  go_wp2
  go_ret
  exact ⟨by as_aux_lemma => kernel_rfl, rfl⟩

theorem kindCode_2 (w : World) : Calls Try.prog 122 #[.int .i64 2] w fun e w' => e = .returned (.string ⟨#[118, 48, 48, 119, 45, 97]⟩) ∧ w = w' := by
  go_enter Try.func122, Try.ntmps122
  go_wp2
  go_ret
  exact ⟨by as_aux_lemma => kernel_rfl, rfl⟩

theorem kindCode_3 (w : World) : Calls Try.prog 122 #[.int .i64 3] w fun e w' => e = .returned (.string ⟨#[118, 111, 48, 119, 98, 97]⟩) ∧ w = w' := by
  go_enter Try.func122, Try.ntmps122
  go_wp2
  go_ret
  exact ⟨by as_aux_lemma => kernel_rfl, rfl⟩

theorem kindCode_4 (w : World) : Calls Try.prog 122 #[.int .i64 4] w fun e w' => e = .returned (.string ⟨#[118, 48, 48, 119, 97, 45]⟩) ∧ w = w' := by
  go_enter Try.func122, Try.ntmps122
  go_wp2
  go_ret
  exact ⟨by as_aux_lemma => kernel_rfl, rfl⟩

theorem kindCode_5 (w : World) : Calls Try.prog 122 #[.int .i64 5] w fun e w' => e = .returned (.string ⟨#[118, 111, 48, 119, 50, 45]⟩) ∧ w = w' := by
  go_enter Try.func122, Try.ntmps122
  go_wp2
  go_ret
  exact ⟨by as_aux_lemma => kernel_rfl, rfl⟩

theorem kindCode_6 (w : World) : Calls Try.prog 122 #[.int .i64 6] w fun e w' => e = .returned (.string ⟨#[118, 107, 99, 48, 97, 45]⟩) ∧ w = w' := by
  go_enter Try.func122, Try.ntmps122
  go_wp2
  go_ret
  exact ⟨by as_aux_lemma => kernel_rfl, rfl⟩

theorem kindCode_7 (w : World) : Calls Try.prog 122 #[.int .i64 7] w fun e w' => e = .returned (.string ⟨#[48, 109, 116, 48, 45, 45]⟩) ∧ w = w' := by
  go_enter Try.func122, Try.ntmps122
  go_wp2
  go_ret
  exact ⟨by as_aux_lemma => kernel_rfl, rfl⟩

theorem ok_of {k a b c u v x : Int} {r : Bool} (h : (St.mk k a b c u v x).ok = r) : Ending.returned (.bool r) = .returned (.bool (St.mk k a b c u v x).ok) := by rw [h]

set_option maxHeartbeats 1000000 in
theorem StmtOk_0 (a b c u v x : Int) (w : World) :
    Calls Try.prog 112 #[.agg #[.int .i64 0, .int .i64 a, .int .i64 b, .int .i64 c, .int .i64 u, .int .i64 v, .int .i64 x]] w fun e w' => e = .returned (.bool (inB a 0 3 && inB b (-1) 3 && inB c 0 2 && wZero u v x)) ∧ Below w.heap.size w w' := by
  have hin : inB 0 0 7 = true := rfl
  cases h1 : inB a 0 3
  · go_enter Try.func112, Try.ntmps112
    go_wp2_with (first | (go_at_call 81; refine (within_any _ _ _ _).mono ?_; rintro e w' ⟨rfl, rfl⟩) | (go_at_call 122; refine (kindCode_0 _).mono ?_; rintro e w' ⟨rfl, rfl⟩))
    go_quiet ((go_at_call 123; first | (refine quiet_left (fieldOk_v_at _ _ _ _ ?_); rfl) | (refine quiet_left (fieldOk_p_at _ _ _ _ ?_); rfl) | (refine quiet_left (fieldOk_c_at _ _ _ _ ?_); rfl)))
    go_wp2
    go_ret
    exact ⟨rfl, below_drewN ((Below.refl _ _).alloc (Nat.le_refl _) _) _⟩

  · cases h2 : inB b (-1) 3
    · go_enter Try.func112, Try.ntmps112
      go_wp2_with (first | (go_at_call 81; refine (within_any _ _ _ _).mono ?_; rintro e w' ⟨rfl, rfl⟩) | (go_at_call 122; refine (kindCode_0 _).mono ?_; rintro e w' ⟨rfl, rfl⟩))
      go_quiet ((go_at_call 123; first | (refine quiet_left (fieldOk_v_at _ _ _ _ ?_); rfl) | (refine quiet_left (fieldOk_p_at _ _ _ _ ?_); rfl) | (refine quiet_left (fieldOk_c_at _ _ _ _ ?_); rfl)))
      go_wp2
      go_ret
      exact ⟨rfl, below_drewN ((Below.refl _ _).alloc (Nat.le_refl _) _) _⟩

    · cases h3 : inB c 0 2
      · go_enter Try.func112, Try.ntmps112
        go_wp2_with (first | (go_at_call 81; refine (within_any _ _ _ _).mono ?_; rintro e w' ⟨rfl, rfl⟩) | (go_at_call 122; refine (kindCode_0 _).mono ?_; rintro e w' ⟨rfl, rfl⟩))
        go_quiet ((go_at_call 123; first | (refine quiet_left (fieldOk_v_at _ _ _ _ ?_); rfl) | (refine quiet_left (fieldOk_p_at _ _ _ _ ?_); rfl) | (refine quiet_left (fieldOk_c_at _ _ _ _ ?_); rfl)))
        go_wp2
        go_ret
        exact ⟨rfl, below_drewN ((Below.refl _ _).alloc (Nat.le_refl _) _) _⟩

      · go_enter Try.func112, Try.ntmps112
        go_wp2_with (first | (go_at_call 81; refine (within_any _ _ _ _).mono ?_; rintro e w' ⟨rfl, rfl⟩) | (go_at_call 122; refine (kindCode_0 _).mono ?_; rintro e w' ⟨rfl, rfl⟩))
        go_quiet ((go_at_call 123; first | (refine quiet_left (fieldOk_v_at _ _ _ _ ?_); rfl) | (refine quiet_left (fieldOk_p_at _ _ _ _ ?_); rfl) | (refine quiet_left (fieldOk_c_at _ _ _ _ ?_); rfl)))
        go_wp2
        go_ret
        exact ⟨rfl, below_drewN ((Below.refl _ _).alloc (Nat.le_refl _) _) _⟩

set_option maxHeartbeats 1000000 in
theorem StmtOk_1 (a b c u v x : Int) (w : World) :
    Calls Try.prog 112 #[.agg #[.int .i64 1, .int .i64 a, .int .i64 b, .int .i64 c, .int .i64 u, .int .i64 v, .int .i64 x]] w fun e w' => e = .returned (.bool (inB a 0 3 && oB b a && zB c && wZero u v x)) ∧ Below w.heap.size w w' := by
  have hin : inB 1 0 7 = true := rfl
  cases h1 : inB a 0 3
  · go_enter Try.func112, Try.ntmps112
    go_wp2_with (first | (go_at_call 81; refine (within_any _ _ _ _).mono ?_; rintro e w' ⟨rfl, rfl⟩) | (go_at_call 122; refine (kindCode_1 _).mono ?_; rintro e w' ⟨rfl, rfl⟩))
    go_quiet ((go_at_call 123; first | (refine quiet_left (fieldOk_v_at _ _ _ _ ?_); rfl) | (refine quiet_left (fieldOk_o_at _ _ _ _ ?_); rfl) | (refine quiet_left (fieldOk_z_at _ _ _ _ ?_); rfl)))
    go_wp2
    go_ret
    exact ⟨rfl, below_drewN ((Below.refl _ _).alloc (Nat.le_refl _) _) _⟩

  · cases h2 : oB b a
    · go_enter Try.func112, Try.ntmps112
      go_wp2_with (first | (go_at_call 81; refine (within_any _ _ _ _).mono ?_; rintro e w' ⟨rfl, rfl⟩) | (go_at_call 122; refine (kindCode_1 _).mono ?_; rintro e w' ⟨rfl, rfl⟩))
      go_quiet ((go_at_call 123; first | (refine quiet_left (fieldOk_v_at _ _ _ _ ?_); rfl) | (refine quiet_left (fieldOk_o_at _ _ _ _ ?_); rfl) | (refine quiet_left (fieldOk_z_at _ _ _ _ ?_); rfl)))
      go_wp2
      go_ret
      exact ⟨rfl, below_drewN ((Below.refl _ _).alloc (Nat.le_refl _) _) _⟩

    · cases h3 : zB c
      · go_enter Try.func112, Try.ntmps112
        go_wp2_with (first | (go_at_call 81; refine (within_any _ _ _ _).mono ?_; rintro e w' ⟨rfl, rfl⟩) | (go_at_call 122; refine (kindCode_1 _).mono ?_; rintro e w' ⟨rfl, rfl⟩))
        go_quiet ((go_at_call 123; first | (refine quiet_left (fieldOk_v_at _ _ _ _ ?_); rfl) | (refine quiet_left (fieldOk_o_at _ _ _ _ ?_); rfl) | (refine quiet_left (fieldOk_z_at _ _ _ _ ?_); rfl)))
        go_wp2
        go_ret
        exact ⟨rfl, below_drewN ((Below.refl _ _).alloc (Nat.le_refl _) _) _⟩

      · go_enter Try.func112, Try.ntmps112
        go_wp2_with (first | (go_at_call 81; refine (within_any _ _ _ _).mono ?_; rintro e w' ⟨rfl, rfl⟩) | (go_at_call 122; refine (kindCode_1 _).mono ?_; rintro e w' ⟨rfl, rfl⟩))
        go_quiet ((go_at_call 123; first | (refine quiet_left (fieldOk_v_at _ _ _ _ ?_); rfl) | (refine quiet_left (fieldOk_o_at _ _ _ _ ?_); rfl) | (refine quiet_left (fieldOk_z_at _ _ _ _ ?_); rfl)))
        go_wp2
        go_ret
        exact ⟨rfl, below_drewN ((Below.refl _ _).alloc (Nat.le_refl _) _) _⟩

set_option maxHeartbeats 1000000 in
theorem StmtOk_2 (a b c u v x : Int) (w : World) :
    Calls Try.prog 112 #[.agg #[.int .i64 2, .int .i64 a, .int .i64 b, .int .i64 c, .int .i64 u, .int .i64 v, .int .i64 x]] w fun e w' => e = .returned (.bool (inB a 0 3 && zB b && zB c && wOk u v x)) ∧ Below w.heap.size w w' := by
  have hin : inB 2 0 7 = true := rfl
  cases h1 : inB a 0 3
  · go_enter Try.func112, Try.ntmps112
    go_wp2_with (first | (go_at_call 81; refine (within_any _ _ _ _).mono ?_; rintro e w' ⟨rfl, rfl⟩) | (go_at_call 122; refine (kindCode_2 _).mono ?_; rintro e w' ⟨rfl, rfl⟩))
    go_quiet ((go_at_call 123; first | (refine quiet_left (fieldOk_v_at _ _ _ _ ?_); rfl) | (refine quiet_left (fieldOk_z_at _ _ _ _ ?_); rfl)))
    go_wp2
    go_ret
    exact ⟨rfl, below_drewN ((Below.refl _ _).alloc (Nat.le_refl _) _) _⟩

  · cases h2 : zB b
    · go_enter Try.func112, Try.ntmps112
      go_wp2_with (first | (go_at_call 81; refine (within_any _ _ _ _).mono ?_; rintro e w' ⟨rfl, rfl⟩) | (go_at_call 122; refine (kindCode_2 _).mono ?_; rintro e w' ⟨rfl, rfl⟩))
      go_quiet ((go_at_call 123; first | (refine quiet_left (fieldOk_v_at _ _ _ _ ?_); rfl) | (refine quiet_left (fieldOk_z_at _ _ _ _ ?_); rfl)))
      go_wp2
      go_ret
      exact ⟨rfl, below_drewN ((Below.refl _ _).alloc (Nat.le_refl _) _) _⟩

    · cases h3 : zB c
      · go_enter Try.func112, Try.ntmps112
        go_wp2_with (first | (go_at_call 81; refine (within_any _ _ _ _).mono ?_; rintro e w' ⟨rfl, rfl⟩) | (go_at_call 122; refine (kindCode_2 _).mono ?_; rintro e w' ⟨rfl, rfl⟩))
        go_quiet ((go_at_call 123; first | (refine quiet_left (fieldOk_v_at _ _ _ _ ?_); rfl) | (refine quiet_left (fieldOk_z_at _ _ _ _ ?_); rfl)))
        go_wp2
        go_ret
        exact ⟨rfl, below_drewN ((Below.refl _ _).alloc (Nat.le_refl _) _) _⟩

      · go_enter Try.func112, Try.ntmps112
        go_wp2_with (first | (go_at_call 81; refine (within_any _ _ _ _).mono ?_; rintro e w' ⟨rfl, rfl⟩) | (go_at_call 122; refine (kindCode_2 _).mono ?_; rintro e w' ⟨rfl, rfl⟩))
        go_quiet ((go_at_call 123; first | (refine quiet_left (fieldOk_v_at _ _ _ _ ?_); rfl) | (refine quiet_left (fieldOk_z_at _ _ _ _ ?_); rfl)))
        go_wp2_with (go_at_call 124; refine (weightsOk_any _ _ _ _).mono ?_; rintro e w1 ⟨rfl, hb⟩)
        go_ret
        exact ⟨rfl, (below_drewN ((Below.refl _ _).alloc (Nat.le_refl _) _) _).trans (hb.mono (by simp))⟩

set_option maxHeartbeats 1000000 in
theorem StmtOk_3 (a b c u v x : Int) (w : World) :
    Calls Try.prog 112 #[.agg #[.int .i64 3, .int .i64 a, .int .i64 b, .int .i64 c, .int .i64 u, .int .i64 v, .int .i64 x]] w fun e w' => e = .returned (.bool (inB a 0 3 && oB b a && zB c && wOk u v x)) ∧ Below w.heap.size w w' := by
  have hin : inB 3 0 7 = true := rfl
  cases h1 : inB a 0 3
  · go_enter Try.func112, Try.ntmps112
    go_wp2_with (first | (go_at_call 81; refine (within_any _ _ _ _).mono ?_; rintro e w' ⟨rfl, rfl⟩) | (go_at_call 122; refine (kindCode_3 _).mono ?_; rintro e w' ⟨rfl, rfl⟩))
    go_quiet ((go_at_call 123; first | (refine quiet_left (fieldOk_v_at _ _ _ _ ?_); rfl) | (refine quiet_left (fieldOk_o_at _ _ _ _ ?_); rfl) | (refine quiet_left (fieldOk_z_at _ _ _ _ ?_); rfl)))
    go_wp2
    go_ret
    exact ⟨rfl, below_drewN ((Below.refl _ _).alloc (Nat.le_refl _) _) _⟩

  · cases h2 : oB b a
    · go_enter Try.func112, Try.ntmps112
      go_wp2_with (first | (go_at_call 81; refine (within_any _ _ _ _).mono ?_; rintro e w' ⟨rfl, rfl⟩) | (go_at_call 122; refine (kindCode_3 _).mono ?_; rintro e w' ⟨rfl, rfl⟩))
      go_quiet ((go_at_call 123; first | (refine quiet_left (fieldOk_v_at _ _ _ _ ?_); rfl) | (refine quiet_left (fieldOk_o_at _ _ _ _ ?_); rfl) | (refine quiet_left (fieldOk_z_at _ _ _ _ ?_); rfl)))
      go_wp2
      go_ret
      exact ⟨rfl, below_drewN ((Below.refl _ _).alloc (Nat.le_refl _) _) _⟩

    · cases h3 : zB c
      · go_enter Try.func112, Try.ntmps112
        go_wp2_with (first | (go_at_call 81; refine (within_any _ _ _ _).mono ?_; rintro e w' ⟨rfl, rfl⟩) | (go_at_call 122; refine (kindCode_3 _).mono ?_; rintro e w' ⟨rfl, rfl⟩))
        go_quiet ((go_at_call 123; first | (refine quiet_left (fieldOk_v_at _ _ _ _ ?_); rfl) | (refine quiet_left (fieldOk_o_at _ _ _ _ ?_); rfl) | (refine quiet_left (fieldOk_z_at _ _ _ _ ?_); rfl)))
        go_wp2
        go_ret
        exact ⟨rfl, below_drewN ((Below.refl _ _).alloc (Nat.le_refl _) _) _⟩

      · go_enter Try.func112, Try.ntmps112
        go_wp2_with (first | (go_at_call 81; refine (within_any _ _ _ _).mono ?_; rintro e w' ⟨rfl, rfl⟩) | (go_at_call 122; refine (kindCode_3 _).mono ?_; rintro e w' ⟨rfl, rfl⟩))
        go_quiet ((go_at_call 123; first | (refine quiet_left (fieldOk_v_at _ _ _ _ ?_); rfl) | (refine quiet_left (fieldOk_o_at _ _ _ _ ?_); rfl) | (refine quiet_left (fieldOk_z_at _ _ _ _ ?_); rfl)))
        go_wp2_with (go_at_call 124; refine (weightsOk_any _ _ _ _).mono ?_; rintro e w1 ⟨rfl, hb⟩)
        go_ret
        exact ⟨rfl, (below_drewN ((Below.refl _ _).alloc (Nat.le_refl _) _) _).trans (hb.mono (by simp))⟩

set_option maxHeartbeats 1000000 in
theorem StmtOk_4 (a b c u v x : Int) (w : World) :
    Calls Try.prog 112 #[.agg #[.int .i64 4, .int .i64 a, .int .i64 b, .int .i64 c, .int .i64 u, .int .i64 v, .int .i64 x]] w fun e w' => e = .returned (.bool (inB a 0 3 && zB b && zB c && wOk u v x)) ∧ Below w.heap.size w w' := by
  have hin : inB 4 0 7 = true := rfl
  cases h1 : inB a 0 3
  · go_enter Try.func112, Try.ntmps112
    go_wp2_with (first | (go_at_call 81; refine (within_any _ _ _ _).mono ?_; rintro e w' ⟨rfl, rfl⟩) | (go_at_call 122; refine (kindCode_4 _).mono ?_; rintro e w' ⟨rfl, rfl⟩))
    go_quiet ((go_at_call 123; first | (refine quiet_left (fieldOk_v_at _ _ _ _ ?_); rfl) | (refine quiet_left (fieldOk_z_at _ _ _ _ ?_); rfl)))
    go_wp2
    go_ret
    exact ⟨rfl, below_drewN ((Below.refl _ _).alloc (Nat.le_refl _) _) _⟩

  · cases h2 : zB b
    · go_enter Try.func112, Try.ntmps112
      go_wp2_with (first | (go_at_call 81; refine (within_any _ _ _ _).mono ?_; rintro e w' ⟨rfl, rfl⟩) | (go_at_call 122; refine (kindCode_4 _).mono ?_; rintro e w' ⟨rfl, rfl⟩))
      go_quiet ((go_at_call 123; first | (refine quiet_left (fieldOk_v_at _ _ _ _ ?_); rfl) | (refine quiet_left (fieldOk_z_at _ _ _ _ ?_); rfl)))
      go_wp2
      go_ret
      exact ⟨rfl, below_drewN ((Below.refl _ _).alloc (Nat.le_refl _) _) _⟩

    · cases h3 : zB c
      · go_enter Try.func112, Try.ntmps112
        go_wp2_with (first | (go_at_call 81; refine (within_any _ _ _ _).mono ?_; rintro e w' ⟨rfl, rfl⟩) | (go_at_call 122; refine (kindCode_4 _).mono ?_; rintro e w' ⟨rfl, rfl⟩))
        go_quiet ((go_at_call 123; first | (refine quiet_left (fieldOk_v_at _ _ _ _ ?_); rfl) | (refine quiet_left (fieldOk_z_at _ _ _ _ ?_); rfl)))
        go_wp2
        go_ret
        exact ⟨rfl, below_drewN ((Below.refl _ _).alloc (Nat.le_refl _) _) _⟩

      · go_enter Try.func112, Try.ntmps112
        go_wp2_with (first | (go_at_call 81; refine (within_any _ _ _ _).mono ?_; rintro e w' ⟨rfl, rfl⟩) | (go_at_call 122; refine (kindCode_4 _).mono ?_; rintro e w' ⟨rfl, rfl⟩))
        go_quiet ((go_at_call 123; first | (refine quiet_left (fieldOk_v_at _ _ _ _ ?_); rfl) | (refine quiet_left (fieldOk_z_at _ _ _ _ ?_); rfl)))
        go_wp2_with (go_at_call 124; refine (weightsOk_any _ _ _ _).mono ?_; rintro e w1 ⟨rfl, hb⟩)
        go_ret
        exact ⟨rfl, (below_drewN ((Below.refl _ _).alloc (Nat.le_refl _) _) _).trans (hb.mono (by simp))⟩

set_option maxHeartbeats 1000000 in
theorem StmtOk_5 (a b c u v x : Int) (w : World) :
    Calls Try.prog 112 #[.agg #[.int .i64 5, .int .i64 a, .int .i64 b, .int .i64 c, .int .i64 u, .int .i64 v, .int .i64 x]] w fun e w' => e = .returned (.bool (inB a 0 3 && oB b a && zB c && wOk u v x)) ∧ Below w.heap.size w w' := by
  have hin : inB 5 0 7 = true := rfl
  cases h1 : inB a 0 3
  · go_enter Try.func112, Try.ntmps112
    go_wp2_with (first | (go_at_call 81; refine (within_any _ _ _ _).mono ?_; rintro e w' ⟨rfl, rfl⟩) | (go_at_call 122; refine (kindCode_5 _).mono ?_; rintro e w' ⟨rfl, rfl⟩))
    go_quiet ((go_at_call 123; first | (refine quiet_left (fieldOk_v_at _ _ _ _ ?_); rfl) | (refine quiet_left (fieldOk_o_at _ _ _ _ ?_); rfl) | (refine quiet_left (fieldOk_z_at _ _ _ _ ?_); rfl)))
    go_wp2
    go_ret
    exact ⟨rfl, below_drewN ((Below.refl _ _).alloc (Nat.le_refl _) _) _⟩

  · cases h2 : oB b a
    · go_enter Try.func112, Try.ntmps112
      go_wp2_with (first | (go_at_call 81; refine (within_any _ _ _ _).mono ?_; rintro e w' ⟨rfl, rfl⟩) | (go_at_call 122; refine (kindCode_5 _).mono ?_; rintro e w' ⟨rfl, rfl⟩))
      go_quiet ((go_at_call 123; first | (refine quiet_left (fieldOk_v_at _ _ _ _ ?_); rfl) | (refine quiet_left (fieldOk_o_at _ _ _ _ ?_); rfl) | (refine quiet_left (fieldOk_z_at _ _ _ _ ?_); rfl)))
      go_wp2
      go_ret
      exact ⟨rfl, below_drewN ((Below.refl _ _).alloc (Nat.le_refl _) _) _⟩

    · cases h3 : zB c
      · go_enter Try.func112, Try.ntmps112
        go_wp2_with (first | (go_at_call 81; refine (within_any _ _ _ _).mono ?_; rintro e w' ⟨rfl, rfl⟩) | (go_at_call 122; refine (kindCode_5 _).mono ?_; rintro e w' ⟨rfl, rfl⟩))
        go_quiet ((go_at_call 123; first | (refine quiet_left (fieldOk_v_at _ _ _ _ ?_); rfl) | (refine quiet_left (fieldOk_o_at _ _ _ _ ?_); rfl) | (refine quiet_left (fieldOk_z_at _ _ _ _ ?_); rfl)))
        go_wp2
        go_ret
        exact ⟨rfl, below_drewN ((Below.refl _ _).alloc (Nat.le_refl _) _) _⟩

      · go_enter Try.func112, Try.ntmps112
        go_wp2_with (first | (go_at_call 81; refine (within_any _ _ _ _).mono ?_; rintro e w' ⟨rfl, rfl⟩) | (go_at_call 122; refine (kindCode_5 _).mono ?_; rintro e w' ⟨rfl, rfl⟩))
        go_quiet ((go_at_call 123; first | (refine quiet_left (fieldOk_v_at _ _ _ _ ?_); rfl) | (refine quiet_left (fieldOk_o_at _ _ _ _ ?_); rfl) | (refine quiet_left (fieldOk_z_at _ _ _ _ ?_); rfl)))
        go_wp2_with (go_at_call 124; refine (weightsOk_any _ _ _ _).mono ?_; rintro e w1 ⟨rfl, hb⟩)
        go_ret
        exact ⟨rfl, (below_drewN ((Below.refl _ _).alloc (Nat.le_refl _) _) _).trans (hb.mono (by simp))⟩

set_option maxHeartbeats 1000000 in
theorem StmtOk_6 (a b c u v x : Int) (w : World) :
    Calls Try.prog 112 #[.agg #[.int .i64 6, .int .i64 a, .int .i64 b, .int .i64 c, .int .i64 u, .int .i64 v, .int .i64 x]] w fun e w' => e = .returned (.bool (inB a 0 3 && inB b 1 12 && inB c 0 2 && wZero u v x)) ∧ Below w.heap.size w w' := by
  have hin : inB 6 0 7 = true := rfl
  cases h1 : inB a 0 3
  · go_enter Try.func112, Try.ntmps112
    go_wp2_with (first | (go_at_call 81; refine (within_any _ _ _ _).mono ?_; rintro e w' ⟨rfl, rfl⟩) | (go_at_call 122; refine (kindCode_6 _).mono ?_; rintro e w' ⟨rfl, rfl⟩))
    go_quiet ((go_at_call 123; first | (refine quiet_left (fieldOk_v_at _ _ _ _ ?_); rfl) | (refine quiet_left (fieldOk_k_at _ _ _ _ ?_); rfl) | (refine quiet_left (fieldOk_c_at _ _ _ _ ?_); rfl)))
    go_wp2
    go_ret
    exact ⟨rfl, below_drewN ((Below.refl _ _).alloc (Nat.le_refl _) _) _⟩

  · cases h2 : inB b 1 12
    · go_enter Try.func112, Try.ntmps112
      go_wp2_with (first | (go_at_call 81; refine (within_any _ _ _ _).mono ?_; rintro e w' ⟨rfl, rfl⟩) | (go_at_call 122; refine (kindCode_6 _).mono ?_; rintro e w' ⟨rfl, rfl⟩))
      go_quiet ((go_at_call 123; first | (refine quiet_left (fieldOk_v_at _ _ _ _ ?_); rfl) | (refine quiet_left (fieldOk_k_at _ _ _ _ ?_); rfl) | (refine quiet_left (fieldOk_c_at _ _ _ _ ?_); rfl)))
      go_wp2
      go_ret
      exact ⟨rfl, below_drewN ((Below.refl _ _).alloc (Nat.le_refl _) _) _⟩

    · cases h3 : inB c 0 2
      · go_enter Try.func112, Try.ntmps112
        go_wp2_with (first | (go_at_call 81; refine (within_any _ _ _ _).mono ?_; rintro e w' ⟨rfl, rfl⟩) | (go_at_call 122; refine (kindCode_6 _).mono ?_; rintro e w' ⟨rfl, rfl⟩))
        go_quiet ((go_at_call 123; first | (refine quiet_left (fieldOk_v_at _ _ _ _ ?_); rfl) | (refine quiet_left (fieldOk_k_at _ _ _ _ ?_); rfl) | (refine quiet_left (fieldOk_c_at _ _ _ _ ?_); rfl)))
        go_wp2
        go_ret
        exact ⟨rfl, below_drewN ((Below.refl _ _).alloc (Nat.le_refl _) _) _⟩

      · go_enter Try.func112, Try.ntmps112
        go_wp2_with (first | (go_at_call 81; refine (within_any _ _ _ _).mono ?_; rintro e w' ⟨rfl, rfl⟩) | (go_at_call 122; refine (kindCode_6 _).mono ?_; rintro e w' ⟨rfl, rfl⟩))
        go_quiet ((go_at_call 123; first | (refine quiet_left (fieldOk_v_at _ _ _ _ ?_); rfl) | (refine quiet_left (fieldOk_k_at _ _ _ _ ?_); rfl) | (refine quiet_left (fieldOk_c_at _ _ _ _ ?_); rfl)))
        go_wp2
        go_ret
        exact ⟨rfl, below_drewN ((Below.refl _ _).alloc (Nat.le_refl _) _) _⟩

set_option maxHeartbeats 1000000 in
theorem StmtOk_7 (a b c u v x : Int) (w : World) :
    Calls Try.prog 112 #[.agg #[.int .i64 7, .int .i64 a, .int .i64 b, .int .i64 c, .int .i64 u, .int .i64 v, .int .i64 x]] w fun e w' => e = .returned (.bool (zB a && inB b 1 10 && inB c 0 3 && wZero u v x)) ∧ Below w.heap.size w w' := by
  have hin : inB 7 0 7 = true := rfl
  cases h1 : zB a
  · go_enter Try.func112, Try.ntmps112
    go_wp2_with (first | (go_at_call 81; refine (within_any _ _ _ _).mono ?_; rintro e w' ⟨rfl, rfl⟩) | (go_at_call 122; refine (kindCode_7 _).mono ?_; rintro e w' ⟨rfl, rfl⟩))
    go_quiet ((go_at_call 123; first | (refine quiet_left (fieldOk_z_at _ _ _ _ ?_); rfl) | (refine quiet_left (fieldOk_m_at _ _ _ _ ?_); rfl) | (refine quiet_left (fieldOk_t_at _ _ _ _ ?_); rfl)))
    go_wp2
    go_ret
    exact ⟨rfl, below_drewN ((Below.refl _ _).alloc (Nat.le_refl _) _) _⟩

  · cases h2 : inB b 1 10
    · go_enter Try.func112, Try.ntmps112
      go_wp2_with (first | (go_at_call 81; refine (within_any _ _ _ _).mono ?_; rintro e w' ⟨rfl, rfl⟩) | (go_at_call 122; refine (kindCode_7 _).mono ?_; rintro e w' ⟨rfl, rfl⟩))
      go_quiet ((go_at_call 123; first | (refine quiet_left (fieldOk_z_at _ _ _ _ ?_); rfl) | (refine quiet_left (fieldOk_m_at _ _ _ _ ?_); rfl) | (refine quiet_left (fieldOk_t_at _ _ _ _ ?_); rfl)))
      go_wp2
      go_ret
      exact ⟨rfl, below_drewN ((Below.refl _ _).alloc (Nat.le_refl _) _) _⟩

    · cases h3 : inB c 0 3
      · go_enter Try.func112, Try.ntmps112
        go_wp2_with (first | (go_at_call 81; refine (within_any _ _ _ _).mono ?_; rintro e w' ⟨rfl, rfl⟩) | (go_at_call 122; refine (kindCode_7 _).mono ?_; rintro e w' ⟨rfl, rfl⟩))
        go_quiet ((go_at_call 123; first | (refine quiet_left (fieldOk_z_at _ _ _ _ ?_); rfl) | (refine quiet_left (fieldOk_m_at _ _ _ _ ?_); rfl) | (refine quiet_left (fieldOk_t_at _ _ _ _ ?_); rfl)))
        go_wp2
        go_ret
        exact ⟨rfl, below_drewN ((Below.refl _ _).alloc (Nat.le_refl _) _) _⟩

      · go_enter Try.func112, Try.ntmps112
        go_wp2_with (first | (go_at_call 81; refine (within_any _ _ _ _).mono ?_; rintro e w' ⟨rfl, rfl⟩) | (go_at_call 122; refine (kindCode_7 _).mono ?_; rintro e w' ⟨rfl, rfl⟩))
        go_quiet ((go_at_call 123; first | (refine quiet_left (fieldOk_z_at _ _ _ _ ?_); rfl) | (refine quiet_left (fieldOk_m_at _ _ _ _ ?_); rfl) | (refine quiet_left (fieldOk_t_at _ _ _ _ ?_); rfl)))
        go_wp2
        go_ret
        exact ⟨rfl, below_drewN ((Below.refl _ _).alloc (Nat.le_refl _) _) _⟩

theorem StmtOk_far (k a b c u v x : Int) (h : ¬ (0 ≤ k ∧ k ≤ 7)) (w : World) :
    Calls Try.prog 112 #[.agg #[.int .i64 k, .int .i64 a, .int .i64 b, .int .i64 c, .int .i64 u, .int .i64 v, .int .i64 x]] w fun e w' => e = .returned (.bool false) ∧ Below w.heap.size w w' := by
  have hin : inB k 0 7 = false := inB_no h
  clear h
  go_enter Try.func112, Try.ntmps112
  go_wp2_with (first | (go_at_call 81; refine (within_any _ _ _ _).mono ?_; rintro e w' ⟨rfl, rfl⟩))
  go_ret
  exact ⟨rfl, (Below.refl _ _).alloc (Nat.le_refl _) _⟩

end Go.Proofs.Ytjokiminlplbcaa
