/- What may stand in a field, byte by byte of a kind's code. -/
import Derived.Test.YtjokiminlplbcaaStW
import Derived.Deep.Light
namespace Go.Proofs.Ytjokiminlplbcaa
set_option maxRecDepth 100000
open Go.RowKit

/-- another variable than a -/
def oB (n a : Int) : Bool := inB n 0 3 && !(n == a)

theorem fieldOk_v (n a : Int) (w : World) :
    Calls Try.prog 123 #[.int .u8 118, .int .i64 n, .int .i64 a] w fun e w' => e = .returned (.bool (inB n 0 3)) ∧ w = w' := by
  go_enter Try.func123, Try.ntmps123
  go_wp2_with (first | (go_at_call 113; refine (varOk_any _ _).mono ?_; rintro e w' ⟨rfl, rfl⟩) | (go_at_call 67; refine (valueOk_any _ _).mono ?_; rintro e w' ⟨rfl, rfl⟩) | (go_at_call 81; refine (within_any _ _ _ _).mono ?_; rintro e w' ⟨rfl, rfl⟩))
  all_goals
    go_ret
    refine ⟨ret_bool ?_, rfl⟩
    go_light
    first | rfl | (simp_all; done)

theorem fieldOk_o (n a : Int) (w : World) :
    Calls Try.prog 123 #[.int .u8 111, .int .i64 n, .int .i64 a] w fun e w' => e = .returned (.bool (oB n a)) ∧ w = w' := by
  go_enter Try.func123, Try.ntmps123
  go_wp2_with (first | (go_at_call 113; refine (varOk_any _ _).mono ?_; rintro e w' ⟨rfl, rfl⟩) | (go_at_call 67; refine (valueOk_any _ _).mono ?_; rintro e w' ⟨rfl, rfl⟩) | (go_at_call 81; refine (within_any _ _ _ _).mono ?_; rintro e w' ⟨rfl, rfl⟩))
  all_goals
    go_ret
    refine ⟨ret_bool ?_, rfl⟩
    go_light
    first | (simp_all [bne, oB]; done)

theorem fieldOk_p (n a : Int) (w : World) :
    Calls Try.prog 123 #[.int .u8 112, .int .i64 n, .int .i64 a] w fun e w' => e = .returned (.bool (inB n (-1) 3)) ∧ w = w' := by
  have hp : inB n (-1) 3 = (n == -1 || inB n 0 3) := by
    rw [Bool.eq_iff_iff]; simp [inB]; omega
  have hP := Lib.hid hp
  clear hp
  go_enter Try.func123, Try.ntmps123
  go_wp2_with (first | (go_at_call 113; refine (varOk_any _ _).mono ?_; rintro e w' ⟨rfl, rfl⟩) | (go_at_call 67; refine (valueOk_any _ _).mono ?_; rintro e w' ⟨rfl, rfl⟩) | (go_at_call 81; refine (within_any _ _ _ _).mono ?_; rintro e w' ⟨rfl, rfl⟩))
  all_goals
    go_ret
    refine ⟨ret_bool ?_, rfl⟩
    go_light
    first | (rw [hP.out]; done) | (rw [hP.out]; simp_all; done)

theorem fieldOk_c (n a : Int) (w : World) :
    Calls Try.prog 123 #[.int .u8 99, .int .i64 n, .int .i64 a] w fun e w' => e = .returned (.bool (inB n 0 2)) ∧ w = w' := by
  go_enter Try.func123, Try.ntmps123
  go_wp2_with (first | (go_at_call 113; refine (varOk_any _ _).mono ?_; rintro e w' ⟨rfl, rfl⟩) | (go_at_call 67; refine (valueOk_any _ _).mono ?_; rintro e w' ⟨rfl, rfl⟩) | (go_at_call 81; refine (within_any _ _ _ _).mono ?_; rintro e w' ⟨rfl, rfl⟩))
  all_goals
    go_ret
    refine ⟨ret_bool ?_, rfl⟩
    go_light
    first | rfl | (simp_all; done)

theorem fieldOk_k (n a : Int) (w : World) :
    Calls Try.prog 123 #[.int .u8 107, .int .i64 n, .int .i64 a] w fun e w' => e = .returned (.bool (inB n 1 12)) ∧ w = w' := by
  go_enter Try.func123, Try.ntmps123
  go_wp2_with (first | (go_at_call 113; refine (varOk_any _ _).mono ?_; rintro e w' ⟨rfl, rfl⟩) | (go_at_call 67; refine (valueOk_any _ _).mono ?_; rintro e w' ⟨rfl, rfl⟩) | (go_at_call 81; refine (within_any _ _ _ _).mono ?_; rintro e w' ⟨rfl, rfl⟩))
  all_goals
    go_ret
    refine ⟨ret_bool ?_, rfl⟩
    go_light
    first | rfl | (simp_all; done)

theorem fieldOk_m (n a : Int) (w : World) :
    Calls Try.prog 123 #[.int .u8 109, .int .i64 n, .int .i64 a] w fun e w' => e = .returned (.bool (inB n 1 10)) ∧ w = w' := by
  go_enter Try.func123, Try.ntmps123
  go_wp2_with (first | (go_at_call 113; refine (varOk_any _ _).mono ?_; rintro e w' ⟨rfl, rfl⟩) | (go_at_call 67; refine (valueOk_any _ _).mono ?_; rintro e w' ⟨rfl, rfl⟩) | (go_at_call 81; refine (within_any _ _ _ _).mono ?_; rintro e w' ⟨rfl, rfl⟩))
  all_goals
    go_ret
    refine ⟨ret_bool ?_, rfl⟩
    go_light
    first | rfl | (simp_all; done)

theorem fieldOk_t (n a : Int) (w : World) :
    Calls Try.prog 123 #[.int .u8 116, .int .i64 n, .int .i64 a] w fun e w' => e = .returned (.bool (inB n 0 3)) ∧ w = w' := by
  go_enter Try.func123, Try.ntmps123
  go_wp2_with (first | (go_at_call 113; refine (varOk_any _ _).mono ?_; rintro e w' ⟨rfl, rfl⟩) | (go_at_call 67; refine (valueOk_any _ _).mono ?_; rintro e w' ⟨rfl, rfl⟩) | (go_at_call 81; refine (within_any _ _ _ _).mono ?_; rintro e w' ⟨rfl, rfl⟩))
  all_goals
    go_ret
    refine ⟨ret_bool ?_, rfl⟩
    go_light
    first | rfl | (simp_all; done)

def zB (n : Int) : Bool := n == 0

theorem fieldOk_z (n a : Int) (w : World) :
    Calls Try.prog 123 #[.int .u8 48, .int .i64 n, .int .i64 a] w fun e w' => e = .returned (.bool (zB n)) ∧ w = w' := by
  go_enter Try.func123, Try.ntmps123
  go_wp2_with (first | (go_at_call 113; refine (varOk_any _ _).mono ?_; rintro e w' ⟨rfl, rfl⟩) | (go_at_call 67; refine (valueOk_any _ _).mono ?_; rintro e w' ⟨rfl, rfl⟩) | (go_at_call 81; refine (within_any _ _ _ _).mono ?_; rintro e w' ⟨rfl, rfl⟩))
  all_goals
    go_ret
    refine ⟨ret_bool ?_, rfl⟩
    go_light
    first | rfl | (simp_all; done)

theorem fieldOk_v_at (cd n a : Int) (w : World) (h : cd = 118) :
    Calls Try.prog 123 #[.int .u8 cd, .int .i64 n, .int .i64 a] w fun e w' => e = .returned (.bool (inB n 0 3)) ∧ w = w' := by
  subst h; exact fieldOk_v n a w

theorem fieldOk_o_at (cd n a : Int) (w : World) (h : cd = 111) :
    Calls Try.prog 123 #[.int .u8 cd, .int .i64 n, .int .i64 a] w fun e w' => e = .returned (.bool (oB n a)) ∧ w = w' := by
  subst h; exact fieldOk_o n a w

theorem fieldOk_p_at (cd n a : Int) (w : World) (h : cd = 112) :
    Calls Try.prog 123 #[.int .u8 cd, .int .i64 n, .int .i64 a] w fun e w' => e = .returned (.bool (inB n (-1) 3)) ∧ w = w' := by
  subst h; exact fieldOk_p n a w

theorem fieldOk_c_at (cd n a : Int) (w : World) (h : cd = 99) :
    Calls Try.prog 123 #[.int .u8 cd, .int .i64 n, .int .i64 a] w fun e w' => e = .returned (.bool (inB n 0 2)) ∧ w = w' := by
  subst h; exact fieldOk_c n a w

theorem fieldOk_k_at (cd n a : Int) (w : World) (h : cd = 107) :
    Calls Try.prog 123 #[.int .u8 cd, .int .i64 n, .int .i64 a] w fun e w' => e = .returned (.bool (inB n 1 12)) ∧ w = w' := by
  subst h; exact fieldOk_k n a w

theorem fieldOk_m_at (cd n a : Int) (w : World) (h : cd = 109) :
    Calls Try.prog 123 #[.int .u8 cd, .int .i64 n, .int .i64 a] w fun e w' => e = .returned (.bool (inB n 1 10)) ∧ w = w' := by
  subst h; exact fieldOk_m n a w

theorem fieldOk_t_at (cd n a : Int) (w : World) (h : cd = 116) :
    Calls Try.prog 123 #[.int .u8 cd, .int .i64 n, .int .i64 a] w fun e w' => e = .returned (.bool (inB n 0 3)) ∧ w = w' := by
  subst h; exact fieldOk_t n a w

theorem fieldOk_z_at (cd n a : Int) (w : World) (h : cd = 48) :
    Calls Try.prog 123 #[.int .u8 cd, .int .i64 n, .int .i64 a] w fun e w' => e = .returned (.bool (zB n)) ∧ w = w' := by
  subst h; exact fieldOk_z n a w

end Go.Proofs.Ytjokiminlplbcaa
