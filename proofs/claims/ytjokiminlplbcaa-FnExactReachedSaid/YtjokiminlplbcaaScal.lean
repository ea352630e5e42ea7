/- Contracts of the functions of chapter 1 over plain numbers: what they return; they leave the world as it is. -/
import Derived.Test.YtjokiminlplbcaaChecked
import Derived.WalkKit
import Derived.LoopTactic
import Derived.Lib.Hide
import Derived.BigQuiet
import Derived.Deep.QuietTactic
import Derived.Outline
namespace Go.Proofs.Ytjokiminlplbcaa
set_option maxRecDepth 100000
open Go.RowKit

theorem ret_bool {a b : Bool} (h : b = a) : Ending.returned (.bool a) = .returned (.bool b) := by rw [h]
theorem ret_int {k : IntKind} {a b : Int} (h : b = a) : Ending.returned (.int k a) = .returned (.int k b) := by rw [h]

/-- low ≤ n ≤ high -/
def inB (n lo hi : Int) : Bool := decide (lo ≤ n) && decide (n ≤ hi)
theorem inB_iff {n lo hi : Int} : inB n lo hi = true ↔ lo ≤ n ∧ n ≤ hi := by simp [inB]
theorem inB_not {n lo hi : Int} : inB n lo hi = false ↔ ¬ (lo ≤ n ∧ n ≤ hi) := by rw [← inB_iff]; cases inB n lo hi <;> simp
theorem inB_yes {n lo hi : Int} (h : lo ≤ n ∧ n ≤ hi) : inB n lo hi = true := inB_iff.2 h
theorem inB_no {n lo hi : Int} (h : ¬ (lo ≤ n ∧ n ≤ hi)) : inB n lo hi = false := inB_not.2 h
theorem inB_cases (n lo hi : Int) : (lo ≤ n ∧ n ≤ hi ∧ inB n lo hi = true) ∨ ((n < lo ∨ (lo ≤ n ∧ hi < n)) ∧ inB n lo hi = false) := by
  by_cases h : lo ≤ n ∧ n ≤ hi
  · exact .inl ⟨h.1, h.2, inB_yes h⟩
  · exact .inr ⟨by omega, inB_no h⟩

/-- 3 to the power of a number -/
def p3 : Nat → Int
  | 0 => 1
  | k + 1 => p3 k * 3

/-- the value of a variable in a state, or -1 -/
def valueAt (s v : Int) : Int := if inB s 0 80 = true ∧ inB v 0 3 = true then s / p3 v.toNat % 3 else -1
/-- the state with another value of a variable, or -1 -/
def withValue (s v x : Int) : Int := if inB s 0 80 = true ∧ inB v 0 3 = true ∧ inB x 0 2 = true then s + (x - s / p3 v.toNat % 3) * p3 v.toNat else -1

theorem valueAt_yes {s v : Int} {k : Nat} (h0 : 0 ≤ s) (h1 : s ≤ 80) (hk : v = k) (h3 : k ≤ 3) : valueAt s v = s / p3 k % 3 := by
  subst hk
  unfold valueAt
  rw [if_pos ⟨inB_yes ⟨h0, h1⟩, inB_yes ⟨by omega, by omega⟩⟩]; rfl
theorem valueAt_no1 {s v : Int} (h : inB s 0 80 = false) : valueAt s v = -1 := by unfold valueAt; rw [if_neg]; simp [h]
theorem valueAt_no2 {s v : Int} (h : inB v 0 3 = false) : valueAt s v = -1 := by unfold valueAt; rw [if_neg]; simp [h]
theorem withValue_yes {s v x : Int} {k : Nat} (h0 : 0 ≤ s) (h1 : s ≤ 80) (hk : v = k) (h3 : k ≤ 3) (hx0 : 0 ≤ x) (hx1 : x ≤ 2) : withValue s v x = s + (x - s / p3 k % 3) * p3 k := by
  subst hk
  unfold withValue
  rw [if_pos ⟨inB_yes ⟨h0, h1⟩, inB_yes ⟨by omega, by omega⟩, inB_yes ⟨hx0, hx1⟩⟩]; rfl
theorem withValue_no1 {s v x : Int} (h : inB s 0 80 = false) : withValue s v x = -1 := by unfold withValue; rw [if_neg]; simp [h]
theorem withValue_no2 {s v x : Int} (h : inB v 0 3 = false) : withValue s v x = -1 := by unfold withValue; rw [if_neg]; simp [h]
theorem withValue_no3 {s v x : Int} (h : inB x 0 2 = false) : withValue s v x = -1 := by unfold withValue; rw [if_neg]; simp [h]

theorem within_any (n lo hi : Int) (w : World) :
    Calls Try.prog 81 #[.int .i64 n, .int .i64 lo, .int .i64 hi] w fun e w' => e = .returned (.bool (inB n lo hi)) ∧ w = w' := by
  rcases inB_cases n lo hi with ⟨h1, h2, hr⟩ | ⟨h1 | ⟨h1, h2⟩, hr⟩
  all_goals
    have hR := Lib.hid hr
    clear hr
    go_enter Try.func81, Try.ntmps81
    go_wp2
    go_ret
    first | exact ⟨ret_bool hR.out, rfl⟩ | exact ⟨ret_bool (hR.out.trans (by simp; omega)), rfl⟩

theorem l1In_any (n lo hi : Int) (w : World) :
    Calls Try.prog 72 #[.int .i64 n, .int .i64 lo, .int .i64 hi] w fun e w' => e = .returned (.bool (inB n lo hi)) ∧ w = w' := by
  rcases inB_cases n lo hi with ⟨h1, h2, hr⟩ | ⟨h1 | ⟨h1, h2⟩, hr⟩
  all_goals
    have hR := Lib.hid hr
    clear hr
    go_enter Try.func72, Try.ntmps72
    go_wp2
    go_ret
    first | exact ⟨ret_bool hR.out, rfl⟩ | exact ⟨ret_bool (hR.out.trans (by simp; omega)), rfl⟩

theorem varOk_any (n : Int) (w : World) :
    Calls Try.prog 113 #[.int .i64 n] w fun e w' => e = .returned (.bool (inB n 0 3)) ∧ w = w' := by
  go_enter Try.func113, Try.ntmps113
  go_wp2_with (go_at_call 81; refine (within_any _ _ _ _).mono ?_; rintro e w' ⟨rfl, rfl⟩)
  go_ret
  exact ⟨rfl, rfl⟩

theorem valueOk_any (n : Int) (w : World) :
    Calls Try.prog 67 #[.int .i64 n] w fun e w' => e = .returned (.bool (inB n 0 2)) ∧ w = w' := by
  go_enter Try.func67, Try.ntmps67
  go_wp2_with (go_at_call 81; refine (within_any _ _ _ _).mono ?_; rintro e w' ⟨rfl, rfl⟩)
  go_ret
  exact ⟨rfl, rfl⟩

theorem l1Var_any (n : Int) (w : World) :
    Calls Try.prog 111 #[.int .i64 n] w fun e w' => e = .returned (.bool (inB n 0 3)) ∧ w = w' := by
  go_enter Try.func111, Try.ntmps111
  go_wp2_with (go_at_call 72; refine (l1In_any _ _ _ _).mono ?_; rintro e w' ⟨rfl, rfl⟩)
  go_ret
  exact ⟨rfl, rfl⟩

theorem p3_bd (k : Nat) (h : k ≤ 2) : 1 ≤ p3 k ∧ p3 k ≤ 9 := by
  obtain rfl | rfl | rfl : k = 0 ∨ k = 1 ∨ k = 2 := by omega
  all_goals decide

theorem l1Power_any (n : Nat) (h : n ≤ 3) (w : World) :
    Calls Try.prog 116 #[.int .i64 n] w fun e w' => e = .returned (.int .i64 (p3 n)) ∧ w = w' := by
  go_enter Try.func116, Try.ntmps116
  go_wp2
  go_loop [3, 4] (fun o i => ∃ k : Nat, k ≤ n ∧ i = .int .i64 k ∧ o = .int .i64 (p3 k)) (fun _ i => n - (intOf i).toNat)
  case atStart => exact ⟨0, Nat.zero_le _, rfl, rfl⟩
  case round =>
    obtain ⟨k, hk, rfl, rfl⟩ := hrel
    by_cases hlt : k < n
    · have hb := p3_bd k (by omega)
      go_wp2
      go_round
      case rel => exact ⟨k + 1, by omega, by go_num, rfl⟩
      case measure => simp [intOf]; omega
    · obtain rfl : k = n := by omega
      go_wp2
      go_ret
      exact ⟨rfl, rfl⟩

theorem placeOf_any (n : Nat) (h : n ≤ 3) (w : World) :
    Calls Try.prog 114 #[.int .i64 n] w fun e w' => e = .returned (.int .i64 (p3 n)) ∧ w = w' := by
  obtain rfl | rfl | rfl | rfl : n = 0 ∨ n = 1 ∨ n = 2 ∨ n = 3 := by omega
  all_goals
    go_enter Try.func114, Try.ntmps114
    go_wp2
    go_ret
    exact ⟨rfl, rfl⟩

theorem nat4 {v : Int} (h0 : 0 ≤ v) (h1 : v ≤ 3) : ∃ k : Nat, v = k ∧ k ≤ 3 := ⟨v.toNat, by omega, by omega⟩
theorem p3_bd3 (k : Nat) (h : k ≤ 3) : 1 ≤ p3 k ∧ p3 k ≤ 27 := by
  obtain rfl | rfl | rfl | rfl : k = 0 ∨ k = 1 ∨ k = 2 ∨ k = 3 := by omega
  all_goals decide

theorem ValueAt_any (s v : Int) (w : World) :
    Calls Try.prog 96 #[.int .i64 s, .int .i64 v] w fun e w' => e = .returned (.int .i64 (valueAt s v)) ∧ w = w' := by
  rcases inB_cases s 0 80 with ⟨h1, h2, hr⟩ | ⟨h1, hr⟩
  · rcases inB_cases v 0 3 with ⟨h3, h4, hr2⟩ | ⟨h3, hr2⟩
    · obtain ⟨k, hv, hk⟩ := nat4 h3 h4
      have hR := Lib.hid (valueAt_yes h1 h2 hv hk)
      subst hv
      have hb := p3_bd3 k hk
      have hq : 0 ≤ s / p3 k := Int.ediv_nonneg h1 (by omega)
      go_enter Try.func96, Try.ntmps96
      go_wp2_with (first | (go_at_call 81; refine (within_any _ _ _ _).mono ?_; rintro e w' ⟨rfl, rfl⟩) | (go_at_call 113; refine (varOk_any _ _).mono ?_; rintro e w' ⟨rfl, rfl⟩) | (go_at_call 114; refine (placeOf_any k hk _).mono ?_; rintro e w' ⟨rfl, rfl⟩))
      go_ret
      exact ⟨ret_int hR.out, rfl⟩
    · have hR := Lib.hid (valueAt_no2 (s := s) hr2)
      go_enter Try.func96, Try.ntmps96
      go_wp2_with (first | (go_at_call 81; refine (within_any _ _ _ _).mono ?_; rintro e w' ⟨rfl, rfl⟩) | (go_at_call 113; refine (varOk_any _ _).mono ?_; rintro e w' ⟨rfl, rfl⟩))
      go_ret
      exact ⟨ret_int hR.out, rfl⟩
  · have hR := Lib.hid (valueAt_no1 (v := v) hr)
    go_enter Try.func96, Try.ntmps96
    go_wp2_with (first | (go_at_call 81; refine (within_any _ _ _ _).mono ?_; rintro e w' ⟨rfl, rfl⟩) | (go_at_call 113; refine (varOk_any _ _).mono ?_; rintro e w' ⟨rfl, rfl⟩))
    go_ret
    exact ⟨ret_int hR.out, rfl⟩

theorem l1At_any (s : Int) (k : Nat) (h1 : 0 ≤ s) (h2 : s ≤ 80) (hk : k ≤ 3) (w : World) :
    Calls Try.prog 99 #[.int .i64 s, .int .i64 k] w fun e w' => e = .returned (.int .i64 (s / p3 k % 3)) ∧ w = w' := by
  have hb := p3_bd3 k hk
  have hq : 0 ≤ s / p3 k := Int.ediv_nonneg h1 (by omega)
  go_enter Try.func99, Try.ntmps99
  go_wp2_with (go_at_call 116; refine (l1Power_any k hk _).mono ?_; rintro e w' ⟨rfl, rfl⟩)
  go_ret
  exact ⟨rfl, rfl⟩

theorem l1With_any (s x : Int) (k : Nat) (h1 : 0 ≤ s) (h2 : s ≤ 80) (hk : k ≤ 3) (h3 : 0 ≤ x) (h4 : x ≤ 2) (w : World) :
    Calls Try.prog 100 #[.int .i64 s, .int .i64 k, .int .i64 x] w fun e w' => e = .returned (.int .i64 (s + (x - s / p3 k % 3) * p3 k)) ∧ w = w' := by
  have hm : 0 ≤ s / p3 k % 3 ∧ s / p3 k % 3 ≤ 2 := by omega
  obtain ⟨m, hm'⟩ : ∃ m, m = s / p3 k % 3 := ⟨_, rfl⟩
  rw [← hm'] at hm ⊢
  have hM := Lib.hid hm'
  clear hm'
  have hz : -54 ≤ (x - m) * p3 k ∧ (x - m) * p3 k ≤ 54 := by
    obtain rfl | rfl | rfl | rfl : k = 0 ∨ k = 1 ∨ k = 2 ∨ k = 3 := by omega
    all_goals simp only [p3]; omega
  go_enter Try.func100, Try.ntmps100
  go_wp2_with (first | (go_at_call 99; refine (l1At_any s k h1 h2 hk _).mono ?_; rw [← hM.out]; rintro e w' ⟨rfl, rfl⟩) | (go_at_call 116; refine (l1Power_any k hk _).mono ?_; rintro e w' ⟨rfl, rfl⟩))
  go_ret
  exact ⟨rfl, rfl⟩

theorem valueAt_bd (s v : Int) : -1 ≤ valueAt s v ∧ valueAt s v ≤ 2 := by unfold valueAt; split <;> omega

theorem WithValue_any (s v x : Int) (w : World) :
    Calls Try.prog 115 #[.int .i64 s, .int .i64 v, .int .i64 x] w fun e w' => e = .returned (.int .i64 (withValue s v x)) ∧ w = w' := by
  by_cases hs : inB s 0 80 = true ∧ inB v 0 3 = true
  · obtain ⟨h1, h2⟩ := inB_iff.1 hs.1
    obtain ⟨h3, h4⟩ := inB_iff.1 hs.2
    obtain ⟨k, hv, hk⟩ := nat4 h3 h4
    have hva := valueAt_yes h1 h2 hv hk
    rcases inB_cases x 0 2 with ⟨h5, h6, hr3⟩ | ⟨h5, hr3⟩
    · have hR := Lib.hid (withValue_yes h1 h2 hv hk h5 h6)
      have hM := Lib.hid hva
      have hm : 0 ≤ valueAt s v ∧ valueAt s v ≤ 2 := by omega
      clear hva hs
      generalize hg : valueAt s v = m at hM hm
      have hG := Lib.hid hg
      clear hg
      have hb := p3_bd3 k hk
      have hz : -54 ≤ (x - m) * p3 k ∧ (x - m) * p3 k ≤ 54 := by
        obtain rfl | rfl | rfl | rfl : k = 0 ∨ k = 1 ∨ k = 2 ∨ k = 3 := by omega
        all_goals simp only [p3]; omega
      have hX := Lib.hid hr3
      subst hv
      clear hr3
      go_enter Try.func115, Try.ntmps115
      go_wp2_with (first | (go_at_call 96; refine (ValueAt_any s k _).mono ?_; rw [hG.out]; rintro e w' ⟨rfl, rfl⟩) | (go_at_call 67; refine (valueOk_any _ _).mono ?_; rw [hX.out]; rintro e w' ⟨rfl, rfl⟩) | (go_at_call 114; refine (placeOf_any k hk _).mono ?_; rintro e w' ⟨rfl, rfl⟩))
      go_ret
      exact ⟨ret_int (by rw [hR.out, hM.out]), rfl⟩
    · have hR := Lib.hid (withValue_no3 (s := s) (v := v) hr3)
      have hm : 0 ≤ valueAt s v ∧ valueAt s v ≤ 2 := by omega
      clear hva hs
      generalize hg : valueAt s v = m at hm
      have hG := Lib.hid hg
      clear hg
      have hX := Lib.hid hr3
      clear hr3 hv
      go_enter Try.func115, Try.ntmps115
      go_wp2_with (first | (go_at_call 96; refine (ValueAt_any s v _).mono ?_; rw [hG.out]; rintro e w' ⟨rfl, rfl⟩) | (go_at_call 67; refine (valueOk_any _ _).mono ?_; rw [hX.out]; rintro e w' ⟨rfl, rfl⟩))
      go_ret
      exact ⟨ret_int hR.out, rfl⟩
  · have hR : withValue s v x = -1 := by unfold withValue; rw [if_neg]; exact fun h => hs ⟨h.1, h.2.1⟩
    have hG : valueAt s v = -1 := by unfold valueAt; rw [if_neg hs]
    have hR := Lib.hid hR
    have hG := Lib.hid hG
    clear hs
    go_enter Try.func115, Try.ntmps115
    go_wp2_with (first | (go_at_call 96; refine (ValueAt_any s v _).mono ?_; rw [hG.out]; rintro e w' ⟨rfl, rfl⟩))
    go_ret
    exact ⟨ret_int hR.out, rfl⟩

end Go.Proofs.Ytjokiminlplbcaa
