/- Contracts of the functions of chapter 1 over plain numbers: what they return; they leave the world as it is. Statements as seven numbers, and what the document's table says of them; plain functions. Contracts of the functions of chapter 1 over one statement. What may stand in a field, byte by byte of a kind's code. -/
import Derived.Test.YtbndonfpdioibaaChecked
import Derived.WalkKit
import Derived.LoopTactic
import Derived.Lib.Hide
import Derived.BigQuiet
import Derived.Deep.QuietTactic
import Derived.Outline
import Derived.WalkLawsBesides
import Derived.Laws.StructEq
import Derived.Deep.Light
namespace Go.Proofs.Ytbndonfpdioibaa
set_option maxRecDepth 100000
open Go.RowKit

theorem ret_bool {a b : Bool} (h : b = a) : Ending.returned (.bool a) = .returned (.bool b) := by rw [h]
theorem ret_int {k : IntKind} {a b : Int} (h : b = a) : Ending.returned (.int k a) = .returned (.int k b) := by rw [h]

/-- low ≤ n ≤ high -/
def inB (n lo hi : Int) : Bool := decide (lo ≤ n) && decide (n ≤ hi)
theorem inB_iff {n lo hi : Int} : inB n lo hi = true ↔ lo ≤ n ∧ n ≤ hi := by simp [inB]
theorem inB_not {n lo hi : Int} : inB n lo hi = false ↔ ¬ (lo ≤ n ∧ n ≤ hi) := by rw [← inB_iff]; cases inB n lo hi <;> simp
theorem inB_yes {n lo hi : Int} (h : lo ≤ n ∧ n ≤ hi) : inB n lo hi = true := inB_iff.2 h
theorem inB_no {n lo hi : Int} (h : ¬ (lo ≤ n ∧ n ≤ hi)) : inB n lo hi = false := inB_not.2 h
theorem inB_cases (n lo hi : Int) : (lo ≤ n ∧ n ≤ hi ∧ inB n lo hi = true) ∨ ((n < lo ∨ (lo ≤ n ∧ hi < n)) ∧ inB n lo hi = false) := by
  by_cases h : lo ≤ n ∧ n ≤ hi
  · exact .inl ⟨h.1, h.2, inB_yes h⟩
  · exact .inr ⟨by omega, inB_no h⟩

/-- 3 to the power of a number -/
def p3 : Nat → Int
  | 0 => 1
  | k + 1 => p3 k * 3

/-- the value of a variable in a state, or -1 -/
def valueAt (s v : Int) : Int := if inB s 0 80 = true ∧ inB v 0 3 = true then s / p3 v.toNat % 3 else -1
/-- the state with another value of a variable, or -1 -/
def withValue (s v x : Int) : Int := if inB s 0 80 = true ∧ inB v 0 3 = true ∧ inB x 0 2 = true then s + (x - s / p3 v.toNat % 3) * p3 v.toNat else -1

theorem valueAt_yes {s v : Int} {k : Nat} (h0 : 0 ≤ s) (h1 : s ≤ 80) (hk : v = k) (h3 : k ≤ 3) : valueAt s v = s / p3 k % 3 := by
  subst hk
  unfold valueAt
  rw [if_pos ⟨inB_yes ⟨h0, h1⟩, inB_yes ⟨by omega, by omega⟩⟩]; rfl
theorem valueAt_no1 {s v : Int} (h : inB s 0 80 = false) : valueAt s v = -1 := by unfold valueAt; rw [if_neg]; simp [h]
theorem valueAt_no2 {s v : Int} (h : inB v 0 3 = false) : valueAt s v = -1 := by unfold valueAt; rw [if_neg]; simp [h]
theorem withValue_yes {s v x : Int} {k : Nat} (h0 : 0 ≤ s) (h1 : s ≤ 80) (hk : v = k) (h3 : k ≤ 3) (hx0 : 0 ≤ x) (hx1 : x ≤ 2) : withValue s v x = s + (x - s / p3 k % 3) * p3 k := by
  subst hk
  unfold withValue
  rw [if_pos ⟨inB_yes ⟨h0, h1⟩, inB_yes ⟨by omega, by omega⟩, inB_yes ⟨hx0, hx1⟩⟩]; rfl
theorem withValue_no1 {s v x : Int} (h : inB s 0 80 = false) : withValue s v x = -1 := by unfold withValue; rw [if_neg]; simp [h]
theorem withValue_no2 {s v x : Int} (h : inB v 0 3 = false) : withValue s v x = -1 := by unfold withValue; rw [if_neg]; simp [h]
theorem withValue_no3 {s v x : Int} (h : inB x 0 2 = false) : withValue s v x = -1 := by unfold withValue; rw [if_neg]; simp [h]

theorem within_any (n lo hi : Int) (w : World) :
    Calls Try.prog 95 #[.int .i64 n, .int .i64 lo, .int .i64 hi] w fun e w' => e = .returned (.bool (inB n lo hi)) ∧ w = w' := by
  rcases inB_cases n lo hi with ⟨h1, h2, hr⟩ | ⟨h1 | ⟨h1, h2⟩, hr⟩
  all_goals
    have hR := Lib.hid hr
    clear hr
    go_enter Try.func95, Try.ntmps95
    go_wp2
    go_ret
    first | exact ⟨ret_bool hR.out, rfl⟩ | exact ⟨ret_bool (hR.out.trans (by simp; omega)), rfl⟩

theorem l1In_any (n lo hi : Int) (w : World) :
    Calls Try.prog 67 #[.int .i64 n, .int .i64 lo, .int .i64 hi] w fun e w' => e = .returned (.bool (inB n lo hi)) ∧ w = w' := by
  rcases inB_cases n lo hi with ⟨h1, h2, hr⟩ | ⟨h1 | ⟨h1, h2⟩, hr⟩
  all_goals
    have hR := Lib.hid hr
    clear hr
    go_enter Try.func67, Try.ntmps67
    go_wp2
    go_ret
    first | exact ⟨ret_bool hR.out, rfl⟩ | exact ⟨ret_bool (hR.out.trans (by simp; omega)), rfl⟩

theorem varOk_any (n : Int) (w : World) :
    Calls Try.prog 113 #[.int .i64 n] w fun e w' => e = .returned (.bool (inB n 0 3)) ∧ w = w' := by
  go_enter Try.func113, Try.ntmps113
  go_wp2_with (go_at_call 95; refine (within_any _ _ _ _).mono ?_; rintro e w' ⟨rfl, rfl⟩)
  go_ret
  exact ⟨rfl, rfl⟩

theorem valueOk_any (n : Int) (w : World) :
    Calls Try.prog 71 #[.int .i64 n] w fun e w' => e = .returned (.bool (inB n 0 2)) ∧ w = w' := by
  go_enter Try.func71, Try.ntmps71
  go_wp2_with (go_at_call 95; refine (within_any _ _ _ _).mono ?_; rintro e w' ⟨rfl, rfl⟩)
  go_ret
  exact ⟨rfl, rfl⟩

theorem l1Var_any (n : Int) (w : World) :
    Calls Try.prog 108 #[.int .i64 n] w fun e w' => e = .returned (.bool (inB n 0 3)) ∧ w = w' := by
  go_enter Try.func108, Try.ntmps108
  go_wp2_with (go_at_call 67; refine (l1In_any _ _ _ _).mono ?_; rintro e w' ⟨rfl, rfl⟩)
  go_ret
  exact ⟨rfl, rfl⟩

theorem p3_bd (k : Nat) (h : k ≤ 2) : 1 ≤ p3 k ∧ p3 k ≤ 9 := by
  obtain rfl | rfl | rfl : k = 0 ∨ k = 1 ∨ k = 2 := by omega
  all_goals decide

theorem l1Power_any (n : Nat) (h : n ≤ 3) (w : World) :
    Calls Try.prog 103 #[.int .i64 n] w fun e w' => e = .returned (.int .i64 (p3 n)) ∧ w = w' := by
  go_enter Try.func103, Try.ntmps103
  go_wp2
  go_loop [3, 4] (fun o i => ∃ k : Nat, k ≤ n ∧ i = .int .i64 k ∧ o = .int .i64 (p3 k)) (fun _ i => n - (intOf i).toNat)
  case atStart => exact ⟨0, Nat.zero_le _, rfl, rfl⟩
  case round =>
    obtain ⟨k, hk, rfl, rfl⟩ := hrel
    by_cases hlt : k < n
    · have hb := p3_bd k (by omega)
      go_wp2
      go_round
      case rel => exact ⟨k + 1, by omega, by go_num, rfl⟩
      case measure => simp [intOf]; omega
    · obtain rfl : k = n := by omega
      go_wp2
      go_ret
      exact ⟨rfl, rfl⟩

theorem placeOf_any (n : Nat) (h : n ≤ 3) (w : World) :
    Calls Try.prog 156 #[.int .i64 n] w fun e w' => e = .returned (.int .i64 (p3 n)) ∧ w = w' := by
  obtain rfl | rfl | rfl | rfl : n = 0 ∨ n = 1 ∨ n = 2 ∨ n = 3 := by omega
  all_goals
    go_enter Try.func156, Try.ntmps156
    go_wp2
    go_ret
    exact ⟨rfl, rfl⟩

theorem nat4 {v : Int} (h0 : 0 ≤ v) (h1 : v ≤ 3) : ∃ k : Nat, v = k ∧ k ≤ 3 := ⟨v.toNat, by omega, by omega⟩
theorem p3_bd3 (k : Nat) (h : k ≤ 3) : 1 ≤ p3 k ∧ p3 k ≤ 27 := by
  obtain rfl | rfl | rfl | rfl : k = 0 ∨ k = 1 ∨ k = 2 ∨ k = 3 := by omega
  all_goals decide

theorem ValueAt_any (s v : Int) (w : World) :
    Calls Try.prog 114 #[.int .i64 s, .int .i64 v] w fun e w' => e = .returned (.int .i64 (valueAt s v)) ∧ w = w' := by
  rcases inB_cases s 0 80 with ⟨h1, h2, hr⟩ | ⟨h1, hr⟩
  · rcases inB_cases v 0 3 with ⟨h3, h4, hr2⟩ | ⟨h3, hr2⟩
    · obtain ⟨k, hv, hk⟩ := nat4 h3 h4
      have hR := Lib.hid (valueAt_yes h1 h2 hv hk)
      subst hv
      have hb := p3_bd3 k hk
      have hq : 0 ≤ s / p3 k := Int.ediv_nonneg h1 (by omega)
      go_enter Try.func114, Try.ntmps114
      go_wp2_with (first | (go_at_call 95; refine (within_any _ _ _ _).mono ?_; rintro e w' ⟨rfl, rfl⟩) | (go_at_call 113; refine (varOk_any _ _).mono ?_; rintro e w' ⟨rfl, rfl⟩) | (go_at_call 156; refine (placeOf_any k hk _).mono ?_; rintro e w' ⟨rfl, rfl⟩))
      go_ret
      exact ⟨ret_int hR.out, rfl⟩
    · have hR := Lib.hid (valueAt_no2 (s := s) hr2)
      go_enter Try.func114, Try.ntmps114
      go_wp2_with (first | (go_at_call 95; refine (within_any _ _ _ _).mono ?_; rintro e w' ⟨rfl, rfl⟩) | (go_at_call 113; refine (varOk_any _ _).mono ?_; rintro e w' ⟨rfl, rfl⟩))
      go_ret
      exact ⟨ret_int hR.out, rfl⟩
  · have hR := Lib.hid (valueAt_no1 (v := v) hr)
    go_enter Try.func114, Try.ntmps114
    go_wp2_with (first | (go_at_call 95; refine (within_any _ _ _ _).mono ?_; rintro e w' ⟨rfl, rfl⟩) | (go_at_call 113; refine (varOk_any _ _).mono ?_; rintro e w' ⟨rfl, rfl⟩))
    go_ret
    exact ⟨ret_int hR.out, rfl⟩

theorem l1At_any (s : Int) (k : Nat) (h1 : 0 ≤ s) (h2 : s ≤ 80) (hk : k ≤ 3) (w : World) :
    Calls Try.prog 110 #[.int .i64 s, .int .i64 k] w fun e w' => e = .returned (.int .i64 (s / p3 k % 3)) ∧ w = w' := by
  have hb := p3_bd3 k hk
  have hq : 0 ≤ s / p3 k := Int.ediv_nonneg h1 (by omega)
  go_enter Try.func110, Try.ntmps110
  go_wp2_with (go_at_call 103; refine (l1Power_any k hk _).mono ?_; rintro e w' ⟨rfl, rfl⟩)
  go_ret
  exact ⟨rfl, rfl⟩

theorem l1With_any (s x : Int) (k : Nat) (h1 : 0 ≤ s) (h2 : s ≤ 80) (hk : k ≤ 3) (h3 : 0 ≤ x) (h4 : x ≤ 2) (w : World) :
    Calls Try.prog 120 #[.int .i64 s, .int .i64 k, .int .i64 x] w fun e w' => e = .returned (.int .i64 (s + (x - s / p3 k % 3) * p3 k)) ∧ w = w' := by
  have hm : 0 ≤ s / p3 k % 3 ∧ s / p3 k % 3 ≤ 2 := by omega
  obtain ⟨m, hm'⟩ : ∃ m, m = s / p3 k % 3 := ⟨_, rfl⟩
  rw [← hm'] at hm ⊢
  have hM := Lib.hid hm'
  clear hm'
  have hz : -54 ≤ (x - m) * p3 k ∧ (x - m) * p3 k ≤ 54 := by
    obtain rfl | rfl | rfl | rfl : k = 0 ∨ k = 1 ∨ k = 2 ∨ k = 3 := by omega
    all_goals simp only [p3]; omega
  go_enter Try.func120, Try.ntmps120
  go_wp2_with (first | (go_at_call 110; refine (l1At_any s k h1 h2 hk _).mono ?_; rw [← hM.out]; rintro e w' ⟨rfl, rfl⟩) | (go_at_call 103; refine (l1Power_any k hk _).mono ?_; rintro e w' ⟨rfl, rfl⟩))
  go_ret
  exact ⟨rfl, rfl⟩

theorem valueAt_bd (s v : Int) : -1 ≤ valueAt s v ∧ valueAt s v ≤ 2 := by unfold valueAt; split <;> omega

theorem WithValue_any (s v x : Int) (w : World) :
    Calls Try.prog 150 #[.int .i64 s, .int .i64 v, .int .i64 x] w fun e w' => e = .returned (.int .i64 (withValue s v x)) ∧ w = w' := by
  by_cases hs : inB s 0 80 = true ∧ inB v 0 3 = true
  · obtain ⟨h1, h2⟩ := inB_iff.1 hs.1
    obtain ⟨h3, h4⟩ := inB_iff.1 hs.2
    obtain ⟨k, hv, hk⟩ := nat4 h3 h4
    have hva := valueAt_yes h1 h2 hv hk
    rcases inB_cases x 0 2 with ⟨h5, h6, hr3⟩ | ⟨h5, hr3⟩
    · have hR := Lib.hid (withValue_yes h1 h2 hv hk h5 h6)
      have hM := Lib.hid hva
      have hm : 0 ≤ valueAt s v ∧ valueAt s v ≤ 2 := by omega
      clear hva hs
      generalize hg : valueAt s v = m at hM hm
      have hG := Lib.hid hg
      clear hg
      have hb := p3_bd3 k hk
      have hz : -54 ≤ (x - m) * p3 k ∧ (x - m) * p3 k ≤ 54 := by
        obtain rfl | rfl | rfl | rfl : k = 0 ∨ k = 1 ∨ k = 2 ∨ k = 3 := by omega
        all_goals simp only [p3]; omega
      have hX := Lib.hid hr3
      subst hv
      clear hr3
      go_enter Try.func150, Try.ntmps150
      go_wp2_with (first | (go_at_call 114; refine (ValueAt_any s k _).mono ?_; rw [hG.out]; rintro e w' ⟨rfl, rfl⟩) | (go_at_call 71; refine (valueOk_any _ _).mono ?_; rw [hX.out]; rintro e w' ⟨rfl, rfl⟩) | (go_at_call 156; refine (placeOf_any k hk _).mono ?_; rintro e w' ⟨rfl, rfl⟩))
      go_ret
      exact ⟨ret_int (by rw [hR.out, hM.out]), rfl⟩
    · have hR := Lib.hid (withValue_no3 (s := s) (v := v) hr3)
      have hm : 0 ≤ valueAt s v ∧ valueAt s v ≤ 2 := by omega
      clear hva hs
      generalize hg : valueAt s v = m at hm
      have hG := Lib.hid hg
      clear hg
      have hX := Lib.hid hr3
      clear hr3 hv
      go_enter Try.func150, Try.ntmps150
      go_wp2_with (first | (go_at_call 114; refine (ValueAt_any s v _).mono ?_; rw [hG.out]; rintro e w' ⟨rfl, rfl⟩) | (go_at_call 71; refine (valueOk_any _ _).mono ?_; rw [hX.out]; rintro e w' ⟨rfl, rfl⟩))
      go_ret
      exact ⟨ret_int hR.out, rfl⟩
  · have hR : withValue s v x = -1 := by unfold withValue; rw [if_neg]; exact fun h => hs ⟨h.1, h.2.1⟩
    have hG : valueAt s v = -1 := by unfold valueAt; rw [if_neg hs]
    have hR := Lib.hid hR
    have hG := Lib.hid hG
    clear hs
    go_enter Try.func150, Try.ntmps150
    go_wp2_with (first | (go_at_call 114; refine (ValueAt_any s v _).mono ?_; rw [hG.out]; rintro e w' ⟨rfl, rfl⟩))
    go_ret
    exact ⟨ret_int hR.out, rfl⟩

end Go.Proofs.Ytbndonfpdioibaa

namespace Go.Proofs.Ytbndonfpdioibaa
set_option maxRecDepth 100000
open Go.RowKit

/-- A statement: its kind, A, B, C and three weights. -/
structure St where
  k : Int
  a : Int
  b : Int
  c : Int
  u : Int
  v : Int
  x : Int

/-- The cells of a statement, one behind the other. -/
def St.cells (s : St) : List Value := [.int .i64 s.k, .int .i64 s.a, .int .i64 s.b, .int .i64 s.c, .int .i64 s.u, .int .i64 s.v, .int .i64 s.x]

/-- All seven fit an int. -/
def St.wf (s : St) : Prop := ∀ v ∈ s.cells, ∃ n, v = .int .i64 n ∧ (Lit.int .i64 n).wf = true

def wZero (u v x : Int) : Bool := (u == 0) && (v == 0) && (x == 0)
def wOk (u v x : Int) : Bool := inB u 0 9 && inB v 0 9 && inB x 0 9 && decide (0 < u + v + x)

/-- Whether seven numbers are a statement (the document's table). -/
def St.ok (s : St) : Bool :=
  (s.k == 0 && (inB s.a 0 3 && inB s.b (-1) 3 && inB s.c 0 2 && wZero s.u s.v s.x)) ||
  (s.k == 1 && (inB s.a 0 3 && inB s.b 0 3 && !(s.a == s.b) && (s.c == 0) && wZero s.u s.v s.x)) ||
  (s.k == 2 && (inB s.a 0 3 && (s.b == 0) && (s.c == 0) && wOk s.u s.v s.x)) ||
  (s.k == 3 && (inB s.a 0 3 && inB s.b 0 3 && !(s.a == s.b) && (s.c == 0) && wOk s.u s.v s.x)) ||
  (s.k == 4 && (inB s.a 0 3 && (s.b == 0) && (s.c == 0) && wOk s.u s.v s.x)) ||
  (s.k == 5 && (inB s.a 0 3 && inB s.b 0 3 && !(s.a == s.b) && (s.c == 0) && wOk s.u s.v s.x)) ||
  (s.k == 6 && (inB s.a 0 3 && inB s.b 1 12 && inB s.c 0 2 && wZero s.u s.v s.x)) ||
  (s.k == 7 && ((s.a == 0) && inB s.b 1 10 && inB s.c 0 3 && wZero s.u s.v s.x))

end Go.Proofs.Ytbndonfpdioibaa

namespace Go.Proofs.Ytbndonfpdioibaa
set_option maxRecDepth 100000
open Go.RowKit

/-- Two arrays of three numbers are one if their numbers are. -/
def eq3 (u v x a b c : Int) : Bool := u == a && v == b && x == c
theorem eqW (u v x a b c : Int) (w : World) : (Op.equalIn 10000 76 (.agg #[.int .i64 u, .int .i64 v, .int .i64 x]) (.agg #[.int .i64 a, .int .i64 b, .int .i64 c])).run Try.prog w = .ok (eq3 u v x a b c) w := by
  have u3 := Try.underlying3
  have a3 := Try.isAgg3
  have z3 := Try.sizeOf3
  rw [show (10000 : Nat) = 9999 + 1 from rfl, Op.equalIn]
  simp only [Sem.run_bind, run_underlying Try.underlying76, Result.andThen_ok]
  simp only [Std.Legacy.Range.forIn_eq_forIn_range', Std.Legacy.Range.size, Nat.sub_zero, Nat.add_sub_cancel, Nat.div_one, List.range'_succ, List.range'_zero, List.forIn_cons, List.forIn_nil]
  go_simp
  by_cases h1 : u = a <;> by_cases h2 : v = b <;> by_cases h3 : x = c <;> simp [h1, h2, h3, eq3]

set_option maxHeartbeats 400000 in
theorem l1Weights_any (u v x : Int) (w : World) :
    Calls Try.prog 158 #[.agg #[.int .i64 u, .int .i64 v, .int .i64 x]] w fun e w' => e = .returned (.bool (wOk u v x)) ∧ Below w.heap.size w w' := by
  go_enter Try.func158, Try.ntmps158
  go_wp2
  go_loop [3] (fun i => i = .int .i64 0 ∨ (i = .int .i64 1 ∧ inB u 0 9 = true) ∨ (i = .int .i64 2 ∧ inB u 0 9 = true ∧ inB v 0 9 = true) ∨ (i = .int .i64 3 ∧ inB u 0 9 = true ∧ inB v 0 9 = true ∧ inB x 0 9 = true)) (fun i => 3 - (intOf i).toNat)
  case atStart => exact .inl rfl
  case round =>
    rcases hrel with rfl | ⟨rfl, hu⟩ | ⟨rfl, hu, hv⟩ | ⟨rfl, hu, hv, hx⟩
    · rcases inB_cases u 0 9 with ⟨h1, h2, hr⟩ | ⟨h1, hr⟩
      · go_wp2_with (go_at_call 67; refine (l1In_any _ _ _ _).mono ?_; rintro e w' ⟨rfl, rfl⟩)
        go_round
        case rel => exact .inr (.inl ⟨rfl, hr⟩)
        case measure => simp [intOf]
      · go_wp2_with (go_at_call 67; refine (l1In_any _ _ _ _).mono ?_; rintro e w' ⟨rfl, rfl⟩)
        go_ret
        exact ⟨ret_bool (by simp [wOk, hr]), (Below.refl _ _).alloc (Nat.le_refl _) _⟩
    · rcases inB_cases v 0 9 with ⟨h1, h2, hr⟩ | ⟨h1, hr⟩
      · go_wp2_with (go_at_call 67; refine (l1In_any _ _ _ _).mono ?_; rintro e w' ⟨rfl, rfl⟩)
        go_round
        case rel => exact .inr (.inr (.inl ⟨rfl, hu, hr⟩))
        case measure => simp [intOf]
      · go_wp2_with (go_at_call 67; refine (l1In_any _ _ _ _).mono ?_; rintro e w' ⟨rfl, rfl⟩)
        go_ret
        exact ⟨ret_bool (by simp [wOk, hr]), (Below.refl _ _).alloc (Nat.le_refl _) _⟩
    · rcases inB_cases x 0 9 with ⟨h1, h2, hr⟩ | ⟨h1, hr⟩
      · go_wp2_with (go_at_call 67; refine (l1In_any _ _ _ _).mono ?_; rintro e w' ⟨rfl, rfl⟩)
        go_round
        case rel => exact .inr (.inr (.inr ⟨rfl, hu, hv, hr⟩))
        case measure => simp [intOf]
      · go_wp2_with (go_at_call 67; refine (l1In_any _ _ _ _).mono ?_; rintro e w' ⟨rfl, rfl⟩)
        go_ret
        exact ⟨ret_bool (by simp [wOk, hr]), (Below.refl _ _).alloc (Nat.le_refl _) _⟩
    · have ⟨a1, a2⟩ := inB_iff.1 hu
      have ⟨b1, b2⟩ := inB_iff.1 hv
      have ⟨c1, c2⟩ := inB_iff.1 hx
      have hR := Lib.hid (show wOk u v x = decide (0 < u + v + x) by simp [wOk, hu, hv, hx])
      go_wp2
      go_ret
      exact ⟨ret_bool hR.out, (Below.refl _ _).alloc (Nat.le_refl _) _⟩

def WRel (u v x : Int) (k : Nat) (b : Bool) : Prop :=
  (k = 0 ∧ b = false) ∨ (k = 1 ∧ inB u 0 9 = true ∧ b = decide (0 < u)) ∨ (k = 2 ∧ inB u 0 9 = true ∧ inB v 0 9 = true ∧ b = (decide (0 < u) || decide (0 < v))) ∨
  (k = 3 ∧ inB u 0 9 = true ∧ inB v 0 9 = true ∧ inB x 0 9 = true ∧ b = (decide (0 < u) || decide (0 < v) || decide (0 < x)))

theorem weightsOk_any (u v x : Int) (w : World) :
    Calls Try.prog 176 #[.agg #[.int .i64 u, .int .i64 v, .int .i64 x]] w fun e w' => e = .returned (.bool (wOk u v x)) ∧ Below w.heap.size w w' := by
  have i0 : ∀ w, (Instr.index 76 (.agg #[.int .i64 u, .int .i64 v, .int .i64 x]) (.int .i64 0)).run Try.prog w = .ok (.int .i64 u) w := fun _ => by kernel_rfl
  have i1 : ∀ w, (Instr.index 76 (.agg #[.int .i64 u, .int .i64 v, .int .i64 x]) (.int .i64 1)).run Try.prog w = .ok (.int .i64 v) w := fun _ => by kernel_rfl
  have i2 : ∀ w, (Instr.index 76 (.agg #[.int .i64 u, .int .i64 v, .int .i64 x]) (.int .i64 2)).run Try.prog w = .ok (.int .i64 x) w := fun _ => by kernel_rfl
  go_enter Try.func176, Try.ntmps176
  go_wp2
  go_loop [3, 7] (fun o i => ∃ (k : Nat) (b : Bool), i = .int .i64 k ∧ o = .bool b ∧ WRel u v x k b) (fun _ i => 3 - (intOf i).toNat)
  case atStart => exact ⟨0, false, rfl, rfl, .inl ⟨rfl, rfl⟩⟩
  case round =>
    obtain ⟨k, b, rfl, rfl, hrel⟩ := hrel
    rcases hrel with ⟨rfl, hb⟩ | ⟨rfl, hu, hb⟩ | ⟨rfl, hu, hv, hb⟩ | ⟨rfl, hu, hv, hx, hb⟩
    · have hB := Lib.hid hb
      clear hb
      rcases inB_cases u 0 9 with ⟨h1, h2, hr⟩ | ⟨h1, hr⟩
      · cases b
        all_goals
          go_wp2_with (go_at_call 95; refine (within_any _ _ _ _).mono ?_; rintro e w' ⟨rfl, rfl⟩)
          go_round
          case rel => exact ⟨1, _, rfl, rfl, .inr (.inl ⟨rfl, hr, by first | rfl | (have := hB.out; cases this)⟩)⟩
          case measure => simp [intOf]
      · go_wp2_with (go_at_call 95; refine (within_any _ _ _ _).mono ?_; rintro e w' ⟨rfl, rfl⟩)
        go_ret
        exact ⟨ret_bool (by simp [wOk, hr]), (Below.refl _ _).alloc (Nat.le_refl _) _⟩
    · have hB := Lib.hid hb
      clear hb
      rcases inB_cases v 0 9 with ⟨h1, h2, hr⟩ | ⟨h1, hr⟩
      · cases b
        all_goals
          go_wp2_with (go_at_call 95; refine (within_any _ _ _ _).mono ?_; rintro e w' ⟨rfl, rfl⟩)
          go_round
          case rel => exact ⟨2, _, rfl, rfl, .inr (.inr (.inl ⟨rfl, hu, hr, by rw [← hB.out]; rfl⟩))⟩
          case measure => simp [intOf]
      · go_wp2_with (go_at_call 95; refine (within_any _ _ _ _).mono ?_; rintro e w' ⟨rfl, rfl⟩)
        go_ret
        exact ⟨ret_bool (by simp [wOk, hr]), (Below.refl _ _).alloc (Nat.le_refl _) _⟩
    · have hB := Lib.hid hb
      clear hb
      rcases inB_cases x 0 9 with ⟨h1, h2, hr⟩ | ⟨h1, hr⟩
      · cases b
        all_goals
          go_wp2_with (go_at_call 95; refine (within_any _ _ _ _).mono ?_; rintro e w' ⟨rfl, rfl⟩)
          go_round
          case rel => exact ⟨3, _, rfl, rfl, .inr (.inr (.inr ⟨rfl, hu, hv, hr, by rw [← hB.out]; rfl⟩))⟩
          case measure => simp [intOf]
      · go_wp2_with (go_at_call 95; refine (within_any _ _ _ _).mono ?_; rintro e w' ⟨rfl, rfl⟩)
        go_ret
        exact ⟨ret_bool (by simp [wOk, hr]), (Below.refl _ _).alloc (Nat.le_refl _) _⟩
    · have ⟨a1, a2⟩ := inB_iff.1 hu
      have ⟨b1, b2⟩ := inB_iff.1 hv
      have ⟨c1, c2⟩ := inB_iff.1 hx
      have hR := Lib.hid (show wOk u v x = b by
        rw [hb, Bool.eq_iff_iff]; simp [wOk, hu, hv, hx]; omega)
      clear hb
      go_wp2
      go_ret
      exact ⟨ret_bool hR.out, (Below.refl _ _).alloc (Nat.le_refl _) _⟩

end Go.Proofs.Ytbndonfpdioibaa

namespace Go.Proofs.Ytbndonfpdioibaa
set_option maxRecDepth 100000
open Go.RowKit

/-- another variable than a -/
def oB (n a : Int) : Bool := inB n 0 3 && !(n == a)

theorem fieldOk_v (n a : Int) (w : World) :
    Calls Try.prog 175 #[.int .u8 118, .int .i64 n, .int .i64 a] w fun e w' => e = .returned (.bool (inB n 0 3)) ∧ w = w' := by
  go_enter Try.func175, Try.ntmps175
  go_wp2_with (first | (go_at_call 113; refine (varOk_any _ _).mono ?_; rintro e w' ⟨rfl, rfl⟩) | (go_at_call 71; refine (valueOk_any _ _).mono ?_; rintro e w' ⟨rfl, rfl⟩) | (go_at_call 95; refine (within_any _ _ _ _).mono ?_; rintro e w' ⟨rfl, rfl⟩))
  all_goals
    go_ret
    refine ⟨ret_bool ?_, rfl⟩
    go_light
    first | rfl | (simp_all; done)

theorem fieldOk_o (n a : Int) (w : World) :
    Calls Try.prog 175 #[.int .u8 111, .int .i64 n, .int .i64 a] w fun e w' => e = .returned (.bool (oB n a)) ∧ w = w' := by
  go_enter Try.func175, Try.ntmps175
  go_wp2_with (first | (go_at_call 113; refine (varOk_any _ _).mono ?_; rintro e w' ⟨rfl, rfl⟩) | (go_at_call 71; refine (valueOk_any _ _).mono ?_; rintro e w' ⟨rfl, rfl⟩) | (go_at_call 95; refine (within_any _ _ _ _).mono ?_; rintro e w' ⟨rfl, rfl⟩))
  all_goals
    go_ret
    refine ⟨ret_bool ?_, rfl⟩
    go_light
    first | (simp_all [bne, oB]; done)

theorem fieldOk_p (n a : Int) (w : World) :
    Calls Try.prog 175 #[.int .u8 112, .int .i64 n, .int .i64 a] w fun e w' => e = .returned (.bool (inB n (-1) 3)) ∧ w = w' := by
  have hp : inB n (-1) 3 = (n == -1 || inB n 0 3) := by
    rw [Bool.eq_iff_iff]; simp [inB]; omega
  have hP := Lib.hid hp
  clear hp
  go_enter Try.func175, Try.ntmps175
  go_wp2_with (first | (go_at_call 113; refine (varOk_any _ _).mono ?_; rintro e w' ⟨rfl, rfl⟩) | (go_at_call 71; refine (valueOk_any _ _).mono ?_; rintro e w' ⟨rfl, rfl⟩) | (go_at_call 95; refine (within_any _ _ _ _).mono ?_; rintro e w' ⟨rfl, rfl⟩))
  all_goals
    go_ret
    refine ⟨ret_bool ?_, rfl⟩
    go_light
    first | (rw [hP.out]; done) | (rw [hP.out]; simp_all; done)

theorem fieldOk_c (n a : Int) (w : World) :
    Calls Try.prog 175 #[.int .u8 99, .int .i64 n, .int .i64 a] w fun e w' => e = .returned (.bool (inB n 0 2)) ∧ w = w' := by
  go_enter Try.func175, Try.ntmps175
  go_wp2_with (first | (go_at_call 113; refine (varOk_any _ _).mono ?_; rintro e w' ⟨rfl, rfl⟩) | (go_at_call 71; refine (valueOk_any _ _).mono ?_; rintro e w' ⟨rfl, rfl⟩) | (go_at_call 95; refine (within_any _ _ _ _).mono ?_; rintro e w' ⟨rfl, rfl⟩))
  all_goals
    go_ret
    refine ⟨ret_bool ?_, rfl⟩
    go_light
    first | rfl | (simp_all; done)

theorem fieldOk_k (n a : Int) (w : World) :
    Calls Try.prog 175 #[.int .u8 107, .int .i64 n, .int .i64 a] w fun e w' => e = .returned (.bool (inB n 1 12)) ∧ w = w' := by
  go_enter Try.func175, Try.ntmps175
  go_wp2_with (first | (go_at_call 113; refine (varOk_any _ _).mono ?_; rintro e w' ⟨rfl, rfl⟩) | (go_at_call 71; refine (valueOk_any _ _).mono ?_; rintro e w' ⟨rfl, rfl⟩) | (go_at_call 95; refine (within_any _ _ _ _).mono ?_; rintro e w' ⟨rfl, rfl⟩))
  all_goals
    go_ret
    refine ⟨ret_bool ?_, rfl⟩
    go_light
    first | rfl | (simp_all; done)

theorem fieldOk_m (n a : Int) (w : World) :
    Calls Try.prog 175 #[.int .u8 109, .int .i64 n, .int .i64 a] w fun e w' => e = .returned (.bool (inB n 1 10)) ∧ w = w' := by
  go_enter Try.func175, Try.ntmps175
  go_wp2_with (first | (go_at_call 113; refine (varOk_any _ _).mono ?_; rintro e w' ⟨rfl, rfl⟩) | (go_at_call 71; refine (valueOk_any _ _).mono ?_; rintro e w' ⟨rfl, rfl⟩) | (go_at_call 95; refine (within_any _ _ _ _).mono ?_; rintro e w' ⟨rfl, rfl⟩))
  all_goals
    go_ret
    refine ⟨ret_bool ?_, rfl⟩
    go_light
    first | rfl | (simp_all; done)

theorem fieldOk_t (n a : Int) (w : World) :
    Calls Try.prog 175 #[.int .u8 116, .int .i64 n, .int .i64 a] w fun e w' => e = .returned (.bool (inB n 0 3)) ∧ w = w' := by
  go_enter Try.func175, Try.ntmps175
  go_wp2_with (first | (go_at_call 113; refine (varOk_any _ _).mono ?_; rintro e w' ⟨rfl, rfl⟩) | (go_at_call 71; refine (valueOk_any _ _).mono ?_; rintro e w' ⟨rfl, rfl⟩) | (go_at_call 95; refine (within_any _ _ _ _).mono ?_; rintro e w' ⟨rfl, rfl⟩))
  all_goals
    go_ret
    refine ⟨ret_bool ?_, rfl⟩
    go_light
    first | rfl | (simp_all; done)

def zB (n : Int) : Bool := n == 0

theorem fieldOk_z (n a : Int) (w : World) :
    Calls Try.prog 175 #[.int .u8 48, .int .i64 n, .int .i64 a] w fun e w' => e = .returned (.bool (zB n)) ∧ w = w' := by
  go_enter Try.func175, Try.ntmps175
  go_wp2_with (first | (go_at_call 113; refine (varOk_any _ _).mono ?_; rintro e w' ⟨rfl, rfl⟩) | (go_at_call 71; refine (valueOk_any _ _).mono ?_; rintro e w' ⟨rfl, rfl⟩) | (go_at_call 95; refine (within_any _ _ _ _).mono ?_; rintro e w' ⟨rfl, rfl⟩))
  all_goals
    go_ret
    refine ⟨ret_bool ?_, rfl⟩
    go_light
    first | rfl | (simp_all; done)

theorem fieldOk_v_at (cd n a : Int) (w : World) (h : cd = 118) :
    Calls Try.prog 175 #[.int .u8 cd, .int .i64 n, .int .i64 a] w fun e w' => e = .returned (.bool (inB n 0 3)) ∧ w = w' := by
  subst h; exact fieldOk_v n a w

theorem fieldOk_o_at (cd n a : Int) (w : World) (h : cd = 111) :
    Calls Try.prog 175 #[.int .u8 cd, .int .i64 n, .int .i64 a] w fun e w' => e = .returned (.bool (oB n a)) ∧ w = w' := by
  subst h; exact fieldOk_o n a w

theorem fieldOk_p_at (cd n a : Int) (w : World) (h : cd = 112) :
    Calls Try.prog 175 #[.int .u8 cd, .int .i64 n, .int .i64 a] w fun e w' => e = .returned (.bool (inB n (-1) 3)) ∧ w = w' := by
  subst h; exact fieldOk_p n a w

theorem fieldOk_c_at (cd n a : Int) (w : World) (h : cd = 99) :
    Calls Try.prog 175 #[.int .u8 cd, .int .i64 n, .int .i64 a] w fun e w' => e = .returned (.bool (inB n 0 2)) ∧ w = w' := by
  subst h; exact fieldOk_c n a w

theorem fieldOk_k_at (cd n a : Int) (w : World) (h : cd = 107) :
    Calls Try.prog 175 #[.int .u8 cd, .int .i64 n, .int .i64 a] w fun e w' => e = .returned (.bool (inB n 1 12)) ∧ w = w' := by
  subst h; exact fieldOk_k n a w

theorem fieldOk_m_at (cd n a : Int) (w : World) (h : cd = 109) :
    Calls Try.prog 175 #[.int .u8 cd, .int .i64 n, .int .i64 a] w fun e w' => e = .returned (.bool (inB n 1 10)) ∧ w = w' := by
  subst h; exact fieldOk_m n a w

theorem fieldOk_t_at (cd n a : Int) (w : World) (h : cd = 116) :
    Calls Try.prog 175 #[.int .u8 cd, .int .i64 n, .int .i64 a] w fun e w' => e = .returned (.bool (inB n 0 3)) ∧ w = w' := by
  subst h; exact fieldOk_t n a w

theorem fieldOk_z_at (cd n a : Int) (w : World) (h : cd = 48) :
    Calls Try.prog 175 #[.int .u8 cd, .int .i64 n, .int .i64 a] w fun e w' => e = .returned (.bool (zB n)) ∧ w = w' := by
  subst h; exact fieldOk_z n a w

end Go.Proofs.Ytbndonfpdioibaa
