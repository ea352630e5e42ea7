/- Parts of the proof: Sc, Un, StO, Trv, Mem, StZ, Liv, LsO, UnP, Kt. -/
import Derived.Test.YtghkpmafocacoaaChecked
import Derived.WalkKit
import Derived.LoopTactic
import Derived.Lib.Hide
import Derived.BigQuiet
import Derived.Deep.QuietTactic
import Derived.Outline
import Derived.WalkLawsBesides
import Derived.Laws.StructEq
import Derived.Deep.Light
import Derived.WalkSmall
import Derived.Below
import Derived.Laws.Rows
import Derived.Laws.OwnMore
import Derived.Deep.Draws
import Derived.Deep.LoopGhost
import Derived.OwnWalk
import Derived.ProofKit
import Derived.OpenShut
import Derived.Deep.Slices
import Derived.StillTailTactics
import Derived.Deep.RegionHeld3
namespace Go.Proofs.Ytghkpmafocacoaa
set_option maxRecDepth 100000
open Go.RowKit
theorem ret_bool {a b : Bool} (h : b = a) : Ending.returned (.bool a) = .returned (.bool b) := by rw [h]
theorem ret_int {k : IntKind} {a b : Int} (h : b = a) : Ending.returned (.int k a) = .returned (.int k b) := by rw [h]
/-- low ≤ n ≤ high -/
def inB (n lo hi : Int) : Bool := decide (lo ≤ n) && decide (n ≤ hi)
theorem inB_iff {n lo hi : Int} : inB n lo hi = true ↔ lo ≤ n ∧ n ≤ hi := by simp [inB]
theorem inB_not {n lo hi : Int} : inB n lo hi = false ↔ ¬ (lo ≤ n ∧ n ≤ hi) := by rw [← inB_iff]; cases inB n lo hi <;> simp
theorem inB_yes {n lo hi : Int} (h : lo ≤ n ∧ n ≤ hi) : inB n lo hi = true := inB_iff.2 h
theorem inB_no {n lo hi : Int} (h : ¬ (lo ≤ n ∧ n ≤ hi)) : inB n lo hi = false := inB_not.2 h
theorem inB_cases (n lo hi : Int) : (lo ≤ n ∧ n ≤ hi ∧ inB n lo hi = true) ∨ ((n < lo ∨ (lo ≤ n ∧ hi < n)) ∧ inB n lo hi = false) := by
  by_cases h : lo ≤ n ∧ n ≤ hi
  · exact .inl ⟨h.1, h.2, inB_yes h⟩
  · exact .inr ⟨by omega, inB_no h⟩
/-- 3 to the power of a number -/
def p3 : Nat → Int
  | 0 => 1
  | k + 1 => p3 k * 3
/-- the value of a variable in a state, or -1 -/
def valueAt (s v : Int) : Int := if inB s 0 80 = true ∧ inB v 0 3 = true then s / p3 v.toNat % 3 else -1
/-- the state with another value of a variable, or -1 -/
def withValue (s v x : Int) : Int := if inB s 0 80 = true ∧ inB v 0 3 = true ∧ inB x 0 2 = true then s + (x - s / p3 v.toNat % 3) * p3 v.toNat else -1
theorem valueAt_yes {s v : Int} {k : Nat} (h0 : 0 ≤ s) (h1 : s ≤ 80) (hk : v = k) (h3 : k ≤ 3) : valueAt s v = s / p3 k % 3 := by
  subst hk
  unfold valueAt
  rw [if_pos ⟨inB_yes ⟨h0, h1⟩, inB_yes ⟨by omega, by omega⟩⟩]; rfl
theorem valueAt_no1 {s v : Int} (h : inB s 0 80 = false) : valueAt s v = -1 := by unfold valueAt; rw [if_neg]; simp [h]
theorem valueAt_no2 {s v : Int} (h : inB v 0 3 = false) : valueAt s v = -1 := by unfold valueAt; rw [if_neg]; simp [h]
theorem withValue_yes {s v x : Int} {k : Nat} (h0 : 0 ≤ s) (h1 : s ≤ 80) (hk : v = k) (h3 : k ≤ 3) (hx0 : 0 ≤ x) (hx1 : x ≤ 2) : withValue s v x = s + (x - s / p3 k % 3) * p3 k := by
  subst hk
  unfold withValue
  rw [if_pos ⟨inB_yes ⟨h0, h1⟩, inB_yes ⟨by omega, by omega⟩, inB_yes ⟨hx0, hx1⟩⟩]; rfl
theorem withValue_no3 {s v x : Int} (h : inB x 0 2 = false) : withValue s v x = -1 := by unfold withValue; rw [if_neg]; simp [h]
theorem within_any (n lo hi : Int) (w : World) :
    Calls Try.prog 69 #[.int .i64 n, .int .i64 lo, .int .i64 hi] w fun e w' => e = .returned (.bool (inB n lo hi)) ∧ w = w' := by
  rcases inB_cases n lo hi with ⟨h1, h2, hr⟩ | ⟨h1 | ⟨h1, h2⟩, hr⟩
  all_goals
    have hR := Lib.hid hr
    clear hr
    go_enter Try.func69, Try.ntmps69
    go_wp2
    go_ret
    first | exact ⟨ret_bool hR.out, rfl⟩ | exact ⟨ret_bool (hR.out.trans (by simp; omega)), rfl⟩
theorem l1In_any (n lo hi : Int) (w : World) :
    Calls Try.prog 65 #[.int .i64 n, .int .i64 lo, .int .i64 hi] w fun e w' => e = .returned (.bool (inB n lo hi)) ∧ w = w' := by
  rcases inB_cases n lo hi with ⟨h1, h2, hr⟩ | ⟨h1 | ⟨h1, h2⟩, hr⟩
  all_goals
    have hR := Lib.hid hr
    clear hr
    go_enter Try.func65, Try.ntmps65
    go_wp2
    go_ret
    first | exact ⟨ret_bool hR.out, rfl⟩ | exact ⟨ret_bool (hR.out.trans (by simp; omega)), rfl⟩
theorem varOk_any (n : Int) (w : World) :
    Calls Try.prog 97 #[.int .i64 n] w fun e w' => e = .returned (.bool (inB n 0 3)) ∧ w = w' := by
  go_enter Try.func97, Try.ntmps97
  go_wp2_with (go_at_call 69; refine (within_any _ _ _ _).mono ?_; rintro e w' ⟨rfl, rfl⟩)
  go_ret
  exact ⟨rfl, rfl⟩
theorem valueOk_any (n : Int) (w : World) :
    Calls Try.prog 102 #[.int .i64 n] w fun e w' => e = .returned (.bool (inB n 0 2)) ∧ w = w' := by
  go_enter Try.func102, Try.ntmps102
  go_wp2_with (go_at_call 69; refine (within_any _ _ _ _).mono ?_; rintro e w' ⟨rfl, rfl⟩)
  go_ret
  exact ⟨rfl, rfl⟩
theorem l1Var_any (n : Int) (w : World) :
    Calls Try.prog 66 #[.int .i64 n] w fun e w' => e = .returned (.bool (inB n 0 3)) ∧ w = w' := by
  go_enter Try.func66, Try.ntmps66
  go_wp2_with (go_at_call 65; refine (l1In_any _ _ _ _).mono ?_; rintro e w' ⟨rfl, rfl⟩)
  go_ret
  exact ⟨rfl, rfl⟩
theorem p3_bd (k : Nat) (h : k ≤ 2) : 1 ≤ p3 k ∧ p3 k ≤ 9 := by
  obtain rfl | rfl | rfl : k = 0 ∨ k = 1 ∨ k = 2 := by omega
  all_goals decide
theorem l1Power_any (n : Nat) (h : n ≤ 3) (w : World) :
    Calls Try.prog 79 #[.int .i64 n] w fun e w' => e = .returned (.int .i64 (p3 n)) ∧ w = w' := by
  go_enter Try.func79, Try.ntmps79
  go_wp2
  go_loop [3, 4] (fun o i => ∃ k : Nat, k ≤ n ∧ i = .int .i64 k ∧ o = .int .i64 (p3 k)) (fun _ i => n - (intOf i).toNat)
  case atStart => exact ⟨0, Nat.zero_le _, rfl, rfl⟩
  case round =>
    obtain ⟨k, hk, rfl, rfl⟩ := hrel
    by_cases hlt : k < n
    · have hb := p3_bd k (by omega)
      go_wp2
      go_round
      case rel => exact ⟨k + 1, by omega, by go_num, rfl⟩
      case measure => simp [intOf]; omega
    · obtain rfl : k = n := by omega
      go_wp2
      go_ret
      exact ⟨rfl, rfl⟩
theorem placeOf_any (n : Nat) (h : n ≤ 3) (w : World) :
    Calls Try.prog 103 #[.int .i64 n] w fun e w' => e = .returned (.int .i64 (p3 n)) ∧ w = w' := by
  obtain rfl | rfl | rfl | rfl : n = 0 ∨ n = 1 ∨ n = 2 ∨ n = 3 := by omega
  all_goals
    go_enter Try.func103, Try.ntmps103
    go_wp2
    go_ret
    exact ⟨rfl, rfl⟩
theorem nat4 {v : Int} (h0 : 0 ≤ v) (h1 : v ≤ 3) : ∃ k : Nat, v = k ∧ k ≤ 3 := ⟨v.toNat, by omega, by omega⟩
theorem p3_bd3 (k : Nat) (h : k ≤ 3) : 1 ≤ p3 k ∧ p3 k ≤ 27 := by
  obtain rfl | rfl | rfl | rfl : k = 0 ∨ k = 1 ∨ k = 2 ∨ k = 3 := by omega
  all_goals decide
theorem ValueAt_any (s v : Int) (w : World) :
    Calls Try.prog 101 #[.int .i64 s, .int .i64 v] w fun e w' => e = .returned (.int .i64 (valueAt s v)) ∧ w = w' := by
  rcases inB_cases s 0 80 with ⟨h1, h2, hr⟩ | ⟨h1, hr⟩
  · rcases inB_cases v 0 3 with ⟨h3, h4, hr2⟩ | ⟨h3, hr2⟩
    · obtain ⟨k, hv, hk⟩ := nat4 h3 h4
      have hR := Lib.hid (valueAt_yes h1 h2 hv hk)
      subst hv
      have hb := p3_bd3 k hk
      have hq : 0 ≤ s / p3 k := Int.ediv_nonneg h1 (by omega)
      go_enter Try.func101, Try.ntmps101
      go_wp2_with (first | (go_at_call 69; refine (within_any _ _ _ _).mono ?_; rintro e w' ⟨rfl, rfl⟩) | (go_at_call 97; refine (varOk_any _ _).mono ?_; rintro e w' ⟨rfl, rfl⟩) | (go_at_call 103; refine (placeOf_any k hk _).mono ?_; rintro e w' ⟨rfl, rfl⟩))
      go_ret
      exact ⟨ret_int hR.out, rfl⟩
    · have hR := Lib.hid (valueAt_no2 (s := s) hr2)
      go_enter Try.func101, Try.ntmps101
      go_wp2_with (first | (go_at_call 69; refine (within_any _ _ _ _).mono ?_; rintro e w' ⟨rfl, rfl⟩) | (go_at_call 97; refine (varOk_any _ _).mono ?_; rintro e w' ⟨rfl, rfl⟩))
      go_ret
      exact ⟨ret_int hR.out, rfl⟩
  · have hR := Lib.hid (valueAt_no1 (v := v) hr)
    go_enter Try.func101, Try.ntmps101
    go_wp2_with (first | (go_at_call 69; refine (within_any _ _ _ _).mono ?_; rintro e w' ⟨rfl, rfl⟩) | (go_at_call 97; refine (varOk_any _ _).mono ?_; rintro e w' ⟨rfl, rfl⟩))
    go_ret
    exact ⟨ret_int hR.out, rfl⟩
theorem l1At_any (s : Int) (k : Nat) (h1 : 0 ≤ s) (h2 : s ≤ 80) (hk : k ≤ 3) (w : World) :
    Calls Try.prog 126 #[.int .i64 s, .int .i64 k] w fun e w' => e = .returned (.int .i64 (s / p3 k % 3)) ∧ w = w' := by
  have hb := p3_bd3 k hk
  have hq : 0 ≤ s / p3 k := Int.ediv_nonneg h1 (by omega)
  go_enter Try.func126, Try.ntmps126
  go_wp2_with (go_at_call 79; refine (l1Power_any k hk _).mono ?_; rintro e w' ⟨rfl, rfl⟩)
  go_ret
  exact ⟨rfl, rfl⟩
theorem l1With_any (s x : Int) (k : Nat) (h1 : 0 ≤ s) (h2 : s ≤ 80) (hk : k ≤ 3) (h3 : 0 ≤ x) (h4 : x ≤ 2) (w : World) :
    Calls Try.prog 129 #[.int .i64 s, .int .i64 k, .int .i64 x] w fun e w' => e = .returned (.int .i64 (s + (x - s / p3 k % 3) * p3 k)) ∧ w = w' := by
  have hm : 0 ≤ s / p3 k % 3 ∧ s / p3 k % 3 ≤ 2 := by omega
  obtain ⟨m, hm'⟩ : ∃ m, m = s / p3 k % 3 := ⟨_, rfl⟩
  rw [← hm'] at hm ⊢
  have hM := Lib.hid hm'
  clear hm'
  have hz : -54 ≤ (x - m) * p3 k ∧ (x - m) * p3 k ≤ 54 := by
    obtain rfl | rfl | rfl | rfl : k = 0 ∨ k = 1 ∨ k = 2 ∨ k = 3 := by omega
    all_goals simp only [p3]; omega
  go_enter Try.func129, Try.ntmps129
  go_wp2_with (first | (go_at_call 126; refine (l1At_any s k h1 h2 hk _).mono ?_; rw [← hM.out]; rintro e w' ⟨rfl, rfl⟩) | (go_at_call 79; refine (l1Power_any k hk _).mono ?_; rintro e w' ⟨rfl, rfl⟩))
  go_ret
  exact ⟨rfl, rfl⟩
theorem WithValue_any (s v x : Int) (w : World) :
    Calls Try.prog 49 #[.int .i64 s, .int .i64 v, .int .i64 x] w fun e w' => e = .returned (.int .i64 (withValue s v x)) ∧ w = w' := by
  by_cases hs : inB s 0 80 = true ∧ inB v 0 3 = true
  · obtain ⟨h1, h2⟩ := inB_iff.1 hs.1
    obtain ⟨h3, h4⟩ := inB_iff.1 hs.2
    obtain ⟨k, hv, hk⟩ := nat4 h3 h4
    have hva := valueAt_yes h1 h2 hv hk
    rcases inB_cases x 0 2 with ⟨h5, h6, hr3⟩ | ⟨h5, hr3⟩
    · have hR := Lib.hid (withValue_yes h1 h2 hv hk h5 h6)
      have hM := Lib.hid hva
      have hm : 0 ≤ valueAt s v ∧ valueAt s v ≤ 2 := by omega
      clear hva hs
      generalize hg : valueAt s v = m at hM hm
      have hG := Lib.hid hg
      clear hg
      have hb := p3_bd3 k hk
      have hz : -54 ≤ (x - m) * p3 k ∧ (x - m) * p3 k ≤ 54 := by
        obtain rfl | rfl | rfl | rfl : k = 0 ∨ k = 1 ∨ k = 2 ∨ k = 3 := by omega
        all_goals simp only [p3]; omega
      have hX := Lib.hid hr3
      subst hv
      clear hr3
      go_enter Try.func49, Try.ntmps49
      go_wp2_with (first | (go_at_call 101; refine (ValueAt_any s k _).mono ?_; rw [hG.out]; rintro e w' ⟨rfl, rfl⟩) | (go_at_call 102; refine (valueOk_any _ _).mono ?_; rw [hX.out]; rintro e w' ⟨rfl, rfl⟩) | (go_at_call 103; refine (placeOf_any k hk _).mono ?_; rintro e w' ⟨rfl, rfl⟩))
      go_ret
      exact ⟨ret_int (by rw [hR.out, hM.out]), rfl⟩
    · have hR := Lib.hid (withValue_no3 (s := s) (v := v) hr3)
      have hm : 0 ≤ valueAt s v ∧ valueAt s v ≤ 2 := by omega
      clear hva hs
      generalize hg : valueAt s v = m at hm
      have hG := Lib.hid hg
      clear hg
      have hX := Lib.hid hr3
      clear hr3 hv
      go_enter Try.func49, Try.ntmps49
      go_wp2_with (first | (go_at_call 101; refine (ValueAt_any s v _).mono ?_; rw [hG.out]; rintro e w' ⟨rfl, rfl⟩) | (go_at_call 102; refine (valueOk_any _ _).mono ?_; rw [hX.out]; rintro e w' ⟨rfl, rfl⟩))
      go_ret
      exact ⟨ret_int hR.out, rfl⟩
  · have hR : withValue s v x = -1 := by unfold withValue; rw [if_neg]; exact fun h => hs ⟨h.1, h.2.1⟩
    have hG : valueAt s v = -1 := by unfold valueAt; rw [if_neg hs]
    have hR := Lib.hid hR
    have hG := Lib.hid hG
    clear hs
    go_enter Try.func49, Try.ntmps49
    go_wp2_with (first | (go_at_call 101; refine (ValueAt_any s v _).mono ?_; rw [hG.out]; rintro e w' ⟨rfl, rfl⟩))
    go_ret
    exact ⟨ret_int hR.out, rfl⟩
end Go.Proofs.Ytghkpmafocacoaa
namespace Go.Proofs.Ytghkpmafocacoaa
set_option maxRecDepth 100000
open Go.RowKit
/-- A statement: its kind, A, B, C and three weights. -/
structure St where
  k : Int
  a : Int
  b : Int
  c : Int
  u : Int
  v : Int
  x : Int
/-- The cells of a statement, one behind the other. -/
def St.cells (s : St) : List Value := [.int .i64 s.k, .int .i64 s.a, .int .i64 s.b, .int .i64 s.c, .int .i64 s.u, .int .i64 s.v, .int .i64 s.x]
def wZero (u v x : Int) : Bool := (u == 0) && (v == 0) && (x == 0)
def wOk (u v x : Int) : Bool := inB u 0 9 && inB v 0 9 && inB x 0 9 && decide (0 < u + v + x)
/-- Whether seven numbers are a statement (the document's table). -/
def St.ok (s : St) : Bool :=
  (s.k == 0 && (inB s.a 0 3 && inB s.b (-1) 3 && inB s.c 0 2 && wZero s.u s.v s.x)) ||
  (s.k == 1 && (inB s.a 0 3 && inB s.b 0 3 && !(s.a == s.b) && (s.c == 0) && wZero s.u s.v s.x)) ||
  (s.k == 2 && (inB s.a 0 3 && (s.b == 0) && (s.c == 0) && wOk s.u s.v s.x)) ||
  (s.k == 3 && (inB s.a 0 3 && inB s.b 0 3 && !(s.a == s.b) && (s.c == 0) && wOk s.u s.v s.x)) ||
  (s.k == 4 && (inB s.a 0 3 && (s.b == 0) && (s.c == 0) && wOk s.u s.v s.x)) ||
  (s.k == 5 && (inB s.a 0 3 && inB s.b 0 3 && !(s.a == s.b) && (s.c == 0) && wOk s.u s.v s.x)) ||
  (s.k == 6 && (inB s.a 0 3 && inB s.b 1 12 && inB s.c 0 2 && wZero s.u s.v s.x)) ||
  (s.k == 7 && ((s.a == 0) && inB s.b 1 10 && inB s.c 0 3 && wZero s.u s.v s.x))
end Go.Proofs.Ytghkpmafocacoaa
namespace Go.Proofs.Ytghkpmafocacoaa
set_option maxRecDepth 100000
open Go.RowKit
/-- Two arrays of three numbers are one if their numbers are. -/
def eq3 (u v x a b c : Int) : Bool := u == a && v == b && x == c
theorem eqW (u v x a b c : Int) (w : World) : (Op.equalIn 10000 45 (.agg #[.int .i64 u, .int .i64 v, .int .i64 x]) (.agg #[.int .i64 a, .int .i64 b, .int .i64 c])).run Try.prog w = .ok (eq3 u v x a b c) w := by
  have u3 := Try.underlying3
  have a3 := Try.isAgg3
  have z3 := Try.sizeOf3
  rw [show (10000 : Nat) = 9999 + 1 from rfl, Op.equalIn]
  simp only [Sem.run_bind, run_underlying Try.underlying45, Result.andThen_ok]
  simp only [Std.Legacy.Range.forIn_eq_forIn_range', Std.Legacy.Range.size, Nat.sub_zero, Nat.add_sub_cancel, Nat.div_one, List.range'_succ, List.range'_zero, List.forIn_cons, List.forIn_nil]
  go_simp
  by_cases h1 : u = a <;> by_cases h2 : v = b <;> by_cases h3 : x = c <;> simp [h1, h2, h3, eq3]
end Go.Proofs.Ytghkpmafocacoaa
namespace Go.Proofs.Ytghkpmafocacoaa
set_option maxRecDepth 100000
open Go.RowKit
/-- another variable than a -/
def oB (n a : Int) : Bool := inB n 0 3 && !(n == a)
def zB (n : Int) : Bool := n == 0
end Go.Proofs.Ytghkpmafocacoaa

namespace Go.Proofs.Ytghkpmafocacoaa
set_option maxRecDepth 100000
def St.notLoop (s : St) : Bool := !(s.k == 7)
def St.draws (s : St) : Bool := s.k == 2 || s.k == 3
/-- c copies of a list, one behind the other. -/
def rep (body : List St) : Nat → List St
  | 0 => []
  | n + 1 => rep body n ++ body
/-- The loops of a list told out; the number is how many statements ahead are a body that has been done. -/
def unr : List St → Nat → Option (List St)
  | [], _ => some []
  | _ :: r, k + 1 => unr r k
  | s :: r, 0 =>
    if s.notLoop then (unr r 0).map (s :: ·)
    else if decide (s.b.toNat ≤ r.length) && (r.take s.b.toNat).all St.notLoop then (unr r s.b.toNat).map (rep (r.take s.b.toNat) s.c.toNat ++ ·)
    else none
theorem unr_drop : ∀ (r : List St) (k : Nat), unr r k = unr (r.drop k) 0
  | [], k => by simp [unr]
  | s :: r, 0 => by simp
  | s :: r, k + 1 => by rw [unr, List.drop_succ_cons]; exact unr_drop r k
theorem drop_cons {ps : List St} {k : Nat} {s : St} (h : ps[k]? = some s) : ps.drop k = s :: ps.drop (k + 1) := by
  have hl : k < ps.length := (List.getElem?_eq_some_iff.1 h).1
  rw [List.drop_eq_getElem_cons hl, (List.getElem?_eq_some_iff.1 h).2]
/-- A loop whose body is not there, or holds a loop. -/
theorem unr_none {ps : List St} {k : Nat} {s : St} (h : ps[k]? = some s) (hn : s.notLoop = false) (hb : (decide (s.b.toNat ≤ (ps.drop (k + 1)).length) && ((ps.drop (k + 1)).take s.b.toNat).all St.notLoop) = false) : unr (ps.drop k) 0 = none := by
  rw [drop_cons h, unr, if_neg (by simp [hn]), if_neg (by rw [hb]; exact Bool.false_ne_true)]
theorem unr_loop {ps : List St} {k : Nat} {s : St} (h : ps[k]? = some s) (hn : s.notLoop = false) (hb : (decide (s.b.toNat ≤ (ps.drop (k + 1)).length) && ((ps.drop (k + 1)).take s.b.toNat).all St.notLoop) = true) :
    unr (ps.drop k) 0 = (unr (ps.drop (k + 1 + s.b.toNat)) 0).map (rep ((ps.drop (k + 1)).take s.b.toNat) s.c.toNat ++ ·) := by
  rw [drop_cons h, unr, if_neg (by simp [hn]), if_pos hb, unr_drop, List.drop_drop]
/-- What has been told out so far, and what is left. -/
def Sofar (ps : List St) (k : Nat) (os : List St) : Prop := unr ps 0 = (unr (ps.drop k) 0).map (os ++ ·)
theorem Sofar.loop {ps os : List St} {k : Nat} {s : St} (h : Sofar ps k os) (hs : ps[k]? = some s) (hn : s.notLoop = false) (hb : (decide (s.b.toNat ≤ (ps.drop (k + 1)).length) && ((ps.drop (k + 1)).take s.b.toNat).all St.notLoop) = true) :
    Sofar ps (k + 1 + s.b.toNat) (os ++ rep ((ps.drop (k + 1)).take s.b.toNat) s.c.toNat) := by
  unfold Sofar at h ⊢
  rw [h, unr_loop hs hn hb, Option.map_map]
  congr 1
  funext t
  simp
theorem Sofar.none_ {ps os : List St} {k : Nat} {s : St} (h : Sofar ps k os) (hs : ps[k]? = some s) (hn : s.notLoop = false) (hb : (decide (s.b.toNat ≤ (ps.drop (k + 1)).length) && ((ps.drop (k + 1)).take s.b.toNat).all St.notLoop) = false) : unr ps 0 = none := by
  unfold Sofar at h
  rw [h, unr_none hs hn hb]; rfl
theorem Sofar.done {ps os : List St} (h : Sofar ps ps.length os) : unr ps 0 = some os := by
  unfold Sofar at h
  rw [h, List.drop_length]; simp [unr]
end Go.Proofs.Ytghkpmafocacoaa
namespace Go.Proofs.Ytghkpmafocacoaa
set_option maxRecDepth 100000
end Go.Proofs.Ytghkpmafocacoaa

namespace Go.Proofs.Ytghkpmafocacoaa
set_option maxRecDepth 100000
open Go.RowKit
theorem kind_cases (k : Int) : k = 0 ∨ k = 1 ∨ k = 2 ∨ k = 3 ∨ k = 4 ∨ k = 5 ∨ k = 6 ∨ k = 7 ∨ k < 0 ∨ (7 < k ∧ 0 ≤ k) := by omega
theorem ok_far {k a b c u v x : Int} (h : k < 0 ∨ (7 < k ∧ 0 ≤ k)) : (St.mk k a b c u v x).ok = false := by
  have e : ∀ n : Int, 0 ≤ n → n ≤ 7 → (k == n) = false := fun n h1 h2 => by simp; omega
  simp [St.ok, e 0 (by omega) (by omega), e 1 (by omega) (by omega), e 2 (by omega) (by omega), e 3 (by omega) (by omega), e 4 (by omega) (by omega), e 5 (by omega) (by omega), e 6 (by omega) (by omega), e 7 (by omega) (by omega)]
end Go.Proofs.Ytghkpmafocacoaa
namespace Go.Proofs.Ytghkpmafocacoaa
set_option maxRecDepth 100000
open Go.RowKit
attribute [local go_sem] eqW
end Go.Proofs.Ytghkpmafocacoaa
namespace Go.Proofs.Ytghkpmafocacoaa
set_option maxRecDepth 100000
open Go.RowKit
theorem ok_0 (a b c u v x : Int) : (St.mk 0 a b c u v x).ok = (inB a 0 3 && inB b (-1) 3 && inB c 0 2 && wZero u v x) := by
  simp [St.ok, Bool.and_assoc]
theorem ok_1 (a b c u v x : Int) : (St.mk 1 a b c u v x).ok = (inB a 0 3 && oB b a && zB c && wZero u v x) := by
  have e : (b == a) = (a == b) := by rw [Bool.eq_iff_iff, beq_iff_eq, beq_iff_eq]; exact ⟨Eq.symm, Eq.symm⟩
  unfold oB zB
  rw [e]
  simp [St.ok, Bool.and_assoc]
theorem ok_2 (a b c u v x : Int) : (St.mk 2 a b c u v x).ok = (inB a 0 3 && zB b && zB c && wOk u v x) := by
  simp [St.ok, zB, Bool.and_assoc]
theorem ok_3 (a b c u v x : Int) : (St.mk 3 a b c u v x).ok = (inB a 0 3 && oB b a && zB c && wOk u v x) := by
  have e : (b == a) = (a == b) := by rw [Bool.eq_iff_iff, beq_iff_eq, beq_iff_eq]; exact ⟨Eq.symm, Eq.symm⟩
  unfold oB zB
  rw [e]
  simp [St.ok, Bool.and_assoc]
theorem ok_4 (a b c u v x : Int) : (St.mk 4 a b c u v x).ok = (inB a 0 3 && zB b && zB c && wOk u v x) := by
  simp [St.ok, zB, Bool.and_assoc]
theorem ok_5 (a b c u v x : Int) : (St.mk 5 a b c u v x).ok = (inB a 0 3 && oB b a && zB c && wOk u v x) := by
  have e : (b == a) = (a == b) := by rw [Bool.eq_iff_iff, beq_iff_eq, beq_iff_eq]; exact ⟨Eq.symm, Eq.symm⟩
  unfold oB zB
  rw [e]
  simp [St.ok, Bool.and_assoc]
theorem ok_6 (a b c u v x : Int) : (St.mk 6 a b c u v x).ok = (inB a 0 3 && inB b 1 12 && inB c 0 2 && wZero u v x) := by
  simp [St.ok, Bool.and_assoc]
theorem ok_7 (a b c u v x : Int) : (St.mk 7 a b c u v x).ok = (zB a && inB b 1 10 && inB c 0 3 && wZero u v x) := by
  simp [St.ok, zB, Bool.and_assoc]
/-- What is known of the numbers of a statement, by its kind. -/
theorem ok_rng {k a b c u v x : Int} (h : (St.mk k a b c u v x).ok = true) :
    (k = 0 ∧ 0 ≤ a ∧ a ≤ 3 ∧ -1 ≤ b ∧ b ≤ 3 ∧ 0 ≤ c ∧ c ≤ 2) ∨ (k = 1 ∧ 0 ≤ a ∧ a ≤ 3 ∧ 0 ≤ b ∧ b ≤ 3 ∧ a ≠ b) ∨ (k = 2 ∧ 0 ≤ a ∧ a ≤ 3 ∧ b = 0) ∨ (k = 3 ∧ 0 ≤ a ∧ a ≤ 3 ∧ 0 ≤ b ∧ b ≤ 3 ∧ a ≠ b) ∨
    (k = 4 ∧ 0 ≤ a ∧ a ≤ 3 ∧ b = 0) ∨ (k = 5 ∧ 0 ≤ a ∧ a ≤ 3 ∧ 0 ≤ b ∧ b ≤ 3 ∧ a ≠ b) ∨ (k = 6 ∧ 0 ≤ a ∧ a ≤ 3 ∧ 1 ≤ b ∧ b ≤ 12 ∧ 0 ≤ c ∧ c ≤ 2) ∨ (k = 7 ∧ a = 0 ∧ 1 ≤ b ∧ b ≤ 10 ∧ 0 ≤ c ∧ c ≤ 3) := by
  rcases kind_cases k with rfl | rfl | rfl | rfl | rfl | rfl | rfl | rfl | hk | ⟨hk, hk'⟩
  · rw [ok_0] at h; simp [inB_iff] at h; simp; omega
  · rw [ok_1] at h; simp [oB, zB, inB_iff] at h; simp; omega
  · rw [ok_2] at h; simp [zB, inB_iff] at h; simp; omega
  · rw [ok_3] at h; simp [oB, zB, inB_iff] at h; simp; omega
  · rw [ok_4] at h; simp [zB, inB_iff] at h; simp; omega
  · rw [ok_5] at h; simp [oB, zB, inB_iff] at h; simp; omega
  · rw [ok_6] at h; simp [inB_iff] at h; simp; omega
  · rw [ok_7] at h; simp [zB, inB_iff] at h; simp; omega
  · rw [ok_far (by omega)] at h; cases h
  · rw [ok_far (by omega)] at h; cases h
end Go.Proofs.Ytghkpmafocacoaa

namespace Go.Proofs.Ytghkpmafocacoaa
set_option maxRecDepth 100000
/-- The state behind a statement; what is drawn is x. -/
def St.next (s : St) (st x : Int) : Int :=
  if s.k = 0 then withValue st s.a ((s.c + if s.b = -1 then 0 else valueAt st s.b) % 3)
  else if s.k = 1 then withValue st s.a ((valueAt st s.a + valueAt st s.b) % 3)
  else if s.k = 2 ∨ s.k = 3 then withValue st s.a x
  else st
def St.wgt (s : St) (n : Int) : Int := if n = 0 then s.u else if n = 1 then s.v else s.x
/-- With what a statement multiplies the weight; st is the state behind it. -/
def St.fac (s : St) (st : Int) : Int :=
  if s.k = 2 ∨ s.k = 4 then s.wgt (valueAt st s.a)
  else if s.k = 3 ∨ s.k = 5 then s.wgt ((valueAt st s.a + valueAt st s.b) % 3)
  else 1
/-- How many statements are passed over. -/
def St.jump (s : St) (st : Int) : Nat := if s.k = 6 ∧ valueAt st s.a = s.c then s.b.toNat else 0
/-- Where a run is. -/
structure Rn where
  pos : Nat
  st : Int
  wt : Int
def Rn.step (s : St) (r : Rn) (x : Int) : Rn := ⟨r.pos + 1 + s.jump r.st, s.next r.st x, r.wt * s.fac (s.next r.st x)⟩
/-- The end of a run from a place on, of these draws. -/
def run : List St → Nat → Int → Int → List Int → Option (Int × Int)
  | [], _, st, wt, ds => if ds.isEmpty then some (st, wt) else none
  | _ :: r, k + 1, st, wt, ds => run r k st wt ds
  | s :: r, 0, st, wt, ds =>
    if s.draws then
      match ds with
      | [] => none
      | d :: ds => if inB d 0 2 then run r 0 (s.next st d) (wt * s.fac (s.next st d)) ds else none
    else run r (s.jump st) (s.next st 0) (wt * s.fac (s.next st 0)) ds
/-- What holds of each run on its way. -/
def Rn.fit (r : Rn) : Prop := 0 ≤ r.st ∧ r.st ≤ 80 ∧ 0 ≤ r.wt ∧ r.wt ≤ 9 ^ r.pos
theorem pow9_le {a b : Nat} (h : a ≤ b) : (9 : Int) ^ a ≤ 9 ^ b := by
  obtain ⟨c, rfl⟩ := Nat.exists_eq_add_of_le h
  rw [Int.pow_add]
  have h1 : (0 : Int) < 9 ^ a := Int.pow_pos (by decide)
  have h2 : (0 : Int) < 9 ^ c := Int.pow_pos (by decide)
  have := Int.mul_le_mul_of_nonneg_left (show (1 : Int) ≤ 9 ^ c by omega) (Int.le_of_lt h1)
  omega
theorem wgt_bd {s : St} (h : wOk s.u s.v s.x = true) (n : Int) : 0 ≤ s.wgt n ∧ s.wgt n ≤ 9 := by
  unfold wOk at h
  simp [inB_iff] at h
  unfold St.wgt
  split
  · omega
  · split <;> omega
theorem fac_bd {s : St} (h : s.ok = true) (st : Int) : 0 ≤ s.fac st ∧ s.fac st ≤ 9 := by
  obtain ⟨k, a, b, c, u, v, x⟩ := s
  unfold St.fac
  dsimp only
  split
  · rename_i hk
    refine wgt_bd (s := ⟨k, a, b, c, u, v, x⟩) ?_ _
    rcases hk with rfl | rfl
    · rw [ok_2] at h; simp at h; exact h.2
    · rw [ok_4] at h; simp at h; exact h.2
  · split
    · rename_i hk
      refine wgt_bd (s := ⟨k, a, b, c, u, v, x⟩) ?_ _
      rcases hk with rfl | rfl
      · rw [ok_3] at h; simp at h; exact h.2
      · rw [ok_5] at h; simp at h; exact h.2
    · omega
theorem with_bd {st v x : Int} (hs : 0 ≤ st ∧ st ≤ 80) (hv : 0 ≤ v ∧ v ≤ 3) (hx : 0 ≤ x ∧ x ≤ 2) : 0 ≤ withValue st v x ∧ withValue st v x ≤ 80 := by
  obtain ⟨k, rfl, hk⟩ := nat4 hv.1 hv.2
  rw [withValue_yes hs.1 hs.2 rfl hk hx.1 hx.2]
  obtain rfl | rfl | rfl | rfl : k = 0 ∨ k = 1 ∨ k = 2 ∨ k = 3 := by omega
  all_goals simp only [p3]; omega
theorem next_bd {s : St} (h : s.ok = true) {st x : Int} (hs : 0 ≤ st ∧ st ≤ 80) (hx : 0 ≤ x ∧ x ≤ 2) : 0 ≤ s.next st x ∧ s.next st x ≤ 80 := by
  obtain ⟨k, a, b, c, u, v, y⟩ := s
  have hr := ok_rng h
  unfold St.next
  dsimp only
  split
  · exact with_bd hs (by omega) (by omega)
  · split
    · exact with_bd hs (by omega) (by omega)
    · split
      · exact with_bd hs (by omega) hx
      · exact hs
theorem Rn.fit.step {s : St} {r : Rn} {x : Int} (h : r.fit) (hs : s.ok = true) (hx : 0 ≤ x ∧ x ≤ 2) : (Rn.step s r x).fit := by
  obtain ⟨h0, h1, h2, h3⟩ := h
  obtain ⟨n0, n1⟩ := next_bd hs ⟨h0, h1⟩ hx
  obtain ⟨f0, f1⟩ := fac_bd hs (s.next r.st x)
  refine ⟨n0, n1, Int.mul_nonneg h2 f0, ?_⟩
  have e1 : r.wt * s.fac (s.next r.st x) ≤ r.wt * 9 := Int.mul_le_mul_of_nonneg_left f1 h2
  have e2 : r.wt * 9 ≤ 9 ^ r.pos * 9 := Int.mul_le_mul_of_nonneg_right h3 (by decide)
  have e3 : (9 : Int) ^ (r.pos + 1) = 9 ^ r.pos * 9 := Int.pow_succ 9 r.pos
  have e4 := pow9_le (show r.pos + 1 ≤ r.pos + 1 + s.jump r.st by omega)
  show r.wt * s.fac (s.next r.st x) ≤ 9 ^ (r.pos + 1 + s.jump r.st)
  omega
end Go.Proofs.Ytghkpmafocacoaa
namespace Go.Proofs.Ytghkpmafocacoaa
set_option maxRecDepth 100000
/-- How a run ended: what was drawn, the state and the weight. -/
abbrev Leaf := List Int × Int × Int
def lpre (pre : List Int) (l : Leaf) : Leaf := (pre ++ l.1, l.2)
/-- All ends of runs from a place on; a run whose weight is 0 ends there. -/
def lv : List St → Nat → Int → Int → List Leaf
  | [], _, st, wt => [([], st, wt)]
  | _ :: r, k + 1, st, wt => lv r k st wt
  | s :: r, 0, st, wt =>
    if wt = 0 then [([], st, 0)]
    else if s.draws then
      (lv r 0 (s.next st 0) (wt * s.fac (s.next st 0))).map (lpre [0]) ++ ((lv r 0 (s.next st 1) (wt * s.fac (s.next st 1))).map (lpre [1]) ++ (lv r 0 (s.next st 2) (wt * s.fac (s.next st 2))).map (lpre [2]))
    else lv r (s.jump st) (s.next st 0) (wt * s.fac (s.next st 0))
def lvR (os : List St) (r : Rn) : List Leaf := lv (os.drop r.pos) 0 r.st r.wt
/-- The runs that draw d where r is. -/
def bran (os : List St) (pre : List Int) (s : St) (r : Rn) (d : Int) : List Leaf := (lvR os (Rn.step s r d)).map (lpre (pre ++ [d]))
/-- The runs behind those that draw what the row has in place j. -/
def restAt (os : List St) (row : List Int) (stk : List Rn) (j : Nat) : List Leaf :=
  match row[j]?, stk[j]? with
  | some d, some r =>
    match os[r.pos]? with
    | some s => (if d < 1 then bran os (row.take j) s r 1 else []) ++ (if d < 2 then bran os (row.take j) s r 2 else [])
    | none => []
  | _, _ => []
def rest (os : List St) (row : List Int) (stk : List Rn) : Nat → List Leaf
  | 0 => []
  | j + 1 => restAt os row stk j ++ rest os row stk j
end Go.Proofs.Ytghkpmafocacoaa
namespace Go.Proofs.Ytghkpmafocacoaa
set_option maxRecDepth 100000
end Go.Proofs.Ytghkpmafocacoaa
namespace Go.Proofs.Ytghkpmafocacoaa
set_option maxRecDepth 100000
end Go.Proofs.Ytghkpmafocacoaa
namespace Go.Proofs.Ytghkpmafocacoaa
set_option maxRecDepth 100000
set_option linter.unusedVariables false
/-- The sum, over all ends of runs from a place on, of the weight times h of the state in the end. -/
def val (h : Int → Int) : List St → Nat → Int → Int
  | [], _, st => h st
  | _ :: r, k + 1, st => val h r k st
  | s :: r, 0, st =>
    if s.draws then s.fac (s.next st 0) * val h r 0 (s.next st 0) + s.fac (s.next st 1) * val h r 0 (s.next st 1) + s.fac (s.next st 2) * val h r 0 (s.next st 2)
    else s.fac (s.next st 0) * val h r (s.jump st) (s.next st 0)
end Go.Proofs.Ytghkpmafocacoaa

namespace Go.Proofs.Ytghkpmafocacoaa
set_option maxRecDepth 100000
open Go.RowKit
/-- Block g of a world is these cells of type t, none of them frozen. -/
def Has (w : World) (g : Nat) (t : TypeId) (cs : Array Value) : Prop := w.heap[g]? = some (.cells cs t (0, 0))
theorem Has.lt {w : World} {g : Nat} {t : TypeId} {cs : Array Value} (h : Has w g t cs) : g < w.heap.size := (Array.getElem?_eq_some_iff.1 h).1
theorem Has.cell {w : World} {g : Nat} {t : TypeId} {cs : Array Value} (h : Has w g t cs) : ∀ i, w.cell? ⟨g, i, none⟩ = cs[i]? := fun i => cell_of_row w g i cs t (0, 0) h
theorem Has.frozen {w : World} {g : Nat} {t : TypeId} {cs : Array Value} (h : Has w g t cs) : ∀ i, w.frozen? ⟨g, i, none⟩ = false := fun i => by
  have h' : w.heap[g]? = some (.cells cs t (0, 0)) := h
  simp [World.frozen?, h']
theorem Has.new (w : World) (t : TypeId) (cs : Array Value) : Has (w.alloc (.cells cs t)) w.heap.size t cs := heap_alloc_new w _
theorem Has.alloc {w : World} {g : Nat} {t : TypeId} {cs : Array Value} (h : Has w g t cs) (o : Obj) : Has (w.alloc o) g t cs := (Below.heap_alloc w o g h.lt).trans h
theorem Has.drewN {w : World} {g : Nat} {t : TypeId} {cs : Array Value} (h : Has w g t cs) (n : Nat) : Has (w.drewN n) g t cs := h
theorem Has.below {w w' : World} {B g : Nat} {t : TypeId} {cs : Array Value} (h : Has w g t cs) (hb : Below B w w') (hg : g < B) : Has w' g t cs := (hb.block g hg).trans h
theorem Has.kept {w w' : World} {g : Nat} {t : TypeId} {cs : Array Value} (h : Has w g t cs) (hb : Below w.heap.size w w') : Has w' g t cs := h.below hb h.lt
theorem Has.put {w : World} {g : Nat} {t : TypeId} {cs : Array Value} (h : Has w g t cs) (i : Nat) (u : Value) : Has (w.setCell ⟨g, i, none⟩ u) g t (cs.setIfInBounds i u) := by
  have h' : w.heap[g]? = some (.cells cs t (0, 0)) := h
  show (w.setCell ⟨g, i, none⟩ u).heap[g]? = _
  simp [World.setCell, Array.getElem?_modify, h']
theorem Has.far {w : World} {g : Nat} {t : TypeId} {cs : Array Value} (h : Has w g t cs) {p : Addr} (hp : g ≠ p.block) (u : Value) : Has (w.setCell p u) g t cs := (Below.heap_setCell w p u g hp).trans h
end Go.Proofs.Ytghkpmafocacoaa

namespace Go.Proofs.Ytghkpmafocacoaa
set_option maxRecDepth 100000
open Go.RowKit
def bitN (n : Int) : Int := if inB n 0 3 = true then (2 ^ n.toNat : Nat) else 0
def St.reads (s : St) : Int :=
  if s.ok = true then
    (if s.k = 0 ∨ s.k = 3 then bitN s.b else if s.k = 1 ∨ s.k = 5 then bitN s.a + bitN s.b else if s.k = 4 ∨ s.k = 6 then bitN s.a else 0)
  else 0
def St.sets (s : St) : Int := if s.ok = true ∧ s.k ≤ 3 then s.a else -1
theorem bitOf_any (n : Int) (w : World) : Calls Try.prog 91 #[.int .i64 n] w fun e w' => e = .returned (.int .i64 (bitN n)) ∧ w = w' := by
  rcases inB_cases n 0 3 with ⟨h1, h2, hr⟩ | ⟨h1, hr⟩
  · obtain ⟨k, rfl, hk⟩ := nat4 h1 h2
    obtain rfl | rfl | rfl | rfl : k = 0 ∨ k = 1 ∨ k = 2 ∨ k = 3 := by omega
    all_goals
      go_enter Try.func91, Try.ntmps91
      go_wp2_with (go_at_call 97; refine (varOk_any _ _).mono ?_; rintro e w' ⟨rfl, rfl⟩)
      go_ret
      exact ⟨rfl, rfl⟩
  · have hR := Lib.hid (show bitN n = 0 by simp [bitN, hr])
    go_enter Try.func91, Try.ntmps91
    go_wp2_with (go_at_call 97; refine (varOk_any _ _).mono ?_; rintro e w' ⟨rfl, rfl⟩)
    go_ret
    exact ⟨ret_int hR.out, rfl⟩
theorem bit_cases {n : Int} (h0 : 0 ≤ n) (h1 : n ≤ 3) : n = 0 ∨ n = 1 ∨ n = 2 ∨ n = 3 := by omega
theorem bitN_bd (n : Int) : 0 ≤ bitN n ∧ bitN n ≤ 8 := by
  rcases inB_cases n 0 3 with ⟨h1, h2, hr⟩ | ⟨h1, hr⟩
  · obtain rfl | rfl | rfl | rfl := bit_cases h1 h2
    all_goals decide
  · simp [bitN, hr]
end Go.Proofs.Ytghkpmafocacoaa
namespace Go.Proofs.Ytghkpmafocacoaa
set_option maxRecDepth 100000
open Go.RowKit
end Go.Proofs.Ytghkpmafocacoaa

namespace Go.Proofs.Ytghkpmafocacoaa
set_option maxRecDepth 100000
set_option linter.unusedVariables false
/-- Sets of variables as bits. -/
def tb (L : Int) (v : Nat) : Bool := L.toNat.testBit v
def bor (a b : Int) : Int := ((a.toNat ||| b.toNat : Nat) : Int)
def bdf (a b : Int) : Int := ((a.toNat &&& (15 - b.toNat) : Nat) : Int)
theorem bor_bd {a b : Int} (ha : a ≤ 15) (hb : b ≤ 15) : 0 ≤ bor a b ∧ bor a b ≤ 15 := by
  unfold bor
  have h1 : a.toNat < 2 ^ 4 := by omega
  have h2 : b.toNat < 2 ^ 4 := by omega
  have := Nat.or_lt_two_pow h1 h2
  omega
/-- Two states have the same values of all variables of a set. -/
def agree (L a b : Int) : Prop := ∀ v : Nat, v ≤ 3 → tb L v = true → valueAt a v = valueAt b v
theorem value_bd {st v : Int} (hs : 0 ≤ st ∧ st ≤ 80) (hv : 0 ≤ v ∧ v ≤ 3) : 0 ≤ valueAt st v ∧ valueAt st v ≤ 2 := by
  obtain ⟨k, rfl, hk⟩ := nat4 hv.1 hv.2
  rw [valueAt_yes hs.1 hs.2 rfl hk]
  omega
theorem agree.symm {L a b : Int} (h : agree L a b) : agree L b a := fun v hv ht => (h v hv ht).symm
theorem agree.mono {L M a b : Int} (h : agree L a b) (hm : ∀ v : Nat, v ≤ 3 → tb M v = true → tb L v = true) : agree M a b := fun v hv ht => h v hv (hm v hv ht)
/-- The variables on which it hangs ahead of a statement. -/
def St.ahead (s : St) (L : Int) : Int := if s.k = 4 ∨ s.k = 5 ∨ (0 ≤ s.sets ∧ tb L s.sets.toNat = true) then bor (bdf L (bitN s.sets)) s.reads else L
end Go.Proofs.Ytghkpmafocacoaa

namespace Go.Proofs.Ytghkpmafocacoaa
set_option maxRecDepth 100000
open Go.RowKit
/-- The seven cells from o on in block g are a statement. -/
def StAt (w : World) (g o : Nat) (s : St) : Prop := ∀ j u, s.cells[j]? = some u → w.cell? ⟨g, o + j, none⟩ = some u
/-- A slice's value reads as a list of statements, all below block B. -/
def Lst (w : World) (B : Nat) (A : Option Addr) (n : Nat) (ps : List St) : Prop :=
  ps.length = n ∧ (0 < n → ∃ g off, A = some ⟨g, off, none⟩ ∧ g < B ∧ ∀ k s, ps[k]? = some s → StAt w g (off + k * 7) s)
theorem StAt.keep {w w' : World} {g o : Nat} {s : St} (h : StAt w g o s) (hk : ∀ p : Addr, p.block = g → w'.cell? p = w.cell? p) : StAt w' g o s := fun j u hu => (hk _ rfl).trans (h j u hu)
theorem Lst.keep {w w' : World} {B : Nat} {A : Option Addr} {n : Nat} {ps : List St} (h : Lst w B A n ps) (hk : ∀ p : Addr, p.block < B → w'.cell? p = w.cell? p) : Lst w' B A n ps :=
  ⟨h.1, fun hn => by
    obtain ⟨g, off, e, hg, hc⟩ := h.2 hn
    exact ⟨g, off, e, hg, fun k s hs => (hc k s hs).keep fun p hp => hk p (by omega)⟩⟩
theorem Lst.below {w w' : World} {B : Nat} {A : Option Addr} {n : Nat} {ps : List St} (h : Lst w B A n ps) (hb : Below B w w') : Lst w' B A n ps := h.keep fun _ hp => hb.cell hp
theorem Lst.more {w : World} {B B' : Nat} {A : Option Addr} {n : Nat} {ps : List St} (h : Lst w B A n ps) (hB : B ≤ B') : Lst w B' A n ps :=
  ⟨h.1, fun hn => by
    obtain ⟨g, off, e, hg, hc⟩ := h.2 hn
    exact ⟨g, off, e, by omega, hc⟩⟩
theorem Lst.at_ {w : World} {B : Nat} {A : Option Addr} {n k : Nat} {ps : List St} (h : Lst w B A n ps) (hk : k < n) :
    ∃ (g off : Nat) (s : St), A = some ⟨g, off, none⟩ ∧ g < B ∧ ps[k]? = some s ∧ StAt w g (off + k * 7) s := by
  obtain ⟨g, off, e, hg, hc⟩ := h.2 (by omega)
  have hl : k < ps.length := by have := h.1; omega
  exact ⟨g, off, ps[k], e, hg, List.getElem?_eq_getElem hl, hc k _ (List.getElem?_eq_getElem hl)⟩
end Go.Proofs.Ytghkpmafocacoaa
namespace Go.Proofs.Ytghkpmafocacoaa
set_option maxRecDepth 100000
open Go.RowKit
def flat (os : List St) : List Value := os.flatMap St.cells
theorem flat_append (a b : List St) : flat (a ++ b) = flat a ++ flat b := List.flatMap_append
theorem flat_length (os : List St) : (flat os).length = os.length * 7 := by
  induction os with
  | nil => rfl
  | cons s r ih =>
    have : flat (s :: r) = s.cells ++ flat r := rfl
    rw [this, List.length_append, ih, List.length_cons]
    simp [St.cells]; omega
/-- Where a cell of a flat list comes from. -/
theorem flat_get : ∀ {qs : List St} {j : Nat} {u : Value}, (flat qs)[j]? = some u → ∃ i r s, j = i * 7 + r ∧ qs[i]? = some s ∧ s.cells[r]? = some u
  | [], j, u, h => by simp [flat] at h
  | s :: qs, j, u, h => by
    have e : flat (s :: qs) = s.cells ++ flat qs := rfl
    rw [e] at h
    by_cases hj : j < 7
    · exact ⟨0, j, s, by omega, rfl, by rwa [List.getElem?_append_left (by simpa [St.cells] using hj)] at h⟩
    · rw [List.getElem?_append_right (by simp [St.cells]; omega)] at h
      obtain ⟨i, r, q, h1, h2, h3⟩ := flat_get h
      have h1' : j - 7 = i * 7 + r := h1
      exact ⟨i + 1, r, q, by omega, h2, h3⟩
theorem flat_at : ∀ {qs : List St} {i r : Nat} {s : St} {u : Value}, qs[i]? = some s → s.cells[r]? = some u → (flat qs)[i * 7 + r]? = some u
  | [], i, r, s, u, h, _ => by simp at h
  | q :: qs, 0, r, s, u, h, hu => by
    have hq : q = s := by simpa using h
    subst hq
    have hr : r < 7 := by have := (List.getElem?_eq_some_iff.1 hu).1; simpa [St.cells] using this
    have e : flat (q :: qs) = q.cells ++ flat qs := rfl
    rw [e, Nat.zero_mul, Nat.zero_add, List.getElem?_append_left (by simpa [St.cells] using hr)]
    exact hu
  | q :: qs, i + 1, r, s, u, h, hu => by
    have e : flat (q :: qs) = q.cells ++ flat qs := rfl
    rw [e, List.getElem?_append_right (by simp [St.cells]; omega)]
    have : (i + 1) * 7 + r - q.cells.length = i * 7 + r := by simp [St.cells]; omega
    rw [this]
    exact flat_at (by simpa using h) hu
/-- A slice's value that the call itself has made, from block 'base' on: it holds these statements. -/
def Own (w : World) (base : Nat) (v : Value) (os : List St) : Prop := w.ownsRow base 116 7 v os.length (flat os)
theorem Own.nil (w : World) (base : Nat) : Own w base (.slice none 0 0) [] := World.ownsRow_nil w base _ _
theorem Own.alloc {w : World} {base : Nat} {v : Value} {os : List St} (h : Own w base v os) (o : Obj) : Own (w.alloc o) base v os := World.ownsRow.alloc h o
theorem Own.below {w w' : World} {base : Nat} {v : Value} {os : List St} (h : Own w base v os) (hb : Below w.heap.size w w') : Own w' base v os := by
  refine ⟨h.1, ?_⟩
  rcases h.2 with hn | ⟨g, cap, cur, hv, hg, hh, rest⟩
  · exact .inl hn
  · exact .inr ⟨g, cap, cur, hv, hg, (hb.block g (Array.getElem?_eq_some_iff.1 hh).1).trans hh, rest⟩
theorem Own.form {w : World} {base : Nat} {v : Value} {os : List St} (h : Own w base v os) : ∃ A c, v = .slice A os.length c ∧ os.length ≤ c ∧ c ≤ maxLen := by
  rcases h.2 with ⟨hv, hn⟩ | ⟨g, cap, cur, hv, _, _, h1, h2, _⟩
  · exact ⟨none, 0, by rw [hv, hn], by omega, by simp [maxLen]⟩
  · exact ⟨_, cap, hv, h1, h2⟩
/-- What a call has made reads as a list. -/
theorem Own.lst {w : World} {base : Nat} {A : Option Addr} {n c : Nat} {os : List St} (h : Own w base (.slice A n c) os) : Lst w w.heap.size A n os := by
  rcases h.2 with ⟨hv, hn⟩ | ⟨g, cap, cur, hv, hg, hh, h1, h2, h3, h4⟩
  · injection hv with _ e2 _
    exact ⟨by omega, fun h0 => by omega⟩
  · injection hv with e1 e2 _
    refine ⟨by omega, fun h0 => ⟨g, 0, e1, (Array.getElem?_eq_some_iff.1 hh).1, fun k s hs j u hu => ?_⟩⟩
    have hf := flat_at hs hu
    rw [Nat.zero_add, cell_of_row w g _ cur 116 (0, 0) hh]
    rw [← h4, List.getElem?_take] at hf
    split at hf
    · simpa using hf
    · cases hf
/-- The cells of a part of a list, from its head on. -/
theorem Lst.part {w : World} {B n k m g off : Nat} {ps : List St} (h : Lst w B (some ⟨g, off, none⟩) n ps) (hm : 0 < m) (hk : k + m ≤ n) :
    ∀ j u, (flat ((ps.drop k).take m))[j]? = some u → w.cell? ((⟨g, off + k * 7, none⟩ : Addr).add j) = some u := by
  intro j u hu
  obtain ⟨i, r, s, rfl, hs, hr⟩ := flat_get hu
  obtain ⟨g', off', e, hg, hc⟩ := h.2 (by omega)
  injection e with e
  injection e with e1 e2 _
  subst e1 e2
  rw [List.getElem?_take, List.getElem?_drop] at hs
  split at hs
  · have hx := hc (k + i) s hs r u hr
    have ha : ((⟨g, off + k * 7, none⟩ : Addr).add (i * 7 + r)) = ⟨g, off + (k + i) * 7 + r, none⟩ := by
      unfold Addr.add
      split
      · (rename_i h0; simp at h0 ⊢; try omega)
      · (simp; try omega)
    rw [ha]; exact hx
  · cases hs
/-- Behind an append: what the call owns now, and that nothing below has turned. -/
theorem Own.append_ {w w' : World} {base : Nat} {v v' : Value} {os news : List St} (hown : Own w base v os) (h : w'.ownsRow base 116 7 v' (os.length + news.length) (flat os ++ flat news)) (hg : w.grownBy w' v.ownBlock)
    {w0 : World} (hb : Below base w0 w) (hB : base ≤ w.heap.size) : Own w' base v' (os ++ news) ∧ Below base w0 w' := by
  refine ⟨?_, hb.grown hg hB fun k hk => ((World.ownsRow.lt hown) k hk).1⟩
  unfold Own
  rw [List.length_append, flat_append]
  exact h
end Go.Proofs.Ytghkpmafocacoaa

namespace Go.Proofs.Ytghkpmafocacoaa
set_option maxRecDepth 100000
open Go.RowKit
/-- How Unrolled ends: what it hands back, in memory of its own. -/
def Unrd (w : World) (r : Option (List St)) (e : Ending) (w' : World) : Prop :=
  ∃ v, e = .returned (.tuple #[v, .bool r.isSome]) ∧ Own w' w.heap.size v (r.getD []) ∧ Below w.heap.size w w'
theorem Unrd.no {w w' : World} {r : Option (List St)} (h : r = none) (hb : Below w.heap.size w w') : Unrd w r (.returned (.tuple #[.slice none 0 0, .bool false])) w' := by
  subst h; exact ⟨_, rfl, Own.nil _ _, hb⟩
end Go.Proofs.Ytghkpmafocacoaa
namespace Go.Proofs.Ytghkpmafocacoaa
set_option maxRecDepth 100000
open Go.RowKit
/-- How the model's l1Unrolled ends: where it says yes, with what is told out in memory of its own. -/
def L1d (w : World) (r : Option (List St)) (e : Ending) (w' : World) : Prop :=
  ∃ v, e = .returned (.tuple #[v, .bool r.isSome]) ∧ (∀ os, r = some os → Own w' w.heap.size v os) ∧ Below w.heap.size w w'
theorem L1d.no {w w' : World} {r : Option (List St)} (h : r = none) (hb : Below w.heap.size w w') : L1d w r (.returned (.tuple #[.slice none 0 0, .bool false])) w' := by
  subst h; exact ⟨_, rfl, (fun _ h => by cases h), hb⟩
end Go.Proofs.Ytghkpmafocacoaa
namespace Go.Proofs.Ytghkpmafocacoaa
set_option maxRecDepth 100000
open Go.RowKit
def St.low (s : St) : Bool := decide (s.k < 6)
end Go.Proofs.Ytghkpmafocacoaa
namespace Go.Proofs.Ytghkpmafocacoaa
set_option maxRecDepth 100000
open Go.RowKit
end Go.Proofs.Ytghkpmafocacoaa

namespace Go.Proofs.Ytghkpmafocacoaa
set_option maxRecDepth 100000
open Go.RowKit
end Go.Proofs.Ytghkpmafocacoaa
namespace Go.Proofs.Ytghkpmafocacoaa
set_option maxRecDepth 100000
open Go.ChangeShapes Go.WideShapes Go.RowKit Go.Deep
section
variable {H : Type} {enc : TypeId × Value → H} {w : World} {base : Nat} {spare : Nat → Bool} {held : Bool}
end
end Go.Proofs.Ytghkpmafocacoaa
namespace Go.Proofs.Ytghkpmafocacoaa
set_option maxRecDepth 100000
open Go.ChangeShapes Go.WideShapes Go.RowKit Go.Deep
section
variable {H : Type} {enc : TypeId × Value → H} {w : World} {base : Nat}
end
/-- The first k statements of a list lie in a row of cells. -/
def Fill (cs : Array Value) (ps : List St) (n k : Nat) : Prop := cs.size = n * 7 ∧ ∀ i s, i < k → ps[i]? = some s → ∀ j u, s.cells[j]? = some u → cs[i * 7 + j]? = some u
def put7 (cs : Array Value) (o : Nat) (s : St) : Array Value :=
  ((((((cs.setIfInBounds o (.int .i64 s.k)).setIfInBounds (o + 1) (.int .i64 s.a)).setIfInBounds (o + 2) (.int .i64 s.b)).setIfInBounds (o + 3) (.int .i64 s.c)).setIfInBounds (o + 4) (.int .i64 s.u)).setIfInBounds (o + 5) (.int .i64 s.v)).setIfInBounds (o + 6) (.int .i64 s.x)
theorem put_at {cs : Array Value} {i x : Nat} {v : Value} (h : x < cs.size) (e : i = x := by omega) : (cs.setIfInBounds i v)[x]? = some v := by subst e; simp [h]
theorem put_ne {cs : Array Value} {i x : Nat} {v : Value} (h : i ≠ x) : (cs.setIfInBounds i v)[x]? = cs[x]? := by simp [h]
theorem put7_size (cs : Array Value) (o : Nat) (s : St) : (put7 cs o s).size = cs.size := by simp [put7]
theorem put7_far (cs : Array Value) (o x : Nat) (s : St) (h : x < o ∨ o + 7 ≤ x) : (put7 cs o s)[x]? = cs[x]? := by
  unfold put7
  simp only [Array.getElem?_setIfInBounds, Array.size_setIfInBounds]
  repeat rw [if_neg (by omega)]
theorem put7_at (cs : Array Value) (o : Nat) (s : St) (h : o + 7 ≤ cs.size) {j : Nat} {u : Value} (hu : s.cells[j]? = some u) : (put7 cs o s)[o + j]? = some u := by
  have hj : j < 7 := by have := (List.getElem?_eq_some_iff.1 hu).1; simpa [St.cells] using this
  unfold put7
  obtain rfl | rfl | rfl | rfl | rfl | rfl | rfl : j = 0 ∨ j = 1 ∨ j = 2 ∨ j = 3 ∨ j = 4 ∨ j = 5 ∨ j = 6 := by omega
  · rw [put_ne (by omega), put_ne (by omega), put_ne (by omega), put_ne (by omega), put_ne (by omega), put_ne (by omega), put_at (by simp; omega)]; exact hu
  · rw [put_ne (by omega), put_ne (by omega), put_ne (by omega), put_ne (by omega), put_ne (by omega), put_at (by simp; omega)]; exact hu
  · rw [put_ne (by omega), put_ne (by omega), put_ne (by omega), put_ne (by omega), put_at (by simp; omega)]; exact hu
  · rw [put_ne (by omega), put_ne (by omega), put_ne (by omega), put_at (by simp; omega)]; exact hu
  · rw [put_ne (by omega), put_ne (by omega), put_at (by simp; omega)]; exact hu
  · rw [put_ne (by omega), put_at (by simp; omega)]; exact hu
  · rw [put_at (by simp; omega)]; exact hu
theorem Fill.step {cs : Array Value} {ps : List St} {n k : Nat} {s : St} (h : Fill cs ps n k) (hs : ps[k]? = some s) (hk : k < n) : Fill (put7 cs (k * 7) s) ps n (k + 1) := by
  refine ⟨by rw [put7_size]; exact h.1, fun i q hi hq j u hu => ?_⟩
  have hj : j < 7 := by have := (List.getElem?_eq_some_iff.1 hu).1; simpa [St.cells] using this
  by_cases hik : i = k
  · subst hik
    obtain rfl : s = q := Option.some.inj (hs.symm.trans hq)
    exact put7_at cs _ _ (by rw [h.1]; omega) hu
  · rw [put7_far cs _ _ _ (by omega)]
    exact h.2 i q (by omega) hq j u hu
theorem Fill.done {cs : Array Value} {ps : List St} {n : Nat} (h : Fill cs ps n n) (hL : ps.length = n) : cs.toList = flat ps := by
  apply List.ext_getElem?
  intro x
  rw [Array.getElem?_toList]
  by_cases hx : x < n * 7
  · have hi : x / 7 < ps.length := by rw [hL]; omega
    have hr : x % 7 < (ps[x / 7]).cells.length := by simp [St.cells]; omega
    have h1 := h.2 (x / 7) ps[x / 7] (by omega) (List.getElem?_eq_getElem hi) (x % 7) _ (List.getElem?_eq_getElem hr)
    have h2 := flat_at (List.getElem?_eq_getElem hi) (List.getElem?_eq_getElem hr)
    rw [show x / 7 * 7 + x % 7 = x by omega] at h1 h2
    rw [h1, h2]
  · rw [Array.getElem?_eq_none (by rw [h.1]; omega), List.getElem?_eq_none (by rw [flat_length, hL]; omega)]
theorem Has.put7 {w : World} {g : Nat} {cs : Array Value} (h : Has w g 116 cs) (o : Nat) (s : St) :
    Has (((((((w.setCell ⟨g, o, none⟩ (.int .i64 s.k)).setCell ⟨g, o + 1, none⟩ (.int .i64 s.a)).setCell ⟨g, o + 2, none⟩ (.int .i64 s.b)).setCell ⟨g, o + 3, none⟩ (.int .i64 s.c)).setCell ⟨g, o + 4, none⟩ (.int .i64 s.u)).setCell ⟨g, o + 5, none⟩ (.int .i64 s.v)).setCell ⟨g, o + 6, none⟩ (.int .i64 s.x)) g 116 (put7 cs o s) :=
  ((((((h.put o _).put (o + 1) _).put (o + 2) _).put (o + 3) _).put (o + 4) _).put (o + 5) _).put (o + 6) _
/-- A block that holds a list's cells reads as that list. -/
theorem Has.lst {w : World} {g n : Nat} {cs : Array Value} {ps : List St} (h : Has w g 116 cs) (hf : cs.toList = flat ps) (hL : ps.length = n) : Lst w w.heap.size (some ⟨g, 0, none⟩) n ps := by
  refine ⟨hL, fun _ => ⟨g, 0, rfl, h.lt, fun k s hs j u hu => ?_⟩⟩
  rw [Nat.zero_add, h.cell, ← Array.getElem?_toList, hf]
  exact flat_at hs hu
end Go.Proofs.Ytghkpmafocacoaa
namespace Go.Proofs.Ytghkpmafocacoaa
set_option maxRecDepth 100000
open Go.RowKit
/-- The statement whose seven numbers are m, m + 1, .., m + 6. -/
def mkSt (m : Int) : St := ⟨m, m + 1, m + 1 + 1, m + 1 + 1 + 1, m + 1 + 1 + 1 + 1, m + 1 + 1 + 1 + 1 + 1, m + 1 + 1 + 1 + 1 + 1 + 1⟩
/-- n statements, numbered through from m on. -/
def marks (m : Int) (n : Nat) : List St := (List.range n).map fun (i : Nat) => mkSt (m + 7 * i)
theorem marks_length (m : Int) (n : Nat) : (marks m n).length = n := by simp [marks]
theorem marks_get (m : Int) {n i : Nat} (h : i < n) : (marks m n)[i]? = some (mkSt (m + 7 * i)) := by
  unfold marks
  rw [List.getElem?_map, List.getElem?_range h]; rfl
/-- Only the block of A has turned. -/
def Only (w w' : World) (A : Option Addr) : Prop := w.grownBy w' (A.map (·.block))
/-- The first k statements' marks lie in a row of cells. -/
def Mk (cs : Array Value) (m : Int) (n k : Nat) : Prop := n * 7 ≤ cs.size ∧ ∀ i, i < k → ∀ j u, (mkSt (m + 7 * i)).cells[j]? = some u → cs[i * 7 + j]? = some u
theorem Mk.step {cs : Array Value} {m : Int} {n k : Nat} (h : Mk cs m n k) (hk : k < n) : Mk (put7 cs (k * 7) (mkSt (m + 7 * k))) m n (k + 1) := by
  refine ⟨by rw [put7_size]; exact h.1, fun i hi j u hu => ?_⟩
  have hj : j < 7 := by have := (List.getElem?_eq_some_iff.1 hu).1; simpa [St.cells] using this
  by_cases hik : i = k
  · subst hik
    exact put7_at cs _ _ (by have := h.1; omega) hu
  · rw [put7_far cs _ _ _ (by omega)]
    exact h.2 i (by omega) j u hu
theorem Mk.lst {w : World} {g n : Nat} {cs : Array Value} {m : Int} (hh : Has w g 116 cs) (h : Mk cs m n n) : Lst w w.heap.size (some ⟨g, 0, none⟩) n (marks m n) := by
  refine ⟨marks_length m n, fun _ => ⟨g, 0, rfl, hh.lt, fun k s hs j u hu => ?_⟩⟩
  have hk : k < n := by have := (List.getElem?_eq_some_iff.1 hs).1; rwa [marks_length] at this
  rw [marks_get m hk] at hs
  obtain rfl := Option.some.inj hs
  rw [Nat.zero_add, hh.cell]
  exact h.2 k hk j u hu
end Go.Proofs.Ytghkpmafocacoaa
namespace Go.Proofs.Ytghkpmafocacoaa
set_option maxRecDepth 100000
set_option linter.unusedVariables false
open Go.RowKit
end Go.Proofs.Ytghkpmafocacoaa
