/- Parts of the proof: Sp. -/
import Derived.Deep.QuietTactic
import Derived.BigQuiet
import Derived.StillTailTactics
import Derived.Deep.RegionHeld3
import Derived.Deep.RegionLaw
import Derived.Test.YtghkpmafocacoaaZAC
namespace Go.Proofs.Ytghkpmafocacoaa
set_option maxRecDepth 100000
set_option linter.unusedVariables false
open Go.RowKit
theorem valueAt_in {s v : Int} (hs : 0 ≤ s ∧ s ≤ 80) (hv : 0 ≤ v ∧ v ≤ 3) : 0 ≤ valueAt s v ∧ valueAt s v ≤ 2 := by
  obtain ⟨k, hk, h3⟩ := nat4 hv.1 hv.2
  rw [valueAt_yes hs.1 hs.2 hk h3]; omega
theorem ValueAt_q (s v : Int) (w : World) :
    Calls Try.prog 101 #[.int .i64 s, .int .i64 v] w fun e w' => e = .returned (.int .i64 (valueAt s v)) ∧ w' = w := (ValueAt_any s v w).mono fun _ _ h => ⟨h.1, h.2.symm⟩
theorem mod3 {m : Int} (h : 0 ≤ m ∧ m ≤ 2) : m % 3 = m := by omega
theorem stateBehind_0 (a b c u v y st x : Int) (w : World) (h : 0 ≤ st ∧ st ≤ 80) (hx : 0 ≤ x ∧ x ≤ 2) (ha0 : 0 ≤ a) (ha3 : a ≤ 3) (hb1 : -1 ≤ b) (hb3 : b ≤ 3) (hc0 : 0 ≤ c) (hc2 : c ≤ 2) :
    Calls Try.prog 197 #[.agg #[.int .i64 0, .int .i64 a, .int .i64 b, .int .i64 c, .int .i64 u, .int .i64 v, .int .i64 y], .int .i64 st, .int .i64 x] w fun e w' => e = .returned (.int .i64 ((St.mk 0 a b c u v y).next st x)) ∧ Below w.heap.size w w' := by
  by_cases hb : b = -1
  · subst hb
    have hR := Lib.hid (show (St.mk 0 a (-1) c u v y).next st x = withValue st a (c % 3) by simp [St.next])
    go_enter Try.func197, Try.ntmps197
    go_wp2_with (first | (go_at_call 49; refine (WithValue_any _ _ _ _).mono ?_; rintro e w' ⟨rfl, rfl⟩))
    go_ret
    exact ⟨ret_int hR.out, (Below.refl _ _).alloc (Nat.le_refl _) _⟩
  · have hb0 : 0 ≤ b := by omega
    have hR : (St.mk 0 a b c u v y).next st x = withValue st a ((c + valueAt st b) % 3) := by simp [St.next, hb]
    have hmb := valueAt_in h ⟨hb0, hb3⟩
    generalize hgb : valueAt st b = mb at hmb hR
    have hMb := Lib.hid hgb
    clear hgb
    replace hR := Lib.hid hR
    go_enter Try.func197, Try.ntmps197
    go_wp2_with (first | (go_at_call 101; refine (ValueAt_any st b _).mono ?_; rw [hMb.out]; rintro e w' ⟨rfl, rfl⟩) | (go_at_call 49; refine (WithValue_any _ _ _ _).mono ?_; rintro e w' ⟨rfl, rfl⟩))
    go_ret
    exact ⟨ret_int hR.out, (Below.refl _ _).alloc (Nat.le_refl _) _⟩
theorem stateBehind_1 (a b c u v y st x : Int) (w : World) (h : 0 ≤ st ∧ st ≤ 80) (hx : 0 ≤ x ∧ x ≤ 2) (ha0 : 0 ≤ a) (ha3 : a ≤ 3) (hb0 : 0 ≤ b) (hb3 : b ≤ 3) (hne : a ≠ b) :
    Calls Try.prog 197 #[.agg #[.int .i64 1, .int .i64 a, .int .i64 b, .int .i64 c, .int .i64 u, .int .i64 v, .int .i64 y], .int .i64 st, .int .i64 x] w fun e w' => e = .returned (.int .i64 ((St.mk 1 a b c u v y).next st x)) ∧ Below w.heap.size w w' := by
  have hR := Lib.hid (show (St.mk 1 a b c u v y).next st x = withValue st a ((valueAt st a + valueAt st b) % 3) by simp [St.next])
  have hma := valueAt_in h ⟨ha0, ha3⟩
  have hmb := valueAt_in h ⟨hb0, hb3⟩
  have hsum : IntKind.i64.wrap (valueAt st a + valueAt st b) = valueAt st a + valueAt st b := by rw [IntKind.wrap_i64]; omega
  go_enter Try.func197, Try.ntmps197
  go_wp2_with fail
  go_quiet ((go_at_call 101; exact Calls.quiet_of_same (ValueAt_q _ _ _)))
  go_wp2_with (first | (go_at_call 49; refine (WithValue_any _ _ _ _).mono ?_; rintro e w' ⟨rfl, rfl⟩))
  go_ret
  exact ⟨ret_int hR.out, below_drewN ((Below.refl _ _).alloc (Nat.le_refl _) _) _⟩
theorem stateBehind_2 (a b c u v y st x : Int) (w : World) (h : 0 ≤ st ∧ st ≤ 80) (hx : 0 ≤ x ∧ x ≤ 2)  :
    Calls Try.prog 197 #[.agg #[.int .i64 2, .int .i64 a, .int .i64 b, .int .i64 c, .int .i64 u, .int .i64 v, .int .i64 y], .int .i64 st, .int .i64 x] w fun e w' => e = .returned (.int .i64 ((St.mk 2 a b c u v y).next st x)) ∧ Below w.heap.size w w' := by
  have hR := Lib.hid (show (St.mk 2 a b c u v y).next st x = withValue st a (x % 3) by rw [mod3 hx]; simp [St.next])
  go_enter Try.func197, Try.ntmps197
  go_wp2_with (first | (go_at_call 49; refine (WithValue_any _ _ _ _).mono ?_; rintro e w' ⟨rfl, rfl⟩))
  go_ret
  exact ⟨ret_int hR.out, (Below.refl _ _).alloc (Nat.le_refl _) _⟩
theorem stateBehind_3 (a b c u v y st x : Int) (w : World) (h : 0 ≤ st ∧ st ≤ 80) (hx : 0 ≤ x ∧ x ≤ 2)  :
    Calls Try.prog 197 #[.agg #[.int .i64 3, .int .i64 a, .int .i64 b, .int .i64 c, .int .i64 u, .int .i64 v, .int .i64 y], .int .i64 st, .int .i64 x] w fun e w' => e = .returned (.int .i64 ((St.mk 3 a b c u v y).next st x)) ∧ Below w.heap.size w w' := by
  have hR := Lib.hid (show (St.mk 3 a b c u v y).next st x = withValue st a (x % 3) by rw [mod3 hx]; simp [St.next])
  go_enter Try.func197, Try.ntmps197
  go_wp2_with (first | (go_at_call 49; refine (WithValue_any _ _ _ _).mono ?_; rintro e w' ⟨rfl, rfl⟩))
  go_ret
  exact ⟨ret_int hR.out, (Below.refl _ _).alloc (Nat.le_refl _) _⟩
theorem stateBehind_4 (a b c u v y st x : Int) (w : World) (h : 0 ≤ st ∧ st ≤ 80) (hx : 0 ≤ x ∧ x ≤ 2)  :
    Calls Try.prog 197 #[.agg #[.int .i64 4, .int .i64 a, .int .i64 b, .int .i64 c, .int .i64 u, .int .i64 v, .int .i64 y], .int .i64 st, .int .i64 x] w fun e w' => e = .returned (.int .i64 ((St.mk 4 a b c u v y).next st x)) ∧ Below w.heap.size w w' := by
  have hR := Lib.hid (show (St.mk 4 a b c u v y).next st x = st by simp [St.next])
  go_enter Try.func197, Try.ntmps197
  go_wp2
  go_ret
  exact ⟨ret_int hR.out, (Below.refl _ _).alloc (Nat.le_refl _) _⟩
theorem stateBehind_5 (a b c u v y st x : Int) (w : World) (h : 0 ≤ st ∧ st ≤ 80) (hx : 0 ≤ x ∧ x ≤ 2)  :
    Calls Try.prog 197 #[.agg #[.int .i64 5, .int .i64 a, .int .i64 b, .int .i64 c, .int .i64 u, .int .i64 v, .int .i64 y], .int .i64 st, .int .i64 x] w fun e w' => e = .returned (.int .i64 ((St.mk 5 a b c u v y).next st x)) ∧ Below w.heap.size w w' := by
  have hR := Lib.hid (show (St.mk 5 a b c u v y).next st x = st by simp [St.next])
  go_enter Try.func197, Try.ntmps197
  go_wp2
  go_ret
  exact ⟨ret_int hR.out, (Below.refl _ _).alloc (Nat.le_refl _) _⟩
theorem stateBehind_6 (a b c u v y st x : Int) (w : World) (h : 0 ≤ st ∧ st ≤ 80) (hx : 0 ≤ x ∧ x ≤ 2)  :
    Calls Try.prog 197 #[.agg #[.int .i64 6, .int .i64 a, .int .i64 b, .int .i64 c, .int .i64 u, .int .i64 v, .int .i64 y], .int .i64 st, .int .i64 x] w fun e w' => e = .returned (.int .i64 ((St.mk 6 a b c u v y).next st x)) ∧ Below w.heap.size w w' := by
  have hR := Lib.hid (show (St.mk 6 a b c u v y).next st x = st by simp [St.next])
  go_enter Try.func197, Try.ntmps197
  go_wp2
  go_ret
  exact ⟨ret_int hR.out, (Below.refl _ _).alloc (Nat.le_refl _) _⟩
theorem stateBehind_7 (a b c u v y st x : Int) (w : World) (h : 0 ≤ st ∧ st ≤ 80) (hx : 0 ≤ x ∧ x ≤ 2)  :
    Calls Try.prog 197 #[.agg #[.int .i64 7, .int .i64 a, .int .i64 b, .int .i64 c, .int .i64 u, .int .i64 v, .int .i64 y], .int .i64 st, .int .i64 x] w fun e w' => e = .returned (.int .i64 ((St.mk 7 a b c u v y).next st x)) ∧ Below w.heap.size w w' := by
  have hR := Lib.hid (show (St.mk 7 a b c u v y).next st x = st by simp [St.next])
  go_enter Try.func197, Try.ntmps197
  go_wp2
  go_ret
  exact ⟨ret_int hR.out, (Below.refl _ _).alloc (Nat.le_refl _) _⟩
theorem stateBehind_any (s : St) (st x : Int) (w : World) (hs : s.ok = true) (h : 0 ≤ st ∧ st ≤ 80) (hx : 0 ≤ x ∧ x ≤ 2) :
    Calls Try.prog 197 #[.agg #[.int .i64 s.k, .int .i64 s.a, .int .i64 s.b, .int .i64 s.c, .int .i64 s.u, .int .i64 s.v, .int .i64 s.x], .int .i64 st, .int .i64 x] w fun e w' => e = .returned (.int .i64 (s.next st x)) ∧ Below w.heap.size w w' := by
  obtain ⟨k, a, b, c, u, v, y⟩ := s
  rcases ok_rng hs with ⟨rfl, h1, h2, h3, h4, h5, h6⟩ | ⟨rfl, h1, h2, h3, h4, h5⟩ | ⟨rfl, h1, h2, h3⟩ | ⟨rfl, h1, h2, h3, h4, h5⟩ | ⟨rfl, h1, h2, h3⟩ | ⟨rfl, h1, h2, h3, h4, h5⟩ | ⟨rfl, h1, h2, h3, h4, h5, h6⟩ | ⟨rfl, h1, h2, h3, h4, h5⟩
  · exact stateBehind_0 a b c u v y st x w h hx h1 h2 h3 h4 h5 h6
  · exact stateBehind_1 a b c u v y st x w h hx h1 h2 h3 h4 h5
  · exact stateBehind_2 a b c u v y st x w h hx
  · exact stateBehind_3 a b c u v y st x w h hx
  · exact stateBehind_4 a b c u v y st x w h hx
  · exact stateBehind_5 a b c u v y st x w h hx
  · exact stateBehind_6 a b c u v y st x w h hx
  · exact stateBehind_7 a b c u v y st x w h hx
theorem weightBehind_0 (a b c u v y st : Int) (w : World) (h : 0 ≤ st ∧ st ≤ 80) (ha0 : 0 ≤ a) (ha3 : a ≤ 3) :
    Calls Try.prog 154 #[.agg #[.int .i64 0, .int .i64 a, .int .i64 b, .int .i64 c, .int .i64 u, .int .i64 v, .int .i64 y], .int .i64 st] w fun e w' => e = .returned (.int .i64 ((St.mk 0 a b c u v y).fac st)) ∧ Below w.heap.size w w' := by
  have hR : (St.mk 0 a b c u v y).fac st = 1 := by simp [St.fac]
  have hma := valueAt_in h ⟨ha0, ha3⟩
  generalize hga : valueAt st a = ma at hma
  have hMa := Lib.hid hga
  clear hga
  replace hR := Lib.hid hR
  go_enter Try.func154, Try.ntmps154
  go_wp2_with (first | (go_at_call 101; refine (ValueAt_any st a _).mono ?_; rw [hMa.out]; rintro e w' ⟨rfl, rfl⟩))
  go_ret
  exact ⟨ret_int hR.out, (Below.refl _ _).alloc (Nat.le_refl _) _⟩
theorem weightBehind_1 (a b c u v y st : Int) (w : World) (h : 0 ≤ st ∧ st ≤ 80) (ha0 : 0 ≤ a) (ha3 : a ≤ 3) :
    Calls Try.prog 154 #[.agg #[.int .i64 1, .int .i64 a, .int .i64 b, .int .i64 c, .int .i64 u, .int .i64 v, .int .i64 y], .int .i64 st] w fun e w' => e = .returned (.int .i64 ((St.mk 1 a b c u v y).fac st)) ∧ Below w.heap.size w w' := by
  have hR : (St.mk 1 a b c u v y).fac st = 1 := by simp [St.fac]
  have hma := valueAt_in h ⟨ha0, ha3⟩
  generalize hga : valueAt st a = ma at hma
  have hMa := Lib.hid hga
  clear hga
  replace hR := Lib.hid hR
  go_enter Try.func154, Try.ntmps154
  go_wp2_with (first | (go_at_call 101; refine (ValueAt_any st a _).mono ?_; rw [hMa.out]; rintro e w' ⟨rfl, rfl⟩))
  go_ret
  exact ⟨ret_int hR.out, (Below.refl _ _).alloc (Nat.le_refl _) _⟩
theorem weightBehind_6 (a b c u v y st : Int) (w : World) (h : 0 ≤ st ∧ st ≤ 80) (ha0 : 0 ≤ a) (ha3 : a ≤ 3) :
    Calls Try.prog 154 #[.agg #[.int .i64 6, .int .i64 a, .int .i64 b, .int .i64 c, .int .i64 u, .int .i64 v, .int .i64 y], .int .i64 st] w fun e w' => e = .returned (.int .i64 ((St.mk 6 a b c u v y).fac st)) ∧ Below w.heap.size w w' := by
  have hR : (St.mk 6 a b c u v y).fac st = 1 := by simp [St.fac]
  have hma := valueAt_in h ⟨ha0, ha3⟩
  generalize hga : valueAt st a = ma at hma
  have hMa := Lib.hid hga
  clear hga
  replace hR := Lib.hid hR
  go_enter Try.func154, Try.ntmps154
  go_wp2_with (first | (go_at_call 101; refine (ValueAt_any st a _).mono ?_; rw [hMa.out]; rintro e w' ⟨rfl, rfl⟩))
  go_ret
  exact ⟨ret_int hR.out, (Below.refl _ _).alloc (Nat.le_refl _) _⟩
theorem weightBehind_7 (a b c u v y st : Int) (w : World) (h : 0 ≤ st ∧ st ≤ 80) (ha0 : 0 ≤ a) (ha3 : a ≤ 3) :
    Calls Try.prog 154 #[.agg #[.int .i64 7, .int .i64 a, .int .i64 b, .int .i64 c, .int .i64 u, .int .i64 v, .int .i64 y], .int .i64 st] w fun e w' => e = .returned (.int .i64 ((St.mk 7 a b c u v y).fac st)) ∧ Below w.heap.size w w' := by
  have hR : (St.mk 7 a b c u v y).fac st = 1 := by simp [St.fac]
  have hma := valueAt_in h ⟨ha0, ha3⟩
  generalize hga : valueAt st a = ma at hma
  have hMa := Lib.hid hga
  clear hga
  replace hR := Lib.hid hR
  go_enter Try.func154, Try.ntmps154
  go_wp2_with (first | (go_at_call 101; refine (ValueAt_any st a _).mono ?_; rw [hMa.out]; rintro e w' ⟨rfl, rfl⟩))
  go_ret
  exact ⟨ret_int hR.out, (Below.refl _ _).alloc (Nat.le_refl _) _⟩
theorem weightBehind_2 (a b c u v y st : Int) (w : World) (h : 0 ≤ st ∧ st ≤ 80) (ha0 : 0 ≤ a) (ha3 : a ≤ 3) :
    Calls Try.prog 154 #[.agg #[.int .i64 2, .int .i64 a, .int .i64 b, .int .i64 c, .int .i64 u, .int .i64 v, .int .i64 y], .int .i64 st] w fun e w' => e = .returned (.int .i64 ((St.mk 2 a b c u v y).fac st)) ∧ Below w.heap.size w w' := by
  have hR : (St.mk 2 a b c u v y).fac st = (St.mk 2 a b c u v y).wgt (valueAt st a) := by simp [St.fac]
  have hma := valueAt_in h ⟨ha0, ha3⟩
  generalize hga : valueAt st a = ma at hma hR
  have hMa := Lib.hid hga
  clear hga
  obtain rfl | rfl | rfl : ma = 0 ∨ ma = 1 ∨ ma = 2 := by omega
  all_goals
    replace hR := Lib.hid hR
    go_enter Try.func154, Try.ntmps154
    go_wp2_with (first | (go_at_call 101; refine (ValueAt_any st a _).mono ?_; rw [hMa.out]; rintro e w' ⟨rfl, rfl⟩))
    go_ret
    exact ⟨ret_int hR.out, (Below.refl _ _).alloc (Nat.le_refl _) _⟩
theorem weightBehind_4 (a b c u v y st : Int) (w : World) (h : 0 ≤ st ∧ st ≤ 80) (ha0 : 0 ≤ a) (ha3 : a ≤ 3) :
    Calls Try.prog 154 #[.agg #[.int .i64 4, .int .i64 a, .int .i64 b, .int .i64 c, .int .i64 u, .int .i64 v, .int .i64 y], .int .i64 st] w fun e w' => e = .returned (.int .i64 ((St.mk 4 a b c u v y).fac st)) ∧ Below w.heap.size w w' := by
  have hR : (St.mk 4 a b c u v y).fac st = (St.mk 4 a b c u v y).wgt (valueAt st a) := by simp [St.fac]
  have hma := valueAt_in h ⟨ha0, ha3⟩
  generalize hga : valueAt st a = ma at hma hR
  have hMa := Lib.hid hga
  clear hga
  obtain rfl | rfl | rfl : ma = 0 ∨ ma = 1 ∨ ma = 2 := by omega
  all_goals
    replace hR := Lib.hid hR
    go_enter Try.func154, Try.ntmps154
    go_wp2_with (first | (go_at_call 101; refine (ValueAt_any st a _).mono ?_; rw [hMa.out]; rintro e w' ⟨rfl, rfl⟩))
    go_ret
    exact ⟨ret_int hR.out, (Below.refl _ _).alloc (Nat.le_refl _) _⟩
set_option maxHeartbeats 1000000 in
theorem weightBehind_3_0 (a b c u v y st : Int) (w : World) (h : 0 ≤ st ∧ st ≤ 80) (ha0 : 0 ≤ a) (ha3 : a ≤ 3) (hb0 : 0 ≤ b) (hb3 : b ≤ 3) (hq : (valueAt st a + valueAt st b) % 3 = 0) :
    Calls Try.prog 154 #[.agg #[.int .i64 3, .int .i64 a, .int .i64 b, .int .i64 c, .int .i64 u, .int .i64 v, .int .i64 y], .int .i64 st] w fun e w' => e = .returned (.int .i64 ((St.mk 3 a b c u v y).fac st)) ∧ Below w.heap.size w w' := by
  have hR : (St.mk 3 a b c u v y).fac st = (St.mk 3 a b c u v y).wgt ((valueAt st a + valueAt st b) % 3) := by simp [St.fac]
  have hma := valueAt_in h ⟨ha0, ha3⟩
  generalize hga : valueAt st a = ma at hma hR hq
  have hMa := Lib.hid hga
  clear hga
  have hmb := valueAt_in h ⟨hb0, hb3⟩
  generalize hgb : valueAt st b = mb at hmb hR hq
  have hMb := Lib.hid hgb
  clear hgb
  rw [hq] at hR
  replace hR := Lib.hid hR
  go_enter Try.func154, Try.ntmps154
  go_wp2_with fail
  refine (ValueAt_any st a _).mono ?_
  rw [hMa.out]
  rintro e w' ⟨rfl, rfl⟩
  go_wp2_with fail
  refine (ValueAt_any st b _).mono ?_
  rw [hMb.out]
  rintro e w' ⟨rfl, rfl⟩
  go_wp2_with fail
  go_ret
  exact ⟨ret_int hR.out, (Below.refl _ _).alloc (Nat.le_refl _) _⟩
set_option maxHeartbeats 1000000 in
theorem weightBehind_3_1 (a b c u v y st : Int) (w : World) (h : 0 ≤ st ∧ st ≤ 80) (ha0 : 0 ≤ a) (ha3 : a ≤ 3) (hb0 : 0 ≤ b) (hb3 : b ≤ 3) (hq : (valueAt st a + valueAt st b) % 3 = 1) :
    Calls Try.prog 154 #[.agg #[.int .i64 3, .int .i64 a, .int .i64 b, .int .i64 c, .int .i64 u, .int .i64 v, .int .i64 y], .int .i64 st] w fun e w' => e = .returned (.int .i64 ((St.mk 3 a b c u v y).fac st)) ∧ Below w.heap.size w w' := by
  have hR : (St.mk 3 a b c u v y).fac st = (St.mk 3 a b c u v y).wgt ((valueAt st a + valueAt st b) % 3) := by simp [St.fac]
  have hma := valueAt_in h ⟨ha0, ha3⟩
  generalize hga : valueAt st a = ma at hma hR hq
  have hMa := Lib.hid hga
  clear hga
  have hmb := valueAt_in h ⟨hb0, hb3⟩
  generalize hgb : valueAt st b = mb at hmb hR hq
  have hMb := Lib.hid hgb
  clear hgb
  rw [hq] at hR
  replace hR := Lib.hid hR
  go_enter Try.func154, Try.ntmps154
  go_wp2_with fail
  refine (ValueAt_any st a _).mono ?_
  rw [hMa.out]
  rintro e w' ⟨rfl, rfl⟩
  go_wp2_with fail
  refine (ValueAt_any st b _).mono ?_
  rw [hMb.out]
  rintro e w' ⟨rfl, rfl⟩
  go_wp2_with fail
  go_ret
  exact ⟨ret_int hR.out, (Below.refl _ _).alloc (Nat.le_refl _) _⟩
set_option maxHeartbeats 1000000 in
theorem weightBehind_3_2 (a b c u v y st : Int) (w : World) (h : 0 ≤ st ∧ st ≤ 80) (ha0 : 0 ≤ a) (ha3 : a ≤ 3) (hb0 : 0 ≤ b) (hb3 : b ≤ 3) (hq : (valueAt st a + valueAt st b) % 3 = 2) :
    Calls Try.prog 154 #[.agg #[.int .i64 3, .int .i64 a, .int .i64 b, .int .i64 c, .int .i64 u, .int .i64 v, .int .i64 y], .int .i64 st] w fun e w' => e = .returned (.int .i64 ((St.mk 3 a b c u v y).fac st)) ∧ Below w.heap.size w w' := by
  have hR : (St.mk 3 a b c u v y).fac st = (St.mk 3 a b c u v y).wgt ((valueAt st a + valueAt st b) % 3) := by simp [St.fac]
  have hma := valueAt_in h ⟨ha0, ha3⟩
  generalize hga : valueAt st a = ma at hma hR hq
  have hMa := Lib.hid hga
  clear hga
  have hmb := valueAt_in h ⟨hb0, hb3⟩
  generalize hgb : valueAt st b = mb at hmb hR hq
  have hMb := Lib.hid hgb
  clear hgb
  rw [hq] at hR
  replace hR := Lib.hid hR
  go_enter Try.func154, Try.ntmps154
  go_wp2_with fail
  refine (ValueAt_any st a _).mono ?_
  rw [hMa.out]
  rintro e w' ⟨rfl, rfl⟩
  go_wp2_with fail
  refine (ValueAt_any st b _).mono ?_
  rw [hMb.out]
  rintro e w' ⟨rfl, rfl⟩
  go_wp2_with fail
  go_ret
  exact ⟨ret_int hR.out, (Below.refl _ _).alloc (Nat.le_refl _) _⟩
set_option maxHeartbeats 1000000 in
theorem weightBehind_3 (a b c u v y st : Int) (w : World) (h : 0 ≤ st ∧ st ≤ 80) (ha0 : 0 ≤ a) (ha3 : a ≤ 3) (hb0 : 0 ≤ b) (hb3 : b ≤ 3) :
    Calls Try.prog 154 #[.agg #[.int .i64 3, .int .i64 a, .int .i64 b, .int .i64 c, .int .i64 u, .int .i64 v, .int .i64 y], .int .i64 st] w fun e w' => e = .returned (.int .i64 ((St.mk 3 a b c u v y).fac st)) ∧ Below w.heap.size w w' := by
  obtain h0 | h0 | h0 : (valueAt st a + valueAt st b) % 3 = 0 ∨ (valueAt st a + valueAt st b) % 3 = 1 ∨ (valueAt st a + valueAt st b) % 3 = 2 := by omega
  · exact weightBehind_3_0 a b c u v y st w h ha0 ha3 hb0 hb3 h0
  · exact weightBehind_3_1 a b c u v y st w h ha0 ha3 hb0 hb3 h0
  · exact weightBehind_3_2 a b c u v y st w h ha0 ha3 hb0 hb3 h0
set_option maxHeartbeats 1000000 in
theorem weightBehind_5_0 (a b c u v y st : Int) (w : World) (h : 0 ≤ st ∧ st ≤ 80) (ha0 : 0 ≤ a) (ha3 : a ≤ 3) (hb0 : 0 ≤ b) (hb3 : b ≤ 3) (hq : (valueAt st a + valueAt st b) % 3 = 0) :
    Calls Try.prog 154 #[.agg #[.int .i64 5, .int .i64 a, .int .i64 b, .int .i64 c, .int .i64 u, .int .i64 v, .int .i64 y], .int .i64 st] w fun e w' => e = .returned (.int .i64 ((St.mk 5 a b c u v y).fac st)) ∧ Below w.heap.size w w' := by
  have hR : (St.mk 5 a b c u v y).fac st = (St.mk 5 a b c u v y).wgt ((valueAt st a + valueAt st b) % 3) := by simp [St.fac]
  have hma := valueAt_in h ⟨ha0, ha3⟩
  generalize hga : valueAt st a = ma at hma hR hq
  have hMa := Lib.hid hga
  clear hga
  have hmb := valueAt_in h ⟨hb0, hb3⟩
  generalize hgb : valueAt st b = mb at hmb hR hq
  have hMb := Lib.hid hgb
  clear hgb
  rw [hq] at hR
  replace hR := Lib.hid hR
  go_enter Try.func154, Try.ntmps154
  go_wp2_with fail
  refine (ValueAt_any st a _).mono ?_
  rw [hMa.out]
  rintro e w' ⟨rfl, rfl⟩
  go_wp2_with fail
  refine (ValueAt_any st b _).mono ?_
  rw [hMb.out]
  rintro e w' ⟨rfl, rfl⟩
  go_wp2_with fail
  go_ret
  exact ⟨ret_int hR.out, (Below.refl _ _).alloc (Nat.le_refl _) _⟩
set_option maxHeartbeats 1000000 in
theorem weightBehind_5_1 (a b c u v y st : Int) (w : World) (h : 0 ≤ st ∧ st ≤ 80) (ha0 : 0 ≤ a) (ha3 : a ≤ 3) (hb0 : 0 ≤ b) (hb3 : b ≤ 3) (hq : (valueAt st a + valueAt st b) % 3 = 1) :
    Calls Try.prog 154 #[.agg #[.int .i64 5, .int .i64 a, .int .i64 b, .int .i64 c, .int .i64 u, .int .i64 v, .int .i64 y], .int .i64 st] w fun e w' => e = .returned (.int .i64 ((St.mk 5 a b c u v y).fac st)) ∧ Below w.heap.size w w' := by
  have hR : (St.mk 5 a b c u v y).fac st = (St.mk 5 a b c u v y).wgt ((valueAt st a + valueAt st b) % 3) := by simp [St.fac]
  have hma := valueAt_in h ⟨ha0, ha3⟩
  generalize hga : valueAt st a = ma at hma hR hq
  have hMa := Lib.hid hga
  clear hga
  have hmb := valueAt_in h ⟨hb0, hb3⟩
  generalize hgb : valueAt st b = mb at hmb hR hq
  have hMb := Lib.hid hgb
  clear hgb
  rw [hq] at hR
  replace hR := Lib.hid hR
  go_enter Try.func154, Try.ntmps154
  go_wp2_with fail
  refine (ValueAt_any st a _).mono ?_
  rw [hMa.out]
  rintro e w' ⟨rfl, rfl⟩
  go_wp2_with fail
  refine (ValueAt_any st b _).mono ?_
  rw [hMb.out]
  rintro e w' ⟨rfl, rfl⟩
  go_wp2_with fail
  go_ret
  exact ⟨ret_int hR.out, (Below.refl _ _).alloc (Nat.le_refl _) _⟩
set_option maxHeartbeats 1000000 in
theorem weightBehind_5_2 (a b c u v y st : Int) (w : World) (h : 0 ≤ st ∧ st ≤ 80) (ha0 : 0 ≤ a) (ha3 : a ≤ 3) (hb0 : 0 ≤ b) (hb3 : b ≤ 3) (hq : (valueAt st a + valueAt st b) % 3 = 2) :
    Calls Try.prog 154 #[.agg #[.int .i64 5, .int .i64 a, .int .i64 b, .int .i64 c, .int .i64 u, .int .i64 v, .int .i64 y], .int .i64 st] w fun e w' => e = .returned (.int .i64 ((St.mk 5 a b c u v y).fac st)) ∧ Below w.heap.size w w' := by
  have hR : (St.mk 5 a b c u v y).fac st = (St.mk 5 a b c u v y).wgt ((valueAt st a + valueAt st b) % 3) := by simp [St.fac]
  have hma := valueAt_in h ⟨ha0, ha3⟩
  generalize hga : valueAt st a = ma at hma hR hq
  have hMa := Lib.hid hga
  clear hga
  have hmb := valueAt_in h ⟨hb0, hb3⟩
  generalize hgb : valueAt st b = mb at hmb hR hq
  have hMb := Lib.hid hgb
  clear hgb
  rw [hq] at hR
  replace hR := Lib.hid hR
  go_enter Try.func154, Try.ntmps154
  go_wp2_with fail
  refine (ValueAt_any st a _).mono ?_
  rw [hMa.out]
  rintro e w' ⟨rfl, rfl⟩
  go_wp2_with fail
  refine (ValueAt_any st b _).mono ?_
  rw [hMb.out]
  rintro e w' ⟨rfl, rfl⟩
  go_wp2_with fail
  go_ret
  exact ⟨ret_int hR.out, (Below.refl _ _).alloc (Nat.le_refl _) _⟩
set_option maxHeartbeats 1000000 in
theorem weightBehind_5 (a b c u v y st : Int) (w : World) (h : 0 ≤ st ∧ st ≤ 80) (ha0 : 0 ≤ a) (ha3 : a ≤ 3) (hb0 : 0 ≤ b) (hb3 : b ≤ 3) :
    Calls Try.prog 154 #[.agg #[.int .i64 5, .int .i64 a, .int .i64 b, .int .i64 c, .int .i64 u, .int .i64 v, .int .i64 y], .int .i64 st] w fun e w' => e = .returned (.int .i64 ((St.mk 5 a b c u v y).fac st)) ∧ Below w.heap.size w w' := by
  obtain h0 | h0 | h0 : (valueAt st a + valueAt st b) % 3 = 0 ∨ (valueAt st a + valueAt st b) % 3 = 1 ∨ (valueAt st a + valueAt st b) % 3 = 2 := by omega
  · exact weightBehind_5_0 a b c u v y st w h ha0 ha3 hb0 hb3 h0
  · exact weightBehind_5_1 a b c u v y st w h ha0 ha3 hb0 hb3 h0
  · exact weightBehind_5_2 a b c u v y st w h ha0 ha3 hb0 hb3 h0
theorem weightBehind_any (s : St) (st : Int) (w : World) (hs : s.ok = true) (h : 0 ≤ st ∧ st ≤ 80) :
    Calls Try.prog 154 #[.agg #[.int .i64 s.k, .int .i64 s.a, .int .i64 s.b, .int .i64 s.c, .int .i64 s.u, .int .i64 s.v, .int .i64 s.x], .int .i64 st] w fun e w' => e = .returned (.int .i64 (s.fac st)) ∧ Below w.heap.size w w' := by
  obtain ⟨k, a, b, c, u, v, y⟩ := s
  rcases ok_rng hs with ⟨rfl, h1, h2, h3, h4, h5, h6⟩ | ⟨rfl, h1, h2, h3, h4, h5⟩ | ⟨rfl, h1, h2, h3⟩ | ⟨rfl, h1, h2, h3, h4, h5⟩ | ⟨rfl, h1, h2, h3⟩ | ⟨rfl, h1, h2, h3, h4, h5⟩ | ⟨rfl, h1, h2, h3, h4, h5, h6⟩ | ⟨rfl, h1, h2, h3, h4, h5⟩
  · exact weightBehind_0 a b c u v y st w h h1 h2
  · exact weightBehind_1 a b c u v y st w h h1 h2
  · exact weightBehind_2 a b c u v y st w h h1 h2
  · exact weightBehind_3 a b c u v y st w h h1 h2 h3 h4
  · exact weightBehind_4 a b c u v y st w h h1 h2
  · exact weightBehind_5 a b c u v y st w h h1 h2 h3 h4
  · exact weightBehind_6 a b c u v y st w h h1 h2
  · exact weightBehind_7 a b c u v y st w h (by omega) (by omega)
end Go.Proofs.Ytghkpmafocacoaa
namespace Go.Proofs.Ytghkpmafocacoaa
set_option maxRecDepth 100000
set_option linter.unusedVariables false
open Go.RowKit
theorem step_skip (s : St) (p : Nat) (st wt x : Int) (w : World) (hs : s.ok = true) (h6 : (s.k == 6) = true) (h : 0 ≤ st ∧ st ≤ 80) (hp : p ≤ 100) :
    Calls Try.prog 196 #[.agg #[.int .i64 s.k, .int .i64 s.a, .int .i64 s.b, .int .i64 s.c, .int .i64 s.u, .int .i64 s.v, .int .i64 s.x], .agg #[.int .i64 p, .int .i64 st, .int .i64 wt], .int .i64 x] w fun e w' => e = .returned (.agg #[.int .i64 (p + 1 + (s.jump st : Nat) : Int), .int .i64 st, .int .i64 wt]) ∧ Below w.heap.size w w' := by
  obtain ⟨k, a, b, c, u, v, y⟩ := s
  obtain rfl : k = 6 := by simpa using h6
  have hr := ok_rng hs
  have hj : (St.mk 6 a b c u v y).jump st = if valueAt st a = c then b.toNat else 0 := by simp [St.jump]
  have cV := Lib.hid (fun wx => ValueAt_q st a wx)
  have hb : 0 ≤ b ∧ b ≤ 12 := by omega
  generalize valueAt st a = m at hj cV
  clear hs hr
  by_cases hm : m = c
  · subst hm
    rw [if_pos rfl] at hj
    have hJ := Lib.hid (show ((p : Int) + 1 + ((St.mk 6 a b m u v y).jump st : Nat) : Int) = (p : Int) + 1 + b by rw [hj]; omega)
    clear hj
    go_enter Try.func196, Try.ntmps196
    go_wp2_with fail
    go_quiet ((go_at_call 101; exact Calls.quiet_of_same (cV.out _)))
    go_wp2
    refine bodyPost_ret (v := .agg #[.int .i64 (p + 1 + b : Int), .int .i64 st, .int .i64 wt]) (by simp [results, Try.results196, go_sem]) rfl ⟨by rw [hJ.out], ?_⟩
    iterate 4 (refine Below.setCell ?_ (by simp; try omega) _)
    exact below_drewN ((((Below.refl _ _).alloc (Nat.le_refl _) _).alloc (by simp) _).alloc (by simp; omega) _) _
  · rw [if_neg hm] at hj
    have hJ := Lib.hid (show ((p : Int) + 1 + ((St.mk 6 a b c u v y).jump st : Nat) : Int) = (p : Int) + 1 by rw [hj]; omega)
    have hm' : (m == c) = false := by simpa using hm
    clear hj hm
    go_enter Try.func196, Try.ntmps196
    go_wp2_with fail
    go_quiet ((go_at_call 101; exact Calls.quiet_of_same (cV.out _)))
    go_wp2
    refine bodyPost_ret (v := .agg #[.int .i64 (p + 1 : Int), .int .i64 st, .int .i64 wt]) (by simp [results, Try.results196, go_sem]) rfl ⟨by rw [hJ.out], ?_⟩
    iterate 3 (refine Below.setCell ?_ (by simp; try omega) _)
    exact below_drewN ((((Below.refl _ _).alloc (Nat.le_refl _) _).alloc (by simp) _).alloc (by simp; omega) _) _
end Go.Proofs.Ytghkpmafocacoaa
