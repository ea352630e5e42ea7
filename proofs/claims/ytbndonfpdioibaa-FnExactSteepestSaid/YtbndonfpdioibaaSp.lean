/- The program's steps of a run: the state behind a statement, its factor, and how far the run has come. One step of the program's run. -/
import Derived.Test.YtbndonfpdioibaaTrv
import Derived.Test.YtbndonfpdioibaaMem
import Derived.Deep.QuietTactic
import Derived.BigQuiet
import Derived.StillTailTactics
import Derived.Deep.RegionHeld3
import Derived.Deep.RegionLaw
namespace Go.Proofs.Ytbndonfpdioibaa
set_option maxRecDepth 100000
set_option linter.unusedVariables false
open Go.RowKit

theorem valueAt_in {s v : Int} (hs : 0 ≤ s ∧ s ≤ 80) (hv : 0 ≤ v ∧ v ≤ 3) : 0 ≤ valueAt s v ∧ valueAt s v ≤ 2 := by
  obtain ⟨k, hk, h3⟩ := nat4 hv.1 hv.2
  rw [valueAt_yes hs.1 hs.2 hk h3]; omega
theorem ValueAt_q (s v : Int) (w : World) :
    Calls Try.prog 114 #[.int .i64 s, .int .i64 v] w fun e w' => e = .returned (.int .i64 (valueAt s v)) ∧ w' = w := (ValueAt_any s v w).mono fun _ _ h => ⟨h.1, h.2.symm⟩
theorem mod3 {m : Int} (h : 0 ≤ m ∧ m ≤ 2) : m % 3 = m := by omega

theorem stateBehind_0 (a b c u v y st x : Int) (w : World) (h : 0 ≤ st ∧ st ≤ 80) (hx : 0 ≤ x ∧ x ≤ 2) (ha0 : 0 ≤ a) (ha3 : a ≤ 3) (hb1 : -1 ≤ b) (hb3 : b ≤ 3) (hc0 : 0 ≤ c) (hc2 : c ≤ 2) :
    Calls Try.prog 192 #[.agg #[.int .i64 0, .int .i64 a, .int .i64 b, .int .i64 c, .int .i64 u, .int .i64 v, .int .i64 y], .int .i64 st, .int .i64 x] w fun e w' => e = .returned (.int .i64 ((St.mk 0 a b c u v y).next st x)) ∧ Below w.heap.size w w' := by
  by_cases hb : b = -1
  · subst hb
    have hR := Lib.hid (show (St.mk 0 a (-1) c u v y).next st x = withValue st a (c % 3) by simp [St.next])
    go_enter Try.func192, Try.ntmps192
    go_wp2_with (first | (go_at_call 150; refine (WithValue_any _ _ _ _).mono ?_; rintro e w' ⟨rfl, rfl⟩))
    go_ret
    exact ⟨ret_int hR.out, (Below.refl _ _).alloc (Nat.le_refl _) _⟩
  · have hb0 : 0 ≤ b := by omega
    have hR : (St.mk 0 a b c u v y).next st x = withValue st a ((c + valueAt st b) % 3) := by simp [St.next, hb]
    have hmb := valueAt_in h ⟨hb0, hb3⟩
    generalize hgb : valueAt st b = mb at hmb hR
    have hMb := Lib.hid hgb
    clear hgb
    replace hR := Lib.hid hR
    go_enter Try.func192, Try.ntmps192
    go_wp2_with (first | (go_at_call 114; refine (ValueAt_any st b _).mono ?_; rw [hMb.out]; rintro e w' ⟨rfl, rfl⟩) | (go_at_call 150; refine (WithValue_any _ _ _ _).mono ?_; rintro e w' ⟨rfl, rfl⟩))
    go_ret
    exact ⟨ret_int hR.out, (Below.refl _ _).alloc (Nat.le_refl _) _⟩

theorem stateBehind_1 (a b c u v y st x : Int) (w : World) (h : 0 ≤ st ∧ st ≤ 80) (hx : 0 ≤ x ∧ x ≤ 2) (ha0 : 0 ≤ a) (ha3 : a ≤ 3) (hb0 : 0 ≤ b) (hb3 : b ≤ 3) (hne : a ≠ b) :
    Calls Try.prog 192 #[.agg #[.int .i64 1, .int .i64 a, .int .i64 b, .int .i64 c, .int .i64 u, .int .i64 v, .int .i64 y], .int .i64 st, .int .i64 x] w fun e w' => e = .returned (.int .i64 ((St.mk 1 a b c u v y).next st x)) ∧ Below w.heap.size w w' := by
  have hR := Lib.hid (show (St.mk 1 a b c u v y).next st x = withValue st a ((valueAt st a + valueAt st b) % 3) by simp [St.next])
  have hma := valueAt_in h ⟨ha0, ha3⟩
  have hmb := valueAt_in h ⟨hb0, hb3⟩
  have hsum : IntKind.i64.wrap (valueAt st a + valueAt st b) = valueAt st a + valueAt st b := by rw [IntKind.wrap_i64]; omega
  go_enter Try.func192, Try.ntmps192
  go_wp2_with fail
  go_quiet ((go_at_call 114; exact Calls.quiet_of_same (ValueAt_q _ _ _)))
  go_wp2_with (first | (go_at_call 150; refine (WithValue_any _ _ _ _).mono ?_; rintro e w' ⟨rfl, rfl⟩))
  go_ret
  exact ⟨ret_int hR.out, below_drewN ((Below.refl _ _).alloc (Nat.le_refl _) _) _⟩

theorem stateBehind_2 (a b c u v y st x : Int) (w : World) (h : 0 ≤ st ∧ st ≤ 80) (hx : 0 ≤ x ∧ x ≤ 2)  :
    Calls Try.prog 192 #[.agg #[.int .i64 2, .int .i64 a, .int .i64 b, .int .i64 c, .int .i64 u, .int .i64 v, .int .i64 y], .int .i64 st, .int .i64 x] w fun e w' => e = .returned (.int .i64 ((St.mk 2 a b c u v y).next st x)) ∧ Below w.heap.size w w' := by
  have hR := Lib.hid (show (St.mk 2 a b c u v y).next st x = withValue st a (x % 3) by rw [mod3 hx]; simp [St.next])
  go_enter Try.func192, Try.ntmps192
  go_wp2_with (first | (go_at_call 150; refine (WithValue_any _ _ _ _).mono ?_; rintro e w' ⟨rfl, rfl⟩))
  go_ret
  exact ⟨ret_int hR.out, (Below.refl _ _).alloc (Nat.le_refl _) _⟩

theorem stateBehind_3 (a b c u v y st x : Int) (w : World) (h : 0 ≤ st ∧ st ≤ 80) (hx : 0 ≤ x ∧ x ≤ 2)  :
    Calls Try.prog 192 #[.agg #[.int .i64 3, .int .i64 a, .int .i64 b, .int .i64 c, .int .i64 u, .int .i64 v, .int .i64 y], .int .i64 st, .int .i64 x] w fun e w' => e = .returned (.int .i64 ((St.mk 3 a b c u v y).next st x)) ∧ Below w.heap.size w w' := by
  have hR := Lib.hid (show (St.mk 3 a b c u v y).next st x = withValue st a (x % 3) by rw [mod3 hx]; simp [St.next])
  go_enter Try.func192, Try.ntmps192
  go_wp2_with (first | (go_at_call 150; refine (WithValue_any _ _ _ _).mono ?_; rintro e w' ⟨rfl, rfl⟩))
  go_ret
  exact ⟨ret_int hR.out, (Below.refl _ _).alloc (Nat.le_refl _) _⟩

theorem stateBehind_4 (a b c u v y st x : Int) (w : World) (h : 0 ≤ st ∧ st ≤ 80) (hx : 0 ≤ x ∧ x ≤ 2)  :
    Calls Try.prog 192 #[.agg #[.int .i64 4, .int .i64 a, .int .i64 b, .int .i64 c, .int .i64 u, .int .i64 v, .int .i64 y], .int .i64 st, .int .i64 x] w fun e w' => e = .returned (.int .i64 ((St.mk 4 a b c u v y).next st x)) ∧ Below w.heap.size w w' := by
  have hR := Lib.hid (show (St.mk 4 a b c u v y).next st x = st by simp [St.next])
  go_enter Try.func192, Try.ntmps192
  go_wp2
  go_ret
  exact ⟨ret_int hR.out, (Below.refl _ _).alloc (Nat.le_refl _) _⟩

theorem stateBehind_5 (a b c u v y st x : Int) (w : World) (h : 0 ≤ st ∧ st ≤ 80) (hx : 0 ≤ x ∧ x ≤ 2)  :
    Calls Try.prog 192 #[.agg #[.int .i64 5, .int .i64 a, .int .i64 b, .int .i64 c, .int .i64 u, .int .i64 v, .int .i64 y], .int .i64 st, .int .i64 x] w fun e w' => e = .returned (.int .i64 ((St.mk 5 a b c u v y).next st x)) ∧ Below w.heap.size w w' := by
  have hR := Lib.hid (show (St.mk 5 a b c u v y).next st x = st by simp [St.next])
  go_enter Try.func192, Try.ntmps192
  go_wp2
  go_ret
  exact ⟨ret_int hR.out, (Below.refl _ _).alloc (Nat.le_refl _) _⟩

theorem stateBehind_6 (a b c u v y st x : Int) (w : World) (h : 0 ≤ st ∧ st ≤ 80) (hx : 0 ≤ x ∧ x ≤ 2)  :
    Calls Try.prog 192 #[.agg #[.int .i64 6, .int .i64 a, .int .i64 b, .int .i64 c, .int .i64 u, .int .i64 v, .int .i64 y], .int .i64 st, .int .i64 x] w fun e w' => e = .returned (.int .i64 ((St.mk 6 a b c u v y).next st x)) ∧ Below w.heap.size w w' := by
  have hR := Lib.hid (show (St.mk 6 a b c u v y).next st x = st by simp [St.next])
  go_enter Try.func192, Try.ntmps192
  go_wp2
  go_ret
  exact ⟨ret_int hR.out, (Below.refl _ _).alloc (Nat.le_refl _) _⟩

theorem stateBehind_7 (a b c u v y st x : Int) (w : World) (h : 0 ≤ st ∧ st ≤ 80) (hx : 0 ≤ x ∧ x ≤ 2)  :
    Calls Try.prog 192 #[.agg #[.int .i64 7, .int .i64 a, .int .i64 b, .int .i64 c, .int .i64 u, .int .i64 v, .int .i64 y], .int .i64 st, .int .i64 x] w fun e w' => e = .returned (.int .i64 ((St.mk 7 a b c u v y).next st x)) ∧ Below w.heap.size w w' := by
  have hR := Lib.hid (show (St.mk 7 a b c u v y).next st x = st by simp [St.next])
  go_enter Try.func192, Try.ntmps192
  go_wp2
  go_ret
  exact ⟨ret_int hR.out, (Below.refl _ _).alloc (Nat.le_refl _) _⟩

theorem stateBehind_any (s : St) (st x : Int) (w : World) (hs : s.ok = true) (h : 0 ≤ st ∧ st ≤ 80) (hx : 0 ≤ x ∧ x ≤ 2) :
    Calls Try.prog 192 #[.agg #[.int .i64 s.k, .int .i64 s.a, .int .i64 s.b, .int .i64 s.c, .int .i64 s.u, .int .i64 s.v, .int .i64 s.x], .int .i64 st, .int .i64 x] w fun e w' => e = .returned (.int .i64 (s.next st x)) ∧ Below w.heap.size w w' := by
  obtain ⟨k, a, b, c, u, v, y⟩ := s
  rcases ok_rng hs with ⟨rfl, h1, h2, h3, h4, h5, h6⟩ | ⟨rfl, h1, h2, h3, h4, h5⟩ | ⟨rfl, h1, h2, h3⟩ | ⟨rfl, h1, h2, h3, h4, h5⟩ | ⟨rfl, h1, h2, h3⟩ | ⟨rfl, h1, h2, h3, h4, h5⟩ | ⟨rfl, h1, h2, h3, h4, h5, h6⟩ | ⟨rfl, h1, h2, h3, h4, h5⟩
  · exact stateBehind_0 a b c u v y st x w h hx h1 h2 h3 h4 h5 h6
  · exact stateBehind_1 a b c u v y st x w h hx h1 h2 h3 h4 h5
  · exact stateBehind_2 a b c u v y st x w h hx
  · exact stateBehind_3 a b c u v y st x w h hx
  · exact stateBehind_4 a b c u v y st x w h hx
  · exact stateBehind_5 a b c u v y st x w h hx
  · exact stateBehind_6 a b c u v y st x w h hx
  · exact stateBehind_7 a b c u v y st x w h hx

/-- Which of its weights a statement uses; st is the state behind it. -/
def St.uses (s : St) (st : Int) : Int := if s.k = 2 ∨ s.k = 4 then valueAt st s.a else (valueAt st s.a + valueAt st s.b) % 3
def St.hasW (s : St) : Bool := inB s.k 2 5
theorem fac_uses {s : St} (h : s.hasW = true) (st : Int) : s.fac st = s.wgt (s.uses st) := by
  have h1 := inB_iff.1 h
  unfold St.fac St.uses
  by_cases h2 : s.k = 2 ∨ s.k = 4
  · rw [if_pos h2, if_pos h2]
  · rw [if_neg h2, if_neg h2, if_pos (by omega)]
theorem fac_one {s : St} (h : s.hasW = false) (st : Int) : s.fac st = 1 := by
  have h1 : ¬ (2 ≤ s.k ∧ s.k ≤ 5) := fun q => by
    have : s.hasW = true := inB_iff.2 q
    rw [h] at this
    cases this
  unfold St.fac
  rw [if_neg (by omega), if_neg (by omega)]
theorem usedBehind_2 (k a b c u v y st : Int) (w : World) (hk : k = 2 ∨ k = 4) (h : 0 ≤ st ∧ st ≤ 80) (ha0 : 0 ≤ a) (ha3 : a ≤ 3) :
    Calls Try.prog 166 #[.agg #[.int .i64 k, .int .i64 a, .int .i64 b, .int .i64 c, .int .i64 u, .int .i64 v, .int .i64 y], .int .i64 st] w fun e w' => e = .returned (.int .i64 (valueAt st a)) ∧ Below w.heap.size w w' := by
  have hma := valueAt_in h ⟨ha0, ha3⟩
  generalize hga : valueAt st a = ma at hma
  have hMa := Lib.hid hga
  clear hga
  have hm3 : ma % 3 = ma := mod3 hma
  rcases hk with rfl | rfl
  all_goals
    go_enter Try.func166, Try.ntmps166
    go_wp2_with (first | (go_at_call 114; refine (ValueAt_any st a _).mono ?_; rw [hMa.out]; rintro e w' ⟨rfl, rfl⟩))
    go_ret
    exact ⟨ret_int hm3.symm, (Below.refl _ _).alloc (Nat.le_refl _) _⟩
set_option maxHeartbeats 1000000 in
theorem usedBehind_3 (k a b c u v y st q : Int) (w : World) (hk : k = 3 ∨ k = 5) (h : 0 ≤ st ∧ st ≤ 80) (ha0 : 0 ≤ a) (ha3 : a ≤ 3) (hb0 : 0 ≤ b) (hb3 : b ≤ 3) (hq : (valueAt st a + valueAt st b) % 3 = q) :
    Calls Try.prog 166 #[.agg #[.int .i64 k, .int .i64 a, .int .i64 b, .int .i64 c, .int .i64 u, .int .i64 v, .int .i64 y], .int .i64 st] w fun e w' => e = .returned (.int .i64 q) ∧ Below w.heap.size w w' := by
  have hma := valueAt_in h ⟨ha0, ha3⟩
  generalize hga : valueAt st a = ma at hma hq
  have hMa := Lib.hid hga
  clear hga
  have hmb := valueAt_in h ⟨hb0, hb3⟩
  generalize hgb : valueAt st b = mb at hmb hq
  have hMb := Lib.hid hgb
  clear hgb
  rcases hk with rfl | rfl
  all_goals
    go_enter Try.func166, Try.ntmps166
    go_wp2_with fail
    refine (ValueAt_any st a _).mono ?_
    rw [hMa.out]
    rintro e w' ⟨rfl, rfl⟩
    go_wp2_with fail
    refine (ValueAt_any st b _).mono ?_
    rw [hMb.out]
    rintro e w' ⟨rfl, rfl⟩
    go_wp2_with fail
    go_ret
    exact ⟨ret_int hq.symm, (Below.refl _ _).alloc (Nat.le_refl _) _⟩
theorem usedBehind_any (s : St) (st : Int) (w : World) (hs : s.ok = true) (hw : s.hasW = true) (h : 0 ≤ st ∧ st ≤ 80) :
    Calls Try.prog 166 #[.agg #[.int .i64 s.k, .int .i64 s.a, .int .i64 s.b, .int .i64 s.c, .int .i64 s.u, .int .i64 s.v, .int .i64 s.x], .int .i64 st] w fun e w' => e = .returned (.int .i64 (s.uses st)) ∧ Below w.heap.size w w' := by
  obtain ⟨k, a, b, c, u, v, y⟩ := s
  have hr := ok_rng hs
  have hk := inB_iff.1 hw
  dsimp only at hk
  by_cases h2 : k = 2 ∨ k = 4
  · have e : (St.mk k a b c u v y).uses st = valueAt st a := if_pos h2
    rw [e]
    exact usedBehind_2 k a b c u v y st w h2 h (by omega) (by omega)
  · have e : (valueAt st a + valueAt st b) % 3 = (St.mk k a b c u v y).uses st := (if_neg h2).symm
    exact usedBehind_3 k a b c u v y st _ w (by omega) h (by omega) (by omega) (by omega) (by omega) e
theorem uses_rng {s : St} (hs : s.ok = true) (hw : s.hasW = true) {st : Int} (h : 0 ≤ st ∧ st ≤ 80) : 0 ≤ s.uses st ∧ s.uses st ≤ 2 := by
  obtain ⟨k, a, b, c, u, v, y⟩ := s
  have hr := ok_rng hs
  have hk := inB_iff.1 hw
  unfold St.uses
  dsimp only at hk ⊢
  split
  · exact valueAt_in h (by omega)
  · omega
set_option maxHeartbeats 1000000 in
theorem weightBehind_any (s : St) (st : Int) (w : World) (hs : s.ok = true) (h : 0 ≤ st ∧ st ≤ 80) :
    Calls Try.prog 193 #[.agg #[.int .i64 s.k, .int .i64 s.a, .int .i64 s.b, .int .i64 s.c, .int .i64 s.u, .int .i64 s.v, .int .i64 s.x], .int .i64 st] w fun e w' => e = .returned (.int .i64 (s.fac st)) ∧ Below w.heap.size w w' := by
  have cH := Lib.hid (fun wx => hasWeights_any s wx hs)
  have cH2 := Lib.hid (show ∀ wx, Calls Try.prog 82 #[.agg #[.int .i64 s.k, .int .i64 s.a, .int .i64 s.b, .int .i64 s.c, .int .i64 s.u, .int .i64 s.v, .int .i64 s.x]] wx fun e w' => e = .returned (.bool s.hasW) ∧ Below wx.heap.size wx w' from fun wx => cH.out wx)
  have hB0 : Below w.heap.size w (w.alloc (.cells #[.int .i64 s.k, .int .i64 s.a, .int .i64 s.b, .int .i64 s.c, .int .i64 s.u, .int .i64 s.v, .int .i64 s.x] 78)) := (Below.refl _ _).alloc (Nat.le_refl _) _
  have hB0h := Lib.hid hB0
  cases hw : s.hasW
  · rw [hw] at cH2
    have hR := Lib.hid (fac_one hw st)
    clear hs hw h hB0 cH
    go_enter Try.func193, Try.ntmps193
    go_wp2_with fail
    refine (cH2.out _).mono ?_
    rintro e w1 ⟨rfl, hb1⟩
    have hb1' := Lib.hid hb1
    clear hb1
    go_wp2_with fail
    go_ret
    exact ⟨ret_int hR.out, hB0h.out.trans (hb1'.out.mono (by simp))⟩
  · rw [hw] at cH2
    have hR := fac_uses hw st
    have hu := uses_rng hs hw h
    have cU := Lib.hid (fun wx => usedBehind_any s st wx hs hw h)
    generalize s.uses st = q at hR hu cU
    have hH := Lib.hid (Has.new w 78 #[.int .i64 s.k, .int .i64 s.a, .int .i64 s.b, .int .i64 s.c, .int .i64 s.u, .int .i64 s.v, .int .i64 s.x])
    clear hs hw h hB0 cH
    obtain rfl | rfl | rfl : q = 0 ∨ q = 1 ∨ q = 2 := by omega
    all_goals
      replace hR := Lib.hid hR
      go_enter Try.func193, Try.ntmps193
      go_wp2_with fail
      refine (cH2.out _).mono ?_
      rintro e w1 ⟨rfl, hb1⟩
      have hH1 := Lib.hid (hH.out.kept hb1)
      have hc1 := hH1.out.cell
      have hb1' := Lib.hid hb1
      clear hb1
      go_wp2_with fail
      refine (cU.out _).mono ?_
      rintro e w2 ⟨rfl, hb2⟩
      have hc2 := (hH1.out.kept hb2).cell
      have hb2' := Lib.hid hb2
      have hz1 := Lib.hid hb1'.out.size
      clear hb2 hc1
      go_wp2_with fail
      go_ret
      exact ⟨ret_int hR.out, (hB0h.out.trans (hb1'.out.mono (by simp))).trans (hb2'.out.mono (by have := hz1.out; simp at this; omega))⟩

theorem startRun_any (w : World) : Calls Try.prog 164 #[] w fun e w' => e = .returned (.agg #[.int .i64 0, .int .i64 0, .int .i64 1]) ∧ Below w.heap.size w w' := by
  go_enter Try.func164, Try.ntmps164
  go_wp2
  refine bodyPost_ret (v := .agg #[.int .i64 0, .int .i64 0, .int .i64 1]) (by simp [results, Try.results164, go_sem]) rfl ⟨rfl, ?_⟩
  repeat (refine Below.setCell ?_ (by simp) _)
  exact (((Below.refl _ _).alloc (Nat.le_refl _) _))

theorem step_other (s : St) (p : Nat) (st wt x : Int) (w : World) (hs : s.ok = true) (h6 : (s.k == 6) = false) (h : 0 ≤ st ∧ st ≤ 80) (hp : p ≤ 100) (hw : 0 ≤ wt ∧ wt ≤ 1000000000000) (hx : 0 ≤ x ∧ x ≤ 2) :
    Calls Try.prog 183 #[.agg #[.int .i64 s.k, .int .i64 s.a, .int .i64 s.b, .int .i64 s.c, .int .i64 s.u, .int .i64 s.v, .int .i64 s.x], .agg #[.int .i64 p, .int .i64 st, .int .i64 wt], .int .i64 x] w fun e w' => e = .returned (.agg #[.int .i64 (p + 1 : Int), .int .i64 (s.next st x), .int .i64 (wt * s.fac (s.next st x))]) ∧ Below w.heap.size w w' := by
  have hn := next_bd hs h hx
  have cB := Lib.hid (fun wx => stateBehind_any s st x wx hs h hx)
  have cW := Lib.hid (fun wx => weightBehind_any s (s.next st x) wx hs hn)
  have hf := fac_bd hs (s.next st x)
  generalize s.next st x = nx at hn cB cW hf ⊢
  generalize s.fac nx = f at cB cW hf ⊢
  have hz : 0 ≤ wt * f ∧ wt * f ≤ 9000000000000 := by
    have h1 := Int.mul_nonneg hw.1 hf.1
    have h2 : wt * f ≤ wt * 9 := Int.mul_le_mul_of_nonneg_left hf.2 hw.1
    omega
  have hsum : IntKind.i64.wrap (wt * f) = wt * f := by rw [IntKind.wrap_i64]; omega
  clear hs
  go_enter Try.func183, Try.ntmps183
  go_wp2_with fail
  refine (cB.out _).mono ?_
  rintro e w1 ⟨rfl, hb1⟩
  obtain ⟨c1, f1⟩ := bcell hb1
  have hz1 : w.heap.size + 3 ≤ w1.heap.size := by have := hb1.size; simp at this; omega
  have hB1 : Below w.heap.size w w1 := ((((Below.refl _ _).alloc (Nat.le_refl _) _).alloc (by simp) _).alloc (by simp; omega) _).trans (hb1.mono (by simp; omega))
  have hS1 : Has w1 w.heap.size 78 _ := (((Has.new w _ _).alloc _).alloc _).kept hb1
  have hN1 : Has w1 (w.heap.size + 1) 101 #[.int .i64 (p + 1 : Int), .int .i64 st, .int .i64 wt] := by
    have h0 := ((Has.new (w.alloc (.cells #[.int .i64 s.k, .int .i64 s.a, .int .i64 s.b, .int .i64 s.c, .int .i64 s.u, .int .i64 s.v, .int .i64 s.x] 78)) 101 #[.int .i64 (p + 1 : Int), .int .i64 st, .int .i64 wt]).alloc (.cells #[.int .i64 0, .int .i64 0, .int .i64 0] 101)).kept hb1
    simpa using h0
  have hR1 : Has w1 (w.heap.size + 2) 101 #[.int .i64 0, .int .i64 0, .int .i64 0] := by
    have h0 := (Has.new ((w.alloc (.cells #[.int .i64 s.k, .int .i64 s.a, .int .i64 s.b, .int .i64 s.c, .int .i64 s.u, .int .i64 s.v, .int .i64 s.x] 78)).alloc (.cells #[.int .i64 (p + 1 : Int), .int .i64 st, .int .i64 wt] 101)) 101 #[.int .i64 0, .int .i64 0, .int .i64 0]).kept hb1
    simpa using h0
  clear hb1
  have cs1 := hS1.cell
  have cn1 := hN1.cell
  have fn1 := hN1.frozen
  go_wp2_with fail
  have hS2 := hS1.far (p := ⟨w.heap.size + 1, 1, none⟩) (by simp) (.int .i64 nx)
  have hN2 := hN1.put 1 (.int .i64 nx)
  have hR2 := hR1.far (p := ⟨w.heap.size + 1, 1, none⟩) (by simp) (.int .i64 nx)
  have hB2 := hB1.setCell (p := ⟨w.heap.size + 1, 1, none⟩) (by simp) (.int .i64 nx)
  have hz2 : w.heap.size + 3 ≤ (w1.setCell ⟨w.heap.size + 1, 1, none⟩ (.int .i64 nx)).heap.size := by simpa using hz1
  clear cs1 cn1 fn1 hS1 hN1 hR1 hB1 hz1
  generalize w1.setCell ⟨w.heap.size + 1, 1, none⟩ (.int .i64 nx) = W2 at hS2 hN2 hR2 hB2 hz2 ⊢
  have cs1 := hS2.cell
  have cn1 := hN2.cell
  have fn1 := hN2.frozen
  simp at cn1
  go_region_law (first | (go_simp; go_at_call 193; refine (cW.out _).mono ?_; rintro e w2 ⟨rfl, hb2⟩; have cs2 := (Has.kept (by exact hS2) hb2).cell; have cn2 := (Has.kept (by exact hN2) hb2).cell; have fn2 := (Has.kept (by exact hN2) hb2).frozen))
  all_goals
    have hN3 := (Has.kept (by exact hN2) hb2).put 2 (.int .i64 (wt * f))
    have hR3 := (Has.kept (by exact hR2) hb2).far (p := ⟨w.heap.size + 1, 2, none⟩) (by simp) (.int .i64 (wt * f))
    have hB3 := (hB2.drew.trans (hb2.mono (by simp; omega))).setCell (p := ⟨w.heap.size + 1, 2, none⟩) (by simp) (.int .i64 (wt * f))
    clear hb2 cs2 cn2 fn2
    generalize w2.setCell ⟨w.heap.size + 1, 2, none⟩ (.int .i64 (wt * f)) = W3 at hN3 hR3 hB3 ⊢
    clear cs1 cn1 fn1 hS2 hN2 hR2 hB2 hz2 c1 f1
    have cn3 := hN3.cell
    have cr3 := hR3.cell
    have fr3 := hR3.frozen
    simp at cn3
    go_wp2
    refine bodyPost_ret (v := .agg #[.int .i64 (p + 1 : Int), .int .i64 nx, .int .i64 (wt * f)]) (by simp [results, Try.results183, go_sem, cr3]) rfl ⟨rfl, ?_⟩
    repeat (refine Below.setCell ?_ (by simp; try omega) _)
    exact hB3

theorem step_skip (s : St) (p : Nat) (st wt x : Int) (w : World) (hs : s.ok = true) (h6 : (s.k == 6) = true) (h : 0 ≤ st ∧ st ≤ 80) (hp : p ≤ 100) :
    Calls Try.prog 183 #[.agg #[.int .i64 s.k, .int .i64 s.a, .int .i64 s.b, .int .i64 s.c, .int .i64 s.u, .int .i64 s.v, .int .i64 s.x], .agg #[.int .i64 p, .int .i64 st, .int .i64 wt], .int .i64 x] w fun e w' => e = .returned (.agg #[.int .i64 (p + 1 + (s.jump st : Nat) : Int), .int .i64 st, .int .i64 wt]) ∧ Below w.heap.size w w' := by
  obtain ⟨k, a, b, c, u, v, y⟩ := s
  obtain rfl : k = 6 := by simpa using h6
  have hr := ok_rng hs
  have hj : (St.mk 6 a b c u v y).jump st = if valueAt st a = c then b.toNat else 0 := by simp [St.jump]
  have cV := Lib.hid (fun wx => ValueAt_q st a wx)
  have hb : 0 ≤ b ∧ b ≤ 12 := by omega
  generalize valueAt st a = m at hj cV
  clear hs hr
  by_cases hm : m = c
  · subst hm
    rw [if_pos rfl] at hj
    have hJ := Lib.hid (show ((p : Int) + 1 + ((St.mk 6 a b m u v y).jump st : Nat) : Int) = (p : Int) + 1 + b by rw [hj]; omega)
    clear hj
    go_enter Try.func183, Try.ntmps183
    go_wp2_with fail
    go_quiet ((go_at_call 114; exact Calls.quiet_of_same (cV.out _)))
    go_wp2
    refine bodyPost_ret (v := .agg #[.int .i64 (p + 1 + b : Int), .int .i64 st, .int .i64 wt]) (by simp [results, Try.results183, go_sem]) rfl ⟨by rw [hJ.out], ?_⟩
    iterate 4 (refine Below.setCell ?_ (by simp; try omega) _)
    exact below_drewN ((((Below.refl _ _).alloc (Nat.le_refl _) _).alloc (by simp) _).alloc (by simp; omega) _) _
  · rw [if_neg hm] at hj
    have hJ := Lib.hid (show ((p : Int) + 1 + ((St.mk 6 a b c u v y).jump st : Nat) : Int) = (p : Int) + 1 by rw [hj]; omega)
    have hm' : (m == c) = false := by simpa using hm
    clear hj hm
    go_enter Try.func183, Try.ntmps183
    go_wp2_with fail
    go_quiet ((go_at_call 114; exact Calls.quiet_of_same (cV.out _)))
    go_wp2
    refine bodyPost_ret (v := .agg #[.int .i64 (p + 1 : Int), .int .i64 st, .int .i64 wt]) (by simp [results, Try.results183, go_sem]) rfl ⟨by rw [hJ.out], ?_⟩
    iterate 3 (refine Below.setCell ?_ (by simp; try omega) _)
    exact below_drewN ((((Below.refl _ _).alloc (Nat.le_refl _) _).alloc (by simp) _).alloc (by simp; omega) _) _
theorem stepRun_any (s : St) (r : Rn) (x : Int) (w : World) (hs : s.ok = true) (h : r.fit) (hp : r.pos ≤ 12) (hx : 0 ≤ x ∧ x ≤ 2) :
    Calls Try.prog 183 #[.agg #[.int .i64 s.k, .int .i64 s.a, .int .i64 s.b, .int .i64 s.c, .int .i64 s.u, .int .i64 s.v, .int .i64 s.x], .agg #[.int .i64 r.pos, .int .i64 r.st, .int .i64 r.wt], .int .i64 x] w fun e w' => e = .returned (.agg #[.int .i64 (Rn.step s r x).pos, .int .i64 (Rn.step s r x).st, .int .i64 (Rn.step s r x).wt]) ∧ Below w.heap.size w w' := by
  have hsm := h.small hp
  obtain ⟨h0, h1, h2, _⟩ := h
  cases h6 : (s.k == 6)
  · have hj : s.jump r.st = 0 := by
      unfold St.jump
      rw [if_neg]
      rintro ⟨e, _⟩
      simp [e] at h6
    refine (step_other s r.pos r.st r.wt x w hs h6 ⟨h0, h1⟩ (by omega) ⟨h2, by omega⟩ hx).mono ?_
    rintro e w' ⟨rfl, hb⟩
    refine ⟨?_, hb⟩
    simp [Rn.step, hj]
  · have hk : s.k = 6 := by simpa using h6
    have e1 : s.next r.st x = r.st := by simp [St.next, hk]
    have e2 : s.fac r.st = 1 := by simp [St.fac, hk]
    refine (step_skip s r.pos r.st r.wt x w hs h6 ⟨h0, h1⟩ (by omega)).mono ?_
    rintro e w' ⟨rfl, hb⟩
    refine ⟨?_, hb⟩
    simp [Rn.step, e1, e2]

end Go.Proofs.Ytbndonfpdioibaa
