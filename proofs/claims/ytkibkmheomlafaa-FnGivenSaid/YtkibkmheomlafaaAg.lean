/- What two numbers have in common; fractions in lowest terms: the program's and the model's functions. -/
import Derived.Test.YtkibkmheomlafaaSc
import Derived.Deep.LoopGhost
namespace Go.Proofs.Ytkibkmheomlafaa
set_option maxRecDepth 100000
set_option linter.unusedVariables false
open Go.RowKit

/-- The greatest number that divides both. -/
def gcdI (a b : Int) : Int := (Nat.gcd a.toNat b.toNat : Nat)
theorem gcdI_zero {a : Int} (h : 0 ≤ a) : gcdI a 0 = a := by
  unfold gcdI
  rw [show (0 : Int).toNat = 0 from rfl, Nat.gcd_zero_right]
  omega
theorem gcdI_step {a b : Int} (ha : 0 ≤ a) (hb : 0 < b) : gcdI b (a % b) = gcdI a b := by
  obtain ⟨x, rfl⟩ := Int.eq_ofNat_of_zero_le ha
  obtain ⟨y, rfl⟩ := Int.eq_ofNat_of_zero_le (Int.le_of_lt hb)
  unfold gcdI
  rw [← Int.natCast_emod, Int.toNat_natCast, Int.toNat_natCast, Int.toNat_natCast, Nat.gcd_comm x y, Nat.gcd_rec y x, Nat.gcd_comm]
theorem gcdI_bd {a b M : Int} (ha : 0 ≤ a ∧ a ≤ M) (hb : 0 ≤ b ∧ b ≤ M) : 0 ≤ gcdI a b ∧ gcdI a b ≤ M := by
  unfold gcdI
  refine ⟨Int.natCast_nonneg _, ?_⟩
  rcases Nat.eq_zero_or_pos b.toNat with h | h
  · rw [h, Nat.gcd_zero_right]; omega
  · have := Nat.gcd_le_right a.toNat h
    omega
theorem gcdI_pos {a b : Int} (hb : 0 < b) : 0 < gcdI a b := by
  unfold gcdI
  have := Nat.gcd_pos_of_pos_right a.toNat (show 0 < b.toNat by omega)
  omega
theorem gcdI_dvd {a b : Int} (ha : 0 ≤ a) (hb : 0 ≤ b) : gcdI a b ∣ a ∧ gcdI a b ∣ b := by
  unfold gcdI
  have h1 := Nat.gcd_dvd_left a.toNat b.toNat
  have h2 := Nat.gcd_dvd_right a.toNat b.toNat
  have e1 : ((a.toNat : Nat) : Int) = a := Int.toNat_of_nonneg ha
  have e2 : ((b.toNat : Nat) : Int) = b := Int.toNat_of_nonneg hb
  constructor
  · have := Int.natCast_dvd_natCast.2 h1
    rwa [e1] at this
  · have := Int.natCast_dvd_natCast.2 h2
    rwa [e2] at this
/-- A fraction in lowest terms. -/
def low1 (a b : Int) : Int := a / gcdI a b
def low2 (a b : Int) : Int := b / gcdI a b

theorem commonOf_any (a b : Int) (w : World) (ha : 0 ≤ a ∧ a ≤ 9223372036854775807) (hb : 0 ≤ b ∧ b ≤ 9223372036854775807) :
    Calls Try.prog 111 #[.int .i64 a, .int .i64 b] w fun e w' => e = .returned (.int .i64 (gcdI a b)) ∧ ∃ k, w' = w.drewN k := by
  go_enter Try.func111, Try.ntmps111
  go_wp2
  go_loopw [0, 1] (fun u v wr => ∃ x y : Int, u = .int .i64 x ∧ v = .int .i64 y ∧ (0 ≤ x ∧ x ≤ 9223372036854775807) ∧ (0 ≤ y ∧ y ≤ 9223372036854775807) ∧ gcdI x y = gcdI a b ∧ ∃ q, wr = w.drewN q) (fun _ v _ => (intOf v).toNat)
  case atStart => exact ⟨a, b, rfl, rfl, ha, hb, rfl, 0, rfl⟩
  case round =>
    obtain ⟨x, y, rfl, rfl, hx, hy, he, q, rfl⟩ := hrel
    have hE := Lib.hid he
    clear he
    by_cases h0 : 0 < y
    · have hm1 : 0 ≤ x % y := Int.emod_nonneg _ (by omega)
      have hm2 : x % y < y := Int.emod_lt_of_pos _ h0
      have hS := Lib.hid (gcdI_step hx.1 h0)
      go_wp2
      go_quiet (fail)
      go_wp2
      exact ⟨⟨y, x % y, rfl, rfl, hy, ⟨hm1, by omega⟩, hS.out.trans hE.out, _, World.drewN_drewN _ _ _⟩, by simp [intOf]; omega⟩
    · have hy0 : y = 0 := by omega
      have hS := Lib.hid (show gcdI a b = x by rw [← hE.out, hy0, gcdI_zero hx.1])
      go_wp2
      go_ret
      exact ⟨ret_int hS.out, _, rfl⟩

theorem l4Common_any (a b : Int) (w : World) (ha : 0 ≤ a ∧ a ≤ 9223372036854775807) (hb : 0 ≤ b ∧ b ≤ 9223372036854775807) :
    Calls Try.prog 112 #[.int .i64 a, .int .i64 b] w fun e w' => e = .returned (.int .i64 (gcdI a b)) ∧ w = w' := by
  go_enter Try.func112, Try.ntmps112
  go_wp2
  go_loop [0, 1] (fun u v => ∃ x y : Int, u = .int .i64 x ∧ v = .int .i64 y ∧ (0 ≤ x ∧ x ≤ 9223372036854775807) ∧ (0 ≤ y ∧ y ≤ 9223372036854775807) ∧ gcdI x y = gcdI a b) (fun _ v => (intOf v).toNat)
  case atStart => exact ⟨a, b, rfl, rfl, ha, hb, rfl⟩
  case round =>
    obtain ⟨x, y, rfl, rfl, hx, hy, he⟩ := hrel
    have hE := Lib.hid he
    clear he
    by_cases h0 : 0 < y
    · have hm1 : 0 ≤ x % y := Int.emod_nonneg _ (by omega)
      have hm2 : x % y < y := Int.emod_lt_of_pos _ h0
      have hS := Lib.hid (gcdI_step hx.1 h0)
      have hyb : (y != 0) = true := by simp; omega
      go_wp2
      go_round
      case rel => exact ⟨y, x % y, rfl, rfl, hy, ⟨hm1, by omega⟩, hS.out.trans hE.out⟩
      case measure => simp [intOf]; omega
    · have hy0 : y = 0 := by omega
      have hS := Lib.hid (show gcdI a b = x by rw [← hE.out, hy0, gcdI_zero hx.1])
      subst hy0
      go_wp2
      go_ret
      exact ⟨ret_int hS.out, rfl⟩

theorem lowest_any (a b : Int) (w : World) (ha : 0 ≤ a ∧ a ≤ 9223372036854775807) (hb : 0 ≤ b ∧ b ≤ 9223372036854775807) :
    Calls Try.prog 82 #[.int .i64 a, .int .i64 b] w fun e w' => e = .returned (.tuple #[.int .i64 (if b = 0 then 0 else low1 a b), .int .i64 (if b = 0 then 0 else low2 a b), .bool (decide (b ≠ 0))]) ∧ ∃ k, w' = w.drewN k := by
  by_cases h0 : b = 0
  · subst h0
    go_enter Try.func82, Try.ntmps82
    go_wp2
    go_ret3
    exact ⟨rfl, 0, rfl⟩
  · rw [if_neg h0, if_neg h0, decide_eq_true h0]
    have hC := Lib.hid (fun wx => commonOf_any a b wx ha hb)
    have hg := gcdI_pos (a := a) (show 0 < b by omega)
    have hg2 := (gcdI_bd ha hb).2
    have hR1 := Lib.hid (show low1 a b = a / gcdI a b from rfl)
    have hR2 := Lib.hid (show low2 a b = b / gcdI a b from rfl)
    generalize gcdI a b = g at hC hg hg2 hR1 hR2
    go_enter Try.func82, Try.ntmps82
    go_wp2_with fail
    refine (hC.out _).mono ?_
    rintro e w1 ⟨rfl, q, rfl⟩
    go_wp2_with fail
    go_quiet (fail)
    go_wp2_with fail
    go_ret3
    exact ⟨by rw [hR1.out, hR2.out]; rfl, _, World.drewN_drewN _ _ _⟩
theorem l4Fraction_any (a b : Int) (w : World) (ha : 0 ≤ a ∧ a ≤ 9223372036854775807) (hb : 0 < b ∧ b ≤ 9223372036854775807) :
    Calls Try.prog 84 #[.int .i64 a, .int .i64 b] w fun e w' => e = .returned (.tuple #[.int .i64 (low1 a b), .int .i64 (low2 a b)]) ∧ ∃ k, w' = w.drewN k := by
  have hC := Lib.hid (fun wx => l4Common_any a b wx ha ⟨by omega, hb.2⟩)
  have hg := gcdI_pos (a := a) hb.1
  have hg2 := (gcdI_bd ha ⟨show 0 ≤ b by omega, hb.2⟩).2
  have hR1 := Lib.hid (show low1 a b = a / gcdI a b from rfl)
  have hR2 := Lib.hid (show low2 a b = b / gcdI a b from rfl)
  generalize gcdI a b = g at hC hg hg2 hR1 hR2
  go_enter Try.func84, Try.ntmps84
  go_wp2_with fail
  refine (hC.out _).mono ?_
  rintro e w1 ⟨rfl, rfl⟩
  go_wp2_with fail
  go_quiet (fail)
  go_wp2_with fail
  go_ret2
  exact ⟨by rw [hR1.out, hR2.out]; rfl, _, rfl⟩

/-- Fractions in lowest terms: how both sides tell them. -/
def fracOk (a b : Int) : Bool := inB a 0 1000000000 && inB b 1 1000000000
def Frd (w : World) (a b : Int) (e : Ending) (w' : World) : Prop := e = .returned (if fracOk a b = true then .tuple #[.int .i64 (low1 a b), .int .i64 (low2 a b), .bool true] else .tuple #[.int .i64 0, .int .i64 0, .bool false]) ∧ ∃ k, w' = w.drewN k
theorem FractionOf_any (a b : Int) (w : World) :
    Calls Try.prog 45 #[.int .i64 a, .int .i64 b] w (Frd w a b) := by
  rcases inB_cases a 0 1000000000 with ⟨h1, h2, hr⟩ | ⟨h1, hr⟩
  · rcases inB_cases b 1 1000000000 with ⟨h3, h4, hr2⟩ | ⟨h3, hr2⟩
    · have hF := Lib.hid (show fracOk a b = true by unfold fracOk; rw [hr, hr2]; rfl)
      have hL := Lib.hid (fun wx => lowest_any a b wx ⟨h1, by omega⟩ ⟨by omega, by omega⟩)
      have hbz : ¬ b = 0 := by omega
      rw [if_neg hbz, if_neg hbz, decide_eq_true (show b ≠ 0 from hbz)] at hL
      go_enter Try.func45, Try.ntmps45
      go_wp2_with (first | (go_at_call 65; refine (within_any _ _ _ _).mono ?_; rintro e w' ⟨rfl, rfl⟩))
      refine (hL.out _).mono ?_
      rintro e w1 ⟨rfl, q, rfl⟩
      go_wp2_with fail
      go_ret3
      refine ⟨?_, q, rfl⟩
      rw [if_pos hF.out]; rfl
    · have hF := Lib.hid (show ¬ fracOk a b = true by unfold fracOk; rw [hr, hr2]; decide)
      go_enter Try.func45, Try.ntmps45
      go_wp2_with (first | (go_at_call 65; refine (within_any _ _ _ _).mono ?_; rintro e w' ⟨rfl, rfl⟩))
      go_ret3
      refine ⟨?_, 0, rfl⟩
      rw [if_neg hF.out]; rfl
  · have hF := Lib.hid (show ¬ fracOk a b = true by unfold fracOk; rw [hr]; exact Bool.false_ne_true)
    go_enter Try.func45, Try.ntmps45
    go_wp2_with (first | (go_at_call 65; refine (within_any _ _ _ _).mono ?_; rintro e w' ⟨rfl, rfl⟩))
    go_ret3
    refine ⟨?_, 0, rfl⟩
    rw [if_neg hF.out]; rfl
end Go.Proofs.Ytkibkmheomlafaa
