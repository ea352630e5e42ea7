/- What two numbers have in common; fractions in lowest terms: the program's and the model's functions. -/
import Derived.Test.YtbndonfpdioibaaSc
import Derived.Deep.LoopGhost
namespace Go.Proofs.Ytbndonfpdioibaa
set_option maxRecDepth 100000
set_option linter.unusedVariables false
open Go.RowKit

/-- The greatest number that divides both. -/
def gcdI (a b : Int) : Int := (Nat.gcd a.toNat b.toNat : Nat)
theorem gcdI_zero {a : Int} (h : 0 ≤ a) : gcdI a 0 = a := by
  unfold gcdI
  rw [show (0 : Int).toNat = 0 from rfl, Nat.gcd_zero_right]
  omega
theorem gcdI_step {a b : Int} (ha : 0 ≤ a) (hb : 0 < b) : gcdI b (a % b) = gcdI a b := by
  obtain ⟨x, rfl⟩ := Int.eq_ofNat_of_zero_le ha
  obtain ⟨y, rfl⟩ := Int.eq_ofNat_of_zero_le (Int.le_of_lt hb)
  unfold gcdI
  rw [← Int.natCast_emod, Int.toNat_natCast, Int.toNat_natCast, Int.toNat_natCast, Nat.gcd_comm x y, Nat.gcd_rec y x, Nat.gcd_comm]
theorem gcdI_bd {a b M : Int} (ha : 0 ≤ a ∧ a ≤ M) (hb : 0 ≤ b ∧ b ≤ M) : 0 ≤ gcdI a b ∧ gcdI a b ≤ M := by
  unfold gcdI
  refine ⟨Int.natCast_nonneg _, ?_⟩
  rcases Nat.eq_zero_or_pos b.toNat with h | h
  · rw [h, Nat.gcd_zero_right]; omega
  · have := Nat.gcd_le_right a.toNat h
    omega
theorem gcdI_pos {a b : Int} (hb : 0 < b) : 0 < gcdI a b := by
  unfold gcdI
  have := Nat.gcd_pos_of_pos_right a.toNat (show 0 < b.toNat by omega)
  omega
theorem gcdI_dvd {a b : Int} (ha : 0 ≤ a) (hb : 0 ≤ b) : gcdI a b ∣ a ∧ gcdI a b ∣ b := by
  unfold gcdI
  have h1 := Nat.gcd_dvd_left a.toNat b.toNat
  have h2 := Nat.gcd_dvd_right a.toNat b.toNat
  have e1 : ((a.toNat : Nat) : Int) = a := Int.toNat_of_nonneg ha
  have e2 : ((b.toNat : Nat) : Int) = b := Int.toNat_of_nonneg hb
  constructor
  · have := Int.natCast_dvd_natCast.2 h1
    rwa [e1] at this
  · have := Int.natCast_dvd_natCast.2 h2
    rwa [e2] at this
/-- A fraction in lowest terms. -/
def low1 (a b : Int) : Int := a / gcdI a b
def low2 (a b : Int) : Int := b / gcdI a b

theorem commonOf_any (a b : Int) (w : World) (ha : 0 ≤ a ∧ a ≤ 9223372036854775807) (hb : 0 ≤ b ∧ b ≤ 9223372036854775807) :
    Calls Try.prog 135 #[.int .i64 a, .int .i64 b] w fun e w' => e = .returned (.int .i64 (gcdI a b)) ∧ ∃ k, w' = w.drewN k := by
  go_enter Try.func135, Try.ntmps135
  go_wp2
  go_loopw [0, 1] (fun u v wr => ∃ x y : Int, u = .int .i64 x ∧ v = .int .i64 y ∧ (0 ≤ x ∧ x ≤ 9223372036854775807) ∧ (0 ≤ y ∧ y ≤ 9223372036854775807) ∧ gcdI x y = gcdI a b ∧ ∃ q, wr = w.drewN q) (fun _ v _ => (intOf v).toNat)
  case atStart => exact ⟨a, b, rfl, rfl, ha, hb, rfl, 0, rfl⟩
  case round =>
    obtain ⟨x, y, rfl, rfl, hx, hy, he, q, rfl⟩ := hrel
    have hE := Lib.hid he
    clear he
    by_cases h0 : 0 < y
    · have hm1 : 0 ≤ x % y := Int.emod_nonneg _ (by omega)
      have hm2 : x % y < y := Int.emod_lt_of_pos _ h0
      have hS := Lib.hid (gcdI_step hx.1 h0)
      go_wp2
      go_quiet (fail)
      go_wp2
      exact ⟨⟨y, x % y, rfl, rfl, hy, ⟨hm1, by omega⟩, hS.out.trans hE.out, _, World.drewN_drewN _ _ _⟩, by simp [intOf]; omega⟩
    · have hy0 : y = 0 := by omega
      have hS := Lib.hid (show gcdI a b = x by rw [← hE.out, hy0, gcdI_zero hx.1])
      go_wp2
      go_ret
      exact ⟨ret_int hS.out, _, rfl⟩

theorem l4Common_any (a b : Int) (w : World) (ha : 0 ≤ a ∧ a ≤ 9223372036854775807) (hb : 0 ≤ b ∧ b ≤ 9223372036854775807) :
    Calls Try.prog 155 #[.int .i64 a, .int .i64 b] w fun e w' => e = .returned (.int .i64 (gcdI a b)) ∧ w = w' := by
  go_enter Try.func155, Try.ntmps155
  go_wp2
  go_loop [0, 1] (fun u v => ∃ x y : Int, u = .int .i64 x ∧ v = .int .i64 y ∧ (0 ≤ x ∧ x ≤ 9223372036854775807) ∧ (0 ≤ y ∧ y ≤ 9223372036854775807) ∧ gcdI x y = gcdI a b) (fun _ v => (intOf v).toNat)
  case atStart => exact ⟨a, b, rfl, rfl, ha, hb, rfl⟩
  case round =>
    obtain ⟨x, y, rfl, rfl, hx, hy, he⟩ := hrel
    have hE := Lib.hid he
    clear he
    by_cases h0 : 0 < y
    · have hm1 : 0 ≤ x % y := Int.emod_nonneg _ (by omega)
      have hm2 : x % y < y := Int.emod_lt_of_pos _ h0
      have hS := Lib.hid (gcdI_step hx.1 h0)
      have hyb : (y != 0) = true := by simp; omega
      go_wp2
      go_round
      case rel => exact ⟨y, x % y, rfl, rfl, hy, ⟨hm1, by omega⟩, hS.out.trans hE.out⟩
      case measure => simp [intOf]; omega
    · have hy0 : y = 0 := by omega
      have hS := Lib.hid (show gcdI a b = x by rw [← hE.out, hy0, gcdI_zero hx.1])
      subst hy0
      go_wp2
      go_ret
      exact ⟨ret_int hS.out, rfl⟩

/-- Fractions in lowest terms: how both sides tell them. -/
def fracOk (a b : Int) : Bool := inB a 0 1000000000 && inB b 1 1000000000
def Frd (w : World) (a b : Int) (e : Ending) (w' : World) : Prop := e = .returned (if fracOk a b = true then .tuple #[.int .i64 (low1 a b), .int .i64 (low2 a b), .bool true] else .tuple #[.int .i64 0, .int .i64 0, .bool false]) ∧ ∃ k, w' = w.drewN k
end Go.Proofs.Ytbndonfpdioibaa
