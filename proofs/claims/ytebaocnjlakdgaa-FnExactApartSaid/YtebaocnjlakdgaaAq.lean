/- Products of two words: the program's productOf. -/
import Derived.Test.YtebaocnjlakdgaaAb
namespace Go.Proofs.Ytebaocnjlakdgaa
set_option maxRecDepth 100000
set_option linter.unusedVariables false
open Go.RowKit

theorem ofInt_u64 (a : Nat) (ha : a < 18446744073709551616) : (BitVec.ofInt 64 (a : Int)).toNat = a := by
  rw [BitVec.ofInt_natCast, BitVec.toNat_ofNat]; exact Nat.mod_eq_of_lt (by omega)
theorem and_mask {x : Int} (h : 0 ≤ x ∧ x < 18446744073709551616) : bits .and .u64 x 4294967295 = x % 4294967296 := by
  obtain ⟨n, rfl⟩ := Int.eq_ofNat_of_zero_le h.1
  have hn : n < 18446744073709551616 := by omega
  have e : n &&& 4294967295 = n % 4294967296 := Nat.and_two_pow_sub_one_eq_mod n 32
  have e2 := ofInt_u64 n hn
  have e3 := ofInt_u64 4294967295 (by decide)
  have e3' : (BitVec.ofInt 64 (4294967295 : Int)).toNat = 4294967295 := e3
  show IntKind.u64.wrap ((BitVec.ofInt 64 (n : Int) &&& BitVec.ofInt 64 (4294967295 : Int)).toNat : Int) = _
  rw [BitVec.toNat_and, e2, e3', e, IntKind.wrap_u64]
  omega
theorem or_words {y z : Int} (hy : 0 ≤ y ∧ y < 4294967296) (hz : 0 ≤ z ∧ z < 4294967296) : bits .or .u64 (y * 4294967296) z = y * 4294967296 + z := by
  obtain ⟨m, rfl⟩ := Int.eq_ofNat_of_zero_le hy.1
  obtain ⟨n, rfl⟩ := Int.eq_ofNat_of_zero_le hz.1
  have hm : m < 4294967296 := by omega
  have hn : n < 4294967296 := by omega
  have e : m <<< 32 ||| n = m <<< 32 + n := (Nat.shiftLeft_add_eq_or_of_lt (by omega) m).symm
  rw [Nat.shiftLeft_eq] at e
  have e1 : ((m : Int) * 4294967296) = ((m * 4294967296 : Nat) : Int) := by omega
  have e2 := ofInt_u64 (m * 4294967296) (by omega)
  have e3 := ofInt_u64 n (by omega)
  have e' : m * 4294967296 ||| n = m * 4294967296 + n := e
  rw [e1]
  show IntKind.u64.wrap ((BitVec.ofInt 64 ((m * 4294967296 : Nat) : Int) ||| BitVec.ofInt 64 (n : Int)).toNat : Int) = _
  rw [BitVec.toNat_or, e2, e3, e', IntKind.wrap_u64]
  omega
theorem u64_in {x : Int} (h : 0 ≤ x ∧ x < 18446744073709551616) : IntKind.u64.wrap x = x := by rw [IntKind.wrap_u64]; omega

theorem productOf_any (a b : Int) (w : World) (ha : 0 ≤ a ∧ a ≤ 100000000000) (hb : 0 ≤ b ∧ b ≤ 100000000000) :
    Calls Try.prog 69 #[.int .i64 a, .int .i64 b] w fun e w' => e = .returned (.agg #[.int .u64 (a * b / 18446744073709551616), .int .u64 (a * b % 18446744073709551616)]) ∧ Below w.heap.size w w' := by
  obtain ⟨aL, haL⟩ : ∃ x, x = a % 4294967296 := ⟨_, rfl⟩
  obtain ⟨bL, hbL⟩ : ∃ x, x = b % 4294967296 := ⟨_, rfl⟩
  obtain ⟨aH, haH⟩ : ∃ x, x = a / 4294967296 := ⟨_, rfl⟩
  obtain ⟨bH, hbH⟩ : ∃ x, x = b / 4294967296 := ⟨_, rfl⟩
  have q1 : bits .and .u64 a 4294967295 = aL := by rw [haL]; exact and_mask (by omega)
  have q2 : bits .and .u64 b 4294967295 = bL := by rw [hbL]; exact and_mask (by omega)
  have bd : ∀ {x y X Y : Int}, (0 ≤ x ∧ x ≤ X) → (0 ≤ y ∧ y ≤ Y) → 0 ≤ x * y ∧ x * y ≤ X * Y := fun {x y X Y} h1 h2 => by
    refine ⟨Int.mul_nonneg h1.1 h2.1, Int.le_trans (Int.mul_le_mul_of_nonneg_right h1.2 h2.1) (Int.mul_le_mul_of_nonneg_left h2.2 (Int.le_trans h1.1 h1.2))⟩
  have b1 := bd (x := aL) (y := bL) (X := 4294967295) (Y := 4294967295) (by omega) (by omega)
  have b2 := bd (x := aH) (y := bL) (X := 23) (Y := 4294967295) (by omega) (by omega)
  have b3 := bd (x := aL) (y := bH) (X := 4294967295) (Y := 23) (by omega) (by omega)
  have b4 := bd (x := aH) (y := bH) (X := 23) (Y := 23) (by omega) (by omega)
  have hab : a * b = aH * bH * 18446744073709551616 + aH * bL * 4294967296 + aL * bH * 4294967296 + aL * bL := by
    have ea : a = aH * 4294967296 + aL := by omega
    have eb : b = bH * 4294967296 + bL := by omega
    conv => lhs; rw [ea, eb, Int.add_mul, Int.mul_add, Int.mul_add]
    have e1 : aH * 4294967296 * (bH * 4294967296) = aH * bH * 18446744073709551616 := by
      rw [Int.mul_assoc, Int.mul_left_comm 4294967296 bH 4294967296, ← Int.mul_assoc]; rfl
    have e2 : aH * 4294967296 * bL = aH * bL * 4294967296 := by rw [Int.mul_assoc, Int.mul_comm 4294967296 bL, ← Int.mul_assoc]
    have e3 : aL * (bH * 4294967296) = aL * bH * 4294967296 := by rw [← Int.mul_assoc]
    rw [e1, e2, e3]
    omega
  have r1 : a / 4294967296 = aH := haH.symm
  have r2 : b / 4294967296 = bH := hbH.symm
  have w1 : IntKind.u64.wrap (aL * bL) = aL * bL := u64_in (by omega)
  have w2 : IntKind.u64.wrap (aH * bL) = aH * bL := u64_in (by omega)
  have w3 : IntKind.u64.wrap (aL * bH) = aL * bH := u64_in (by omega)
  have w4 : IntKind.u64.wrap (aH * bH) = aH * bH := u64_in (by omega)
  generalize a * b = P at *
  generalize hlo : aL * bL = lo at *
  generalize hp1 : aH * bL = p1 at *
  generalize hp2 : aL * bH = p2 at *
  generalize hp3 : aH * bH = p3 at *
  obtain ⟨mid, hmid⟩ : ∃ x, x = p1 + lo / 4294967296 := ⟨_, rfl⟩
  obtain ⟨rest, hrest⟩ : ∃ x, x = p2 + mid % 4294967296 := ⟨_, rfl⟩
  have q3 : bits .and .u64 lo 4294967295 = lo % 4294967296 := and_mask (by omega)
  have q4 : bits .and .u64 mid 4294967295 = mid % 4294967296 := and_mask (by omega)
  have w5 : IntKind.u64.wrap (p1 + lo / 4294967296) = mid := by rw [hmid]; exact u64_in (by omega)
  have w6 : IntKind.u64.wrap (p2 + mid % 4294967296) = rest := by rw [hrest]; exact u64_in (by omega)
  have w7 : IntKind.u64.wrap (p3 + mid / 4294967296) = p3 + mid / 4294967296 := u64_in (by omega)
  have w8 : IntKind.u64.wrap (p3 + mid / 4294967296 + rest / 4294967296) = P / 18446744073709551616 := by rw [u64_in (by omega)]; omega
  have w9 : IntKind.u64.wrap (rest * 4294967296) = rest % 4294967296 * 4294967296 := by rw [IntKind.wrap_u64]; omega
  have w10 : bits .or .u64 (rest % 4294967296 * 4294967296) (lo % 4294967296) = P % 18446744073709551616 := by rw [or_words (by omega) (by omega)]; omega
  clear haL hbL haH hbH hab hmid hrest b1 b2 b3 b4 bd
  have hB := Lib.hid (show ∀ x y : Int, Below w.heap.size w (w.alloc (.cells #[.int .u64 x, .int .u64 y] 91)) from fun x y => (Below.refl _ _).alloc (Nat.le_refl _) _)
  go_enter Try.func69, Try.ntmps69
  have hX := Lib.hid (Has.new w 91 #[.int .u64 (P / 18446744073709551616), .int .u64 (P % 18446744073709551616)])
  go_wp2_with fail
  have cr := hX.out.cell
  refine bodyPost_ret (v := .agg #[.int .u64 (P / 18446744073709551616), .int .u64 (P % 18446744073709551616)]) (by simp [results, Try.results69, go_sem, cr]) rfl ⟨rfl, hB.out _ _⟩
end Go.Proofs.Ytebaocnjlakdgaa
