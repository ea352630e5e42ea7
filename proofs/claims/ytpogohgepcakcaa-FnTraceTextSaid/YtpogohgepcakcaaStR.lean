/- What a statement reads and sets: the program and the model return the same. -/
import Derived.Test.YtpogohgepcakcaaStOkJ
import Derived.Test.YtpogohgepcakcaaMem
namespace Go.Proofs.Ytpogohgepcakcaa
set_option maxRecDepth 100000
open Go.RowKit

def bitN (n : Int) : Int := if inB n 0 3 = true then (2 ^ n.toNat : Nat) else 0
def St.reads (s : St) : Int :=
  if s.ok = true then
    (if s.k = 0 ∨ s.k = 3 then bitN s.b else if s.k = 1 ∨ s.k = 5 then bitN s.a + bitN s.b else if s.k = 4 ∨ s.k = 6 then bitN s.a else 0)
  else 0
def St.sets (s : St) : Int := if s.ok = true ∧ s.k ≤ 3 then s.a else -1

theorem bit_cases {n : Int} (h0 : 0 ≤ n) (h1 : n ≤ 3) : n = 0 ∨ n = 1 ∨ n = 2 ∨ n = 3 := by omega
theorem bitN_bd (n : Int) : 0 ≤ bitN n ∧ bitN n ≤ 8 := by
  rcases inB_cases n 0 3 with ⟨h1, h2, hr⟩ | ⟨h1, hr⟩
  · obtain rfl | rfl | rfl | rfl := bit_cases h1 h2
    all_goals decide
  · simp [bitN, hr]
theorem or1 {a : Int} (h0 : 0 ≤ a) (h1 : a ≤ 3) : bits .or .i64 0 (wrap64 (2 ^ a.toNat)) = bitN a := by
  obtain rfl | rfl | rfl | rfl := bit_cases h0 h1
  all_goals decide +kernel
theorem or2 {a b : Int} (h0 : 0 ≤ a) (h1 : a ≤ 3) (h2 : 0 ≤ b) (h3 : b ≤ 3) (hne : a ≠ b) : bits .or .i64 (bits .or .i64 0 (wrap64 (2 ^ a.toNat))) (wrap64 (2 ^ b.toNat)) = bitN a + bitN b := by
  obtain rfl | rfl | rfl | rfl := bit_cases h0 h1 <;> obtain rfl | rfl | rfl | rfl := bit_cases h2 h3
  all_goals first | (exact absurd rfl hne) | decide +kernel

theorem reads_no {s : St} (h : s.ok = false) : s.reads = 0 := by simp [St.reads, h]
end Go.Proofs.Ytpogohgepcakcaa
