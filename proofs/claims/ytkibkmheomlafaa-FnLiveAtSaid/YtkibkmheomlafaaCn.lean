/- Whether a change fits: the model's l6Touch, l6Apart, l6Product, l6Common and l6Ok. Weights' products and what they have in common: the model's l6Product and l6Common. -/
import Derived.Test.YtkibkmheomlafaaCa
import Derived.Test.YtkibkmheomlafaaAg
import Derived.Test.YtkibkmheomlafaaCb
namespace Go.Proofs.Ytkibkmheomlafaa
set_option maxRecDepth 100000
set_option linter.unusedVariables false
open Go.RowKit

theorem com_three {s : St} (h : s.ok = true) (h6 : s.k < 6) : com s = gcdI (gcdI s.u s.v) s.x := by
  have hw := ok_w h h6
  have e : gcdI 0 s.u = s.u := by
    unfold gcdI
    rw [show (0 : Int).toNat = 0 from rfl, Nat.gcd_zero_left]
    exact Int.toNat_of_nonneg hw.1.1
  unfold com gcdF
  rw [List.foldl_cons, List.foldl_cons, List.foldl_cons, List.foldl_nil, e]
/-- What a statement reads or sets. -/
def touch (s : St) : Int := if 0 ≤ s.sets then bits .or .i64 s.reads (bitN s.sets) else s.reads
theorem shl_bit : ∀ x : Fin 4, wrap64 (2 ^ ((x : Int)).toNat) = bitN x := by decide +kernel
/-- Whether what two statements touch is apart, told by bits. -/
def bitAt (t x : Int) : Int := (t / 2 ^ x.toNat).tmod 2
theorem apart_facts : ∀ x : Fin 5, ∀ rx : Fin 16, ∀ y : Fin 5, ∀ ry : Fin 16,
    (if decide (0 ≤ (x : Int) - 1) && (bitAt (if 0 ≤ (y : Int) - 1 then bits .or .i64 ry (bitN ((y : Int) - 1)) else ry) ((x : Int) - 1) == 1) then false
      else (decide ((y : Int) - 1 < 0) || (bitAt (if 0 ≤ (x : Int) - 1 then bits .or .i64 rx (bitN ((x : Int) - 1)) else rx) ((y : Int) - 1) == 0))) = swapB ((x : Int) - 1) rx ((y : Int) - 1) ry := by decide +kernel
theorem apart_swap {a b : St} (ha : a.ok = true) (hb : b.ok = true) :
    (if decide (0 ≤ a.sets) && (bitAt (touch b) a.sets == 1) then false else (decide (b.sets < 0) || (bitAt (touch a) b.sets == 0))) = swapOk a b := by
  have h1 := sets_bd a ha
  have h2 := sets_bd b hb
  have h3 := reads_bd a
  have h4 := reads_bd b
  have := apart_facts ⟨(a.sets + 1).toNat, by omega⟩ ⟨a.reads.toNat, by omega⟩ ⟨(b.sets + 1).toNat, by omega⟩ ⟨b.reads.toNat, by omega⟩
  dsimp only at this
  rw [Int.toNat_of_nonneg (by omega), Int.toNat_of_nonneg (by omega), Int.toNat_of_nonneg (by omega), Int.toNat_of_nonneg (by omega), Int.add_sub_cancel, Int.add_sub_cancel] at this
  exact this
end Go.Proofs.Ytkibkmheomlafaa

namespace Go.Proofs.Ytkibkmheomlafaa
set_option maxRecDepth 100000
set_option linter.unusedVariables false
open Go.RowKit

theorem l4Common_flip (a b : Int) (w : World) (ha : 0 ≤ a ∧ a ≤ 9223372036854775807) (hb : 0 ≤ b ∧ b ≤ 9223372036854775807) :
    Calls Try.prog 112 #[.int .i64 a, .int .i64 b] w fun e w' => e = .returned (.int .i64 (gcdI a b)) ∧ w' = w := (l4Common_any a b w ha hb).mono fun _ _ h => ⟨h.1, h.2.symm⟩
/-- The products so far. -/
def prodA (s t : St) : Nat → Array Value
  | 0 => #[.int .i64 0, .int .i64 0, .int .i64 0]
  | 1 => #[.int .i64 (s.u * t.u), .int .i64 0, .int .i64 0]
  | 2 => #[.int .i64 (s.u * t.u), .int .i64 (s.v * t.v), .int .i64 0]
  | _ => #[.int .i64 (s.u * t.u), .int .i64 (s.v * t.v), .int .i64 (s.x * t.x)]
end Go.Proofs.Ytkibkmheomlafaa
