/- The drawn lists with a variable: DrawMarginalOf, DrawApart. -/
import Derived.Test.YtkibkmheomlafaaDx
namespace Go.Proofs.Ytkibkmheomlafaa
set_option maxRecDepth 100000
set_option linter.unusedVariables false
open Go.RowKit

def Mgd (w : World) (e : Ending) (w' : World) : Prop := ∃ (u : Value) (ds : List Int) (v : Int), e = .returned (.tuple #[u, .int .i64 v]) ∧ IOwn w' w.heap.size u ds ∧ ds.length ≤ 82 ∧ Below w.heap.size w w'
theorem nums10 (w : World) : Nums (w.alloc (.cells #[.int .i64 0, .int .i64 1, .int .i64 2, .int .i64 3, .int .i64 0, .int .i64 1, .int .i64 2, .int .i64 3, .int .i64 4, .int .i64 (-1)] 3)) w.heap.size 10 (fun _ => True) :=
  Nums.of (Has.new w 3 #[.int .i64 0, .int .i64 1, .int .i64 2, .int .i64 3, .int .i64 0, .int .i64 1, .int .i64 2, .int .i64 3, .int .i64 4, .int .i64 (-1)]) (fun i hi => by
    obtain rfl | rfl | rfl | rfl | rfl | rfl | rfl | rfl | rfl | rfl : i = 0 ∨ i = 1 ∨ i = 2 ∨ i = 3 ∨ i = 4 ∨ i = 5 ∨ i = 6 ∨ i = 7 ∨ i = 8 ∨ i = 9 := by omega
    all_goals exact ⟨_, rfl, trivial⟩)
set_option maxHeartbeats 1000000 in
theorem DrawMarginalOf_any (A : Option Addr) (n c : Nat) (w : World) (h : Byt w w.heap.size A n) (hn : n ≤ c) (hc : c ≤ maxLen) :
    Calls Try.prog 38 #[.slice A n c] w (Mgd w) := by
  have hO := Lib.hid (l40Open_any A n c _ h hn hc)
  clear h hc
  go_enter Try.func38, Try.ntmps38
  go_wp2_with fail
  refine (hO.out).mono ?_
  rintro e w1 ⟨rfl, ⟨n', hn', hr1⟩, hb1⟩
  have hz := hr1.lt
  clear hO
  go_wp2_with fail
  refine (l4Draw_anyR A n' c 0 w1 w hr1 (by omega) hn' hb1).mono ?_
  rintro e w2 ⟨u, ds, p2, rfl, hO2, hl2, hb2, hr2, hp2⟩
  obtain ⟨A2, c2, hv2, _, _⟩ := hO2.form
  subst hv2
  have hz2 := hr2.lt
  have hN := Lib.hid (nums10 w2)
  have hO3 := Lib.hid (hO2.alloc (.cells #[.int .i64 0, .int .i64 1, .int .i64 2, .int .i64 3, .int .i64 0, .int .i64 1, .int .i64 2, .int .i64 3, .int .i64 4, .int .i64 (-1)] 3))
  have hB3 := Lib.hid (hb2.alloc (by omega) (.cells #[.int .i64 0, .int .i64 1, .int .i64 2, .int .i64 3, .int .i64 0, .int .i64 1, .int .i64 2, .int .i64 3, .int .i64 4, .int .i64 (-1)] 3))
  clear hO2 hb2 hr1 hb1
  go_wp2_with fail
  refine (num_any w.heap.size A n' c _ w.heap.size w2.heap.size 10 _ (fun _ => True) _ (hr2.alloc (by omega) _) (by omega) hn' (by omega) (by omega) (by simp) (by omega) hN.out).mono ?_
  rintro e w4 ⟨t1, rfl, _, hr4, hc4⟩
  have hO4 := Lib.hid (owns_chg hO3.out hc4 (Nat.lt_succ_self _))
  have hB4 := Lib.hid (hB3.out.trans (hc4.below (B := w.heap.size) (Nat.le_refl _) (by simp; omega)))
  clear hr4 hc4 hr2
  go_wp2_with fail
  go_ret2
  exact ⟨_, ds, _, rfl, owns_le hO4.out (Nat.le_succ _), hl2, hB4.out⟩
/-- A list and two variables. -/
def Apc (w : World) (e : Ending) (w' : World) : Prop := ∃ (u : Value) (ds : List Int) (a b : Int), e = .returned (.tuple #[u, .int .i64 a, .int .i64 b]) ∧ IOwn w' w.heap.size u ds ∧ ds.length ≤ 82 ∧ Below w.heap.size w w'
end Go.Proofs.Ytkibkmheomlafaa
