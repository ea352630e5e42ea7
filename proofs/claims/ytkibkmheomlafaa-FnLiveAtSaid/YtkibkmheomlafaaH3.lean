/- Slices: the drawn arguments. -/
import Derived.Test.YtkibkmheomlafaaE1
import Derived.Test.YtkibkmheomlafaaDr
namespace Go.Proofs.Ytkibkmheomlafaa
set_option maxRecDepth 100000
set_option linter.unusedVariables false
open Go.RowKit

def Slc (w : World) (e : Ending) (w' : World) : Prop := ∃ (v : Value) (os : List St) (x : Int), e = .returned (.tuple #[v, .int .i64 x]) ∧ Own w' w.heap.size v os ∧ os.length ≤ 20 ∧ Below w.heap.size w w'
theorem nums11 (w : World) : Nums (w.alloc (.cells #[.int .i64 1, .int .i64 2, .int .i64 3, .int .i64 1, .int .i64 2, .int .i64 4, .int .i64 8, .int .i64 0, .int .i64 15, .int .i64 16, .int .i64 (-1)] 3)) w.heap.size 11 (fun _ => True) :=
  Nums.of (Has.new w 3 #[.int .i64 1, .int .i64 2, .int .i64 3, .int .i64 1, .int .i64 2, .int .i64 4, .int .i64 8, .int .i64 0, .int .i64 15, .int .i64 16, .int .i64 (-1)]) (fun i hi => by
    obtain rfl | rfl | rfl | rfl | rfl | rfl | rfl | rfl | rfl | rfl | rfl : i = 0 ∨ i = 1 ∨ i = 2 ∨ i = 3 ∨ i = 4 ∨ i = 5 ∨ i = 6 ∨ i = 7 ∨ i = 8 ∨ i = 9 ∨ i = 10 := by omega
    all_goals exact ⟨_, rfl, trivial⟩)
set_option maxHeartbeats 2000000 in
theorem l7Case_any (A : Option Addr) (n c : Nat) (w : World) (h : Byt w w.heap.size A n) (hn : n ≤ c) (hc : c ≤ maxLen) :
    Calls Try.prog 50 #[.slice A n c] w (Slc w) := by
  have hO := Lib.hid (l40Open_any A n c _ h hn hc)
  clear h hc
  go_enter Try.func50, Try.ntmps50
  go_wp2_with fail
  refine (hO.out).mono ?_
  rintro e w1 ⟨rfl, ⟨n', hn', hr1⟩, hb1⟩
  have hz := hr1.lt
  clear hO
  go_wp2_with fail
  refine (l1Plain_any w.heap.size A n' c 0 w.heap.size 5 w1 hr1 (by omega) hn' (by omega)).mono ?_
  rintro e w2 ⟨v2, os, p2, rfl, hO2, hl1, hl2, hp2, hr2, hc2⟩
  obtain ⟨A2, c2, hv2, hlc, hlm⟩ := hO2.form
  subst hv2
  have hz2 := hc2.size
  have hB2 := Lib.hid (show Below w.heap.size w w2 from hb1.trans (hc2.below (B := w.heap.size) (Nat.le_refl _) (by omega)))
  have hR2 := Lib.hid hr2
  have hOw2 := Lib.hid hO2
  clear hr2 hc2 hr1 hb1 hO2
  go_wp2_with fail
  refine (pick_any w.heap.size A n' c _ w.heap.size _ _ hR2.out (by omega) hn' (by omega)).mono ?_
  rintro e w3 ⟨x3, rfl, x30, x31, hr3, hc3⟩
  have hz3 := hc3.size
  have hR3 := Lib.hid hr3
  have hO3 := Lib.hid (hOw2.out.chg hc3 (by omega))
  have hB3 := Lib.hid (hB2.out.trans (hc3.below (B := w.heap.size) (Nat.le_refl _) (by omega)))
  clear hr3 hc3 hR2 hOw2 hB2
  by_cases hx : x3 = 0
  · subst hx
    go_wp2_with fail
    refine (l1Any_anyR A n' c _ w.heap.size 4 w3 w hR3.out (by omega) hn' (by omega) hB3.out rfl).mono ?_
    rintro e w4 ⟨v4, qs, p4, rfl, hO4, hl4, hb4, hr4, hp4⟩
    obtain ⟨A4, c4, hv4, _, _⟩ := hO4.form
    subst hv4
    have hz4 := hr4.lt
    have hN := Lib.hid (nums11 w4)
    have hO4' := Lib.hid (hO4.alloc (.cells #[.int .i64 1, .int .i64 2, .int .i64 3, .int .i64 1, .int .i64 2, .int .i64 4, .int .i64 8, .int .i64 0, .int .i64 15, .int .i64 16, .int .i64 (-1)] 3))
    have hB4 := Lib.hid (hb4.alloc (by omega) (.cells #[.int .i64 1, .int .i64 2, .int .i64 3, .int .i64 1, .int .i64 2, .int .i64 4, .int .i64 8, .int .i64 0, .int .i64 15, .int .i64 16, .int .i64 (-1)] 3))
    clear hO4 hb4 hR3 hO3 hB3
    go_wp2_with fail
    refine (num_any w.heap.size A n' c _ w.heap.size w4.heap.size 11 _ (fun _ => True) _ (hr4.alloc (by omega) _) (by omega) hn' (by omega) (by omega) (by simp) (by omega) hN.out).mono ?_
    rintro e w5 ⟨t5, rfl, _, hr5, hc5⟩
    have hO5 := Lib.hid (hO4'.out.chg hc5 (by omega))
    have hB5 := Lib.hid (hB4.out.trans (hc5.below (B := w.heap.size) (Nat.le_refl _) (by simp; omega)))
    clear hr5 hc5 hr4
    go_wp2_with fail
    go_ret2
    exact ⟨_, qs, _, rfl, owns_le hO5.out (by omega), by omega, hB5.out⟩
  · have hx0 : (x3 == 0) = false := by simpa using hx
    have hN := Lib.hid (nums11 w3)
    have hO4' := Lib.hid (hO3.out.alloc (.cells #[.int .i64 1, .int .i64 2, .int .i64 3, .int .i64 1, .int .i64 2, .int .i64 4, .int .i64 8, .int .i64 0, .int .i64 15, .int .i64 16, .int .i64 (-1)] 3))
    have hB4 := Lib.hid (hB3.out.alloc (by omega) (.cells #[.int .i64 1, .int .i64 2, .int .i64 3, .int .i64 1, .int .i64 2, .int .i64 4, .int .i64 8, .int .i64 0, .int .i64 15, .int .i64 16, .int .i64 (-1)] 3))
    clear hx hO3 hB3
    go_wp2_with fail
    refine (num_any w.heap.size A n' c _ w.heap.size w3.heap.size 11 _ (fun _ => True) _ (hR3.out.alloc (by omega) _) (by omega) hn' (by omega) (by omega) (by simp) (by omega) hN.out).mono ?_
    rintro e w5 ⟨t5, rfl, _, hr5, hc5⟩
    have hO5 := Lib.hid (hO4'.out.chg hc5 (by omega))
    have hB5 := Lib.hid (hB4.out.trans (hc5.below (B := w.heap.size) (Nat.le_refl _) (by simp; omega)))
    clear hr5 hc5
    go_wp2_with fail
    go_ret2
    exact ⟨_, os, _, rfl, owns_le hO5.out (by omega), by omega, hB5.out⟩

theorem DrawSliceOf_any (A : Option Addr) (n c : Nat) (w : World) (h : Byt w w.heap.size A n) (hn : n ≤ c) (hc : c ≤ maxLen) :
    Calls Try.prog 12 #[.slice A n c] w (Slc w) := by
  have c1 := Lib.hid (l7Case_any A n c w h hn hc)
  clear h hc
  go_enter Try.func12, Try.ntmps12
  go_wp2_with fail
  refine (c1.out).mono ?_
  rintro e w1 ⟨v, os, x, rfl, ho, hl, hb⟩
  obtain ⟨A2, c2, hv2, _, _⟩ := ho.form
  subst hv2
  have hO := Lib.hid ho
  clear ho
  go_wp2_with fail
  go_ret2
  exact ⟨_, os, x, rfl, hO.out, hl, hb⟩
theorem DrawNeedsOf_any (A : Option Addr) (n c : Nat) (w : World) (h : Byt w w.heap.size A n) (hn : n ≤ c) (hc : c ≤ maxLen) :
    Calls Try.prog 27 #[.slice A n c] w (Slc w) := by
  have c1 := Lib.hid (l7Case_any A n c w h hn hc)
  clear h hc
  go_enter Try.func27, Try.ntmps27
  go_wp2_with fail
  refine (c1.out).mono ?_
  rintro e w1 ⟨v, os, x, rfl, ho, hl, hb⟩
  obtain ⟨A2, c2, hv2, _, _⟩ := ho.form
  subst hv2
  have hO := Lib.hid ho
  clear ho
  go_wp2_with fail
  go_ret2
  exact ⟨_, os, x, rfl, hO.out, hl, hb⟩
/-- A program, a number and an index. -/
def Lvc (w : World) (e : Ending) (w' : World) : Prop := ∃ (v : Value) (os : List St) (x y : Int), e = .returned (.tuple #[v, .int .i64 x, .int .i64 y]) ∧ Own w' w.heap.size v os ∧ os.length ≤ 20 ∧ (0 ≤ y ∧ y ≤ 8) ∧ Below w.heap.size w w'
theorem DrawLiveAt_any (A : Option Addr) (n c : Nat) (w : World) (h : Byt w w.heap.size A n) (hn : n ≤ c) (hc : c ≤ maxLen) :
    Calls Try.prog 20 #[.slice A n c] w (Lvc w) := by
  have c1 := Lib.hid (l7Case_any A n c w h hn hc)
  have hn9 : n ≤ 9223372036854775807 := by unfold maxLen at hc; omega
  clear h hc
  go_enter Try.func20, Try.ntmps20
  go_wp2_with fail
  refine (c1.out).mono ?_
  rintro e w1 ⟨v, os, x, rfl, ho, hl, hb⟩
  obtain ⟨A2, c2, hv2, _, _⟩ := ho.form
  subst hv2
  have hO := Lib.hid ho
  clear ho
  go_wp2_with fail
  go_ret3
  exact ⟨_, os, x, _, rfl, hO.out, hl, by omega, hb⟩
end Go.Proofs.Ytkibkmheomlafaa
