/- Parts of the proof: Dm. -/
import Derived.Test.YtghkpmafocacoaaZAP
namespace Go.Proofs.Ytghkpmafocacoaa
set_option maxRecDepth 100000
set_option linter.unusedVariables false
open Go.RowKit
theorem wrap_two_ {a : Nat} (ha : a ≤ 3) : IntKind.i64.wrap (2 ^ a) = 2 ^ a := by
  obtain rfl | rfl | rfl | rfl : a = 0 ∨ a = 1 ∨ a = 2 ∨ a = 3 := by omega
  all_goals decide
theorem two_pow_bd {a : Nat} (ha : a ≤ 3) : 0 ≤ (2 : Int) ^ a ∧ (2 : Int) ^ a ≤ 15 := by
  obtain rfl | rfl | rfl | rfl : a = 0 ∨ a = 1 ∨ a = 2 ∨ a = 3 := by omega
  all_goals decide
def SetsN (w : World) (gs m : Nat) (ls : List Int) : Prop := m ≤ 3 ∧ ls.length = m ∧ (∀ l ∈ ls, 0 ≤ l ∧ l ≤ 15) ∧ ∃ cs, Has w gs 3 cs ∧ cs.toList = ints ls
set_option maxHeartbeats 2000000 in
theorem l10Draw_any (R : Nat) (A : Option Addr) (n c p B : Nat) (w : World) (h : Rdr w B R A n c p) (hp : p ≤ 400000) (hn : n ≤ 2000) (hB : B ≤ w.heap.size) :
    Calls Try.prog 85 #[.pointer (some ⟨R, 0, none⟩)] w (LsFo w B R A n c (p + 1000)) := by
  have hRl := h.lt
  obtain ⟨i0, hi0, hi1, hi2, hi3⟩ := info_parts info_fac
  have kr0 := Lib.hid h
  clear h
  go_enter Try.func85, Try.ntmps85
  go_wp2_with fail
  refine (pick_any R A n c p B 12 _ kr0.out (by omega) hn (by decide)).mono ?_
  rintro e w1 ⟨x, rfl, hx0, hx6, hr1, hc1⟩
  have kr1 := Lib.hid hr1
  have kC1 := Lib.hid hc1
  have hz1 := hc1.size
  clear hr1 hc1
  by_cases h0 : x = 0
  · subst h0
    go_wp2_with fail
    refine (l8Factors_full R A n c (p + 1) B w1 kr1.out (by omega) hn (by omega)).mono ?_
    rintro e w2 ⟨v, Fs, vs, p', rfl, hR, hl, hbd, hp', hr2, hc2⟩
    have kR := Lib.hid (hR.le hz1)
    have kC := Lib.hid (kC1.out.trans hc2)
    have kbd := Lib.hid hbd
    have kr2 := Lib.hid hr2
    clear hR hc2 hbd hr2
    go_wp2_with fail
    go_ret
    exact ⟨v, Fs, vs, p', rfl, kR.out, hl, kbd.out, by omega, kr2.out, kC.out⟩
  have hxb : (x == 0) = false := by simpa using h0
  clear h0
  go_wp2_with fail
  have g0 := Lib.hid (show Has (((((((w1.alloc (.cells #[.int .i64 3, .int .i64 6, .int .i64 12] 3)).alloc (.cells #[.int .i64 3, .int .i64 5, .int .i64 9] 3)).alloc (.cells #[.int .i64 9, .int .i64 12, .int .i64 6] 3)).alloc (.cells #[.int .i64 3, .int .i64 12] 3)).alloc (.cells #[.int .i64 10, .int .i64 5] 3)).alloc (.cells #[.int .i64 6] 3)).alloc (.cells #[.slice (some ⟨w1.heap.size, 0, none⟩) 3 3, .slice (some ⟨w1.heap.size + 1, 0, none⟩) 3 3, .slice (some ⟨w1.heap.size + 1 + 1, 0, none⟩) 3 3, .slice (some ⟨w1.heap.size + 1 + 1 + 1, 0, none⟩) 2 2, .slice (some ⟨w1.heap.size + 1 + 1 + 1 + 1, 0, none⟩) 2 2, .slice (some ⟨w1.heap.size + 1 + 1 + 1 + 1 + 1, 0, none⟩) 1 1] 31)) (w1.heap.size) 3 #[.int .i64 3, .int .i64 6, .int .i64 12] from (((((((Has.new w1 3 #[.int .i64 3, .int .i64 6, .int .i64 12]).alloc _).alloc _).alloc _).alloc _).alloc _).alloc _))
  have g1 := Lib.hid (show Has (((((((w1.alloc (.cells #[.int .i64 3, .int .i64 6, .int .i64 12] 3)).alloc (.cells #[.int .i64 3, .int .i64 5, .int .i64 9] 3)).alloc (.cells #[.int .i64 9, .int .i64 12, .int .i64 6] 3)).alloc (.cells #[.int .i64 3, .int .i64 12] 3)).alloc (.cells #[.int .i64 10, .int .i64 5] 3)).alloc (.cells #[.int .i64 6] 3)).alloc (.cells #[.slice (some ⟨w1.heap.size, 0, none⟩) 3 3, .slice (some ⟨w1.heap.size + 1, 0, none⟩) 3 3, .slice (some ⟨w1.heap.size + 1 + 1, 0, none⟩) 3 3, .slice (some ⟨w1.heap.size + 1 + 1 + 1, 0, none⟩) 2 2, .slice (some ⟨w1.heap.size + 1 + 1 + 1 + 1, 0, none⟩) 2 2, .slice (some ⟨w1.heap.size + 1 + 1 + 1 + 1 + 1, 0, none⟩) 1 1] 31)) (w1.heap.size + 1) 3 #[.int .i64 3, .int .i64 5, .int .i64 9] from ((((((Has.newAt (w := (w1.alloc (.cells #[.int .i64 3, .int .i64 6, .int .i64 12] 3))) (n := w1.heap.size + 1) (t := 3) (cs := #[.int .i64 3, .int .i64 5, .int .i64 9]) (by simp)).alloc _).alloc _).alloc _).alloc _).alloc _))
  have g2 := Lib.hid (show Has (((((((w1.alloc (.cells #[.int .i64 3, .int .i64 6, .int .i64 12] 3)).alloc (.cells #[.int .i64 3, .int .i64 5, .int .i64 9] 3)).alloc (.cells #[.int .i64 9, .int .i64 12, .int .i64 6] 3)).alloc (.cells #[.int .i64 3, .int .i64 12] 3)).alloc (.cells #[.int .i64 10, .int .i64 5] 3)).alloc (.cells #[.int .i64 6] 3)).alloc (.cells #[.slice (some ⟨w1.heap.size, 0, none⟩) 3 3, .slice (some ⟨w1.heap.size + 1, 0, none⟩) 3 3, .slice (some ⟨w1.heap.size + 1 + 1, 0, none⟩) 3 3, .slice (some ⟨w1.heap.size + 1 + 1 + 1, 0, none⟩) 2 2, .slice (some ⟨w1.heap.size + 1 + 1 + 1 + 1, 0, none⟩) 2 2, .slice (some ⟨w1.heap.size + 1 + 1 + 1 + 1 + 1, 0, none⟩) 1 1] 31)) (w1.heap.size + 1 + 1) 3 #[.int .i64 9, .int .i64 12, .int .i64 6] from (((((Has.newAt (w := ((w1.alloc (.cells #[.int .i64 3, .int .i64 6, .int .i64 12] 3)).alloc (.cells #[.int .i64 3, .int .i64 5, .int .i64 9] 3))) (n := w1.heap.size + 1 + 1) (t := 3) (cs := #[.int .i64 9, .int .i64 12, .int .i64 6]) (by simp)).alloc _).alloc _).alloc _).alloc _))
  have g3 := Lib.hid (show Has (((((((w1.alloc (.cells #[.int .i64 3, .int .i64 6, .int .i64 12] 3)).alloc (.cells #[.int .i64 3, .int .i64 5, .int .i64 9] 3)).alloc (.cells #[.int .i64 9, .int .i64 12, .int .i64 6] 3)).alloc (.cells #[.int .i64 3, .int .i64 12] 3)).alloc (.cells #[.int .i64 10, .int .i64 5] 3)).alloc (.cells #[.int .i64 6] 3)).alloc (.cells #[.slice (some ⟨w1.heap.size, 0, none⟩) 3 3, .slice (some ⟨w1.heap.size + 1, 0, none⟩) 3 3, .slice (some ⟨w1.heap.size + 1 + 1, 0, none⟩) 3 3, .slice (some ⟨w1.heap.size + 1 + 1 + 1, 0, none⟩) 2 2, .slice (some ⟨w1.heap.size + 1 + 1 + 1 + 1, 0, none⟩) 2 2, .slice (some ⟨w1.heap.size + 1 + 1 + 1 + 1 + 1, 0, none⟩) 1 1] 31)) (w1.heap.size + 1 + 1 + 1) 3 #[.int .i64 3, .int .i64 12] from ((((Has.newAt (w := (((w1.alloc (.cells #[.int .i64 3, .int .i64 6, .int .i64 12] 3)).alloc (.cells #[.int .i64 3, .int .i64 5, .int .i64 9] 3)).alloc (.cells #[.int .i64 9, .int .i64 12, .int .i64 6] 3))) (n := w1.heap.size + 1 + 1 + 1) (t := 3) (cs := #[.int .i64 3, .int .i64 12]) (by simp)).alloc _).alloc _).alloc _))
  have g4 := Lib.hid (show Has (((((((w1.alloc (.cells #[.int .i64 3, .int .i64 6, .int .i64 12] 3)).alloc (.cells #[.int .i64 3, .int .i64 5, .int .i64 9] 3)).alloc (.cells #[.int .i64 9, .int .i64 12, .int .i64 6] 3)).alloc (.cells #[.int .i64 3, .int .i64 12] 3)).alloc (.cells #[.int .i64 10, .int .i64 5] 3)).alloc (.cells #[.int .i64 6] 3)).alloc (.cells #[.slice (some ⟨w1.heap.size, 0, none⟩) 3 3, .slice (some ⟨w1.heap.size + 1, 0, none⟩) 3 3, .slice (some ⟨w1.heap.size + 1 + 1, 0, none⟩) 3 3, .slice (some ⟨w1.heap.size + 1 + 1 + 1, 0, none⟩) 2 2, .slice (some ⟨w1.heap.size + 1 + 1 + 1 + 1, 0, none⟩) 2 2, .slice (some ⟨w1.heap.size + 1 + 1 + 1 + 1 + 1, 0, none⟩) 1 1] 31)) (w1.heap.size + 1 + 1 + 1 + 1) 3 #[.int .i64 10, .int .i64 5] from (((Has.newAt (w := ((((w1.alloc (.cells #[.int .i64 3, .int .i64 6, .int .i64 12] 3)).alloc (.cells #[.int .i64 3, .int .i64 5, .int .i64 9] 3)).alloc (.cells #[.int .i64 9, .int .i64 12, .int .i64 6] 3)).alloc (.cells #[.int .i64 3, .int .i64 12] 3))) (n := w1.heap.size + 1 + 1 + 1 + 1) (t := 3) (cs := #[.int .i64 10, .int .i64 5]) (by simp)).alloc _).alloc _))
  have g5 := Lib.hid (show Has (((((((w1.alloc (.cells #[.int .i64 3, .int .i64 6, .int .i64 12] 3)).alloc (.cells #[.int .i64 3, .int .i64 5, .int .i64 9] 3)).alloc (.cells #[.int .i64 9, .int .i64 12, .int .i64 6] 3)).alloc (.cells #[.int .i64 3, .int .i64 12] 3)).alloc (.cells #[.int .i64 10, .int .i64 5] 3)).alloc (.cells #[.int .i64 6] 3)).alloc (.cells #[.slice (some ⟨w1.heap.size, 0, none⟩) 3 3, .slice (some ⟨w1.heap.size + 1, 0, none⟩) 3 3, .slice (some ⟨w1.heap.size + 1 + 1, 0, none⟩) 3 3, .slice (some ⟨w1.heap.size + 1 + 1 + 1, 0, none⟩) 2 2, .slice (some ⟨w1.heap.size + 1 + 1 + 1 + 1, 0, none⟩) 2 2, .slice (some ⟨w1.heap.size + 1 + 1 + 1 + 1 + 1, 0, none⟩) 1 1] 31)) (w1.heap.size + 1 + 1 + 1 + 1 + 1) 3 #[.int .i64 6] from ((Has.newAt (w := (((((w1.alloc (.cells #[.int .i64 3, .int .i64 6, .int .i64 12] 3)).alloc (.cells #[.int .i64 3, .int .i64 5, .int .i64 9] 3)).alloc (.cells #[.int .i64 9, .int .i64 12, .int .i64 6] 3)).alloc (.cells #[.int .i64 3, .int .i64 12] 3)).alloc (.cells #[.int .i64 10, .int .i64 5] 3))) (n := w1.heap.size + 1 + 1 + 1 + 1 + 1) (t := 3) (cs := #[.int .i64 6]) (by simp)).alloc _))
  have g6 := Lib.hid (show Has (((((((w1.alloc (.cells #[.int .i64 3, .int .i64 6, .int .i64 12] 3)).alloc (.cells #[.int .i64 3, .int .i64 5, .int .i64 9] 3)).alloc (.cells #[.int .i64 9, .int .i64 12, .int .i64 6] 3)).alloc (.cells #[.int .i64 3, .int .i64 12] 3)).alloc (.cells #[.int .i64 10, .int .i64 5] 3)).alloc (.cells #[.int .i64 6] 3)).alloc (.cells #[.slice (some ⟨w1.heap.size, 0, none⟩) 3 3, .slice (some ⟨w1.heap.size + 1, 0, none⟩) 3 3, .slice (some ⟨w1.heap.size + 1 + 1, 0, none⟩) 3 3, .slice (some ⟨w1.heap.size + 1 + 1 + 1, 0, none⟩) 2 2, .slice (some ⟨w1.heap.size + 1 + 1 + 1 + 1, 0, none⟩) 2 2, .slice (some ⟨w1.heap.size + 1 + 1 + 1 + 1 + 1, 0, none⟩) 1 1] 31)) (w1.heap.size + 1 + 1 + 1 + 1 + 1 + 1) 31 #[.slice (some ⟨w1.heap.size, 0, none⟩) 3 3, .slice (some ⟨w1.heap.size + 1, 0, none⟩) 3 3, .slice (some ⟨w1.heap.size + 1 + 1, 0, none⟩) 3 3, .slice (some ⟨w1.heap.size + 1 + 1 + 1, 0, none⟩) 2 2, .slice (some ⟨w1.heap.size + 1 + 1 + 1 + 1, 0, none⟩) 2 2, .slice (some ⟨w1.heap.size + 1 + 1 + 1 + 1 + 1, 0, none⟩) 1 1] from Has.newAt (by simp))
  have kr7 := Lib.hid (show Rdr (((((((w1.alloc (.cells #[.int .i64 3, .int .i64 6, .int .i64 12] 3)).alloc (.cells #[.int .i64 3, .int .i64 5, .int .i64 9] 3)).alloc (.cells #[.int .i64 9, .int .i64 12, .int .i64 6] 3)).alloc (.cells #[.int .i64 3, .int .i64 12] 3)).alloc (.cells #[.int .i64 10, .int .i64 5] 3)).alloc (.cells #[.int .i64 6] 3)).alloc (.cells #[.slice (some ⟨w1.heap.size, 0, none⟩) 3 3, .slice (some ⟨w1.heap.size + 1, 0, none⟩) 3 3, .slice (some ⟨w1.heap.size + 1 + 1, 0, none⟩) 3 3, .slice (some ⟨w1.heap.size + 1 + 1 + 1, 0, none⟩) 2 2, .slice (some ⟨w1.heap.size + 1 + 1 + 1 + 1, 0, none⟩) 2 2, .slice (some ⟨w1.heap.size + 1 + 1 + 1 + 1 + 1, 0, none⟩) 1 1] 31)) B R A n c (p + 1) from ((((((kr1.out.alloc (by omega) _).alloc (by simp; omega) _).alloc (by simp; omega) _).alloc (by simp; omega) _).alloc (by simp; omega) _).alloc (by simp; omega) _).alloc (by simp; omega) _)
  have kC7 := Lib.hid (show Chg w (((((((w1.alloc (.cells #[.int .i64 3, .int .i64 6, .int .i64 12] 3)).alloc (.cells #[.int .i64 3, .int .i64 5, .int .i64 9] 3)).alloc (.cells #[.int .i64 9, .int .i64 12, .int .i64 6] 3)).alloc (.cells #[.int .i64 3, .int .i64 12] 3)).alloc (.cells #[.int .i64 10, .int .i64 5] 3)).alloc (.cells #[.int .i64 6] 3)).alloc (.cells #[.slice (some ⟨w1.heap.size, 0, none⟩) 3 3, .slice (some ⟨w1.heap.size + 1, 0, none⟩) 3 3, .slice (some ⟨w1.heap.size + 1 + 1, 0, none⟩) 3 3, .slice (some ⟨w1.heap.size + 1 + 1 + 1, 0, none⟩) 2 2, .slice (some ⟨w1.heap.size + 1 + 1 + 1 + 1, 0, none⟩) 2 2, .slice (some ⟨w1.heap.size + 1 + 1 + 1 + 1 + 1, 0, none⟩) 1 1] 31)) R from ((((((kC1.out.alloc _).alloc _).alloc _).alloc _).alloc _).alloc _).alloc _)
  generalize (((((((w1.alloc (.cells #[.int .i64 3, .int .i64 6, .int .i64 12] 3)).alloc (.cells #[.int .i64 3, .int .i64 5, .int .i64 9] 3)).alloc (.cells #[.int .i64 9, .int .i64 12, .int .i64 6] 3)).alloc (.cells #[.int .i64 3, .int .i64 12] 3)).alloc (.cells #[.int .i64 10, .int .i64 5] 3)).alloc (.cells #[.int .i64 6] 3)).alloc (.cells #[.slice (some ⟨w1.heap.size, 0, none⟩) 3 3, .slice (some ⟨w1.heap.size + 1, 0, none⟩) 3 3, .slice (some ⟨w1.heap.size + 1 + 1, 0, none⟩) 3 3, .slice (some ⟨w1.heap.size + 1 + 1 + 1, 0, none⟩) 2 2, .slice (some ⟨w1.heap.size + 1 + 1 + 1 + 1, 0, none⟩) 2 2, .slice (some ⟨w1.heap.size + 1 + 1 + 1 + 1 + 1, 0, none⟩) 1 1] 31)) = W7 at g0 g1 g2 g3 g4 g5 g6 kr7 kC7 ⊢
  generalize hHH : w1.heap.size = H1 at g0 g1 g2 g3 g4 g5 g6 ⊢
  have hRH : R < H1 := by rw [← hHH]; have := hz1; omega
  have hHw : w.heap.size ≤ H1 := by rw [← hHH]; exact hz1
  clear hHH
  refine (pick_any R A n c (p + 1) B 6 _ kr7.out (by omega) hn (by decide)).mono ?_
  rintro e w8 ⟨y, rfl, hy0, hy6, hr8, hc8⟩
  obtain ⟨Y, rfl⟩ : ∃ Y : Nat, y = (Y : Int) := ⟨y.toNat, by omega⟩
  have hY6 : Y < 6 := by omega
  obtain ⟨gs, m, ls, hcell, hSets, hgH⟩ : ∃ gs m ls, (#[.slice (some ⟨H1, 0, none⟩) 3 3, .slice (some ⟨H1 + 1, 0, none⟩) 3 3, .slice (some ⟨H1 + 1 + 1, 0, none⟩) 3 3, .slice (some ⟨H1 + 1 + 1 + 1, 0, none⟩) 2 2, .slice (some ⟨H1 + 1 + 1 + 1 + 1, 0, none⟩) 2 2, .slice (some ⟨H1 + 1 + 1 + 1 + 1 + 1, 0, none⟩) 1 1] : Array Value)[Y]? = some (.slice (some ⟨gs, 0, none⟩) m m) ∧ SetsN w8 gs m ls ∧ H1 ≤ gs := by
    obtain rfl | rfl | rfl | rfl | rfl | rfl : Y = 0 ∨ Y = 1 ∨ Y = 2 ∨ Y = 3 ∨ Y = 4 ∨ Y = 5 := by omega
    · exact ⟨H1, 3, [3, 6, 12], rfl, ⟨by decide, rfl, by decide, _, (g0.out).chg hc8 (by omega), rfl⟩, by omega⟩
    · exact ⟨H1 + 1, 3, [3, 5, 9], rfl, ⟨by decide, rfl, by decide, _, (g1.out).chg hc8 (by omega), rfl⟩, by omega⟩
    · exact ⟨H1 + 1 + 1, 3, [9, 12, 6], rfl, ⟨by decide, rfl, by decide, _, (g2.out).chg hc8 (by omega), rfl⟩, by omega⟩
    · exact ⟨H1 + 1 + 1 + 1, 2, [3, 12], rfl, ⟨by decide, rfl, by decide, _, (g3.out).chg hc8 (by omega), rfl⟩, by omega⟩
    · exact ⟨H1 + 1 + 1 + 1 + 1, 2, [10, 5], rfl, ⟨by decide, rfl, by decide, _, (g4.out).chg hc8 (by omega), rfl⟩, by omega⟩
    · exact ⟨H1 + 1 + 1 + 1 + 1 + 1, 1, [6], rfl, ⟨by decide, rfl, by decide, _, (g5.out).chg hc8 (by omega), rfl⟩, by omega⟩
  have cY : w8.cell? ⟨H1 + 1 + 1 + 1 + 1 + 1 + 1, Y, none⟩ = some (.slice (some ⟨gs, 0, none⟩) m m) := (Has.cell (g6.out.chg hc8 (by omega)) Y).trans hcell
  have kr8 := Lib.hid hr8
  have kC8 := Lib.hid (kC7.out.trans hc8)
  obtain ⟨hm3, hlm, hl15, cs, hHs, hcs⟩ := hSets
  have kS8 := Lib.hid hHs
  have hgsR : gs ≠ R := by omega
  have hl15h := Lib.hid hl15
  have hlmh := Lib.hid hlm
  have hcell2 := Lib.hid (fun (k : Nat) (l : Int) (hk : ls[k]? = some l) => (show cs[k]? = some (Value.int .i64 l) from by
    have h1 := ints_get hk
    rw [← hcs, Array.getElem?_toList] at h1
    exact h1))
  have hRl2 : R < w.heap.size := hRl
  have hw8 := kC8.out.size
  have hF0 := Lib.hid (show RowsF (w8.alloc (.cells #[] 56)) w.heap.size (.slice (some ⟨w8.heap.size, 0, none⟩) 0 0) [] [] from
    ⟨⟨rfl, .inr ⟨w8.heap.size, 0, #[], rfl, hw8, Has.new w8 _ _, Nat.le_refl _, Nat.zero_le _, rfl, rfl⟩⟩, fun i x hx => by simp at hx⟩)
  have kr9 := Lib.hid (kr8.out.alloc (by omega) (.cells #[] 56))
  have kC9 := Lib.hid (kC8.out.alloc (.cells #[] 56))
  have kS9 := Lib.hid (kS8.out.alloc (.cells #[] 56))
  have hY0 : (0 : Int) ≤ (Y : Int) := by omega
  have hY7 : (Y : Int) < 6 := by omega
  clear hr8 hc8 hcell hHs hlm hl15 hcs g0 g1 g2 g3 g4 g5 g6 kr7 kC7 hy0 hy6 kS8 kr8 kC8
  go_wp2_with fail
  generalize w8.alloc (.cells #[] 56) = W9 at hF0 kr9 kC9 kS9 ⊢
  clear cY
  go_loopg [4, 5] m (fun gq l x wr => ∃ (k : Nat) (Fs : List Fac) (vs : List Value) (p' : Nat), k ≤ m ∧ gq = m - k ∧ x = .int .i64 k ∧ RowsF wr w.heap.size l Fs vs ∧ Fs.length = k ∧ (∀ F ∈ Fs, GdF F) ∧ p' ≤ p + 2 + 81 * k ∧ Rdr wr B R A n c p' ∧ Chg w wr R ∧ Has wr gs 3 cs)
  case atStart => exact ⟨0, [], [], _, Nat.zero_le _, rfl, rfl, hF0.out, rfl, fun F hF => by simp at hF, by simp, kr9.out, kC9.out, kS9.out⟩
  case round =>
    obtain ⟨k, Fs, vs, p', hk, hgn, rfl, hRw, hm, hbd, hp', hr, hC, hS⟩ := hrel
    have hgk : gk = m - k := hgn
    obtain ⟨Al, cl, rfl, _, _⟩ := hRw.form
    have kR3 := Lib.hid hRw
    have kr3 := Lib.hid hr
    have kC3 := Lib.hid hC
    have kS3 := Lib.hid hS
    have hz3 := hC.size
    have kbd := Lib.hid hbd
    have hmh := Lib.hid hm
    rw [hm] at ⊢
    clear hgn hRw hr hC hbd hm hS hF0 kr9 kC9 kS9
    by_cases hlt : k < m
    · have hk0 : (0 : Int) ≤ (k : Int) := by omega
      have hk1 : (k : Int) < (m : Int) := by omega
      obtain ⟨L, hLk⟩ : ∃ L, ls[k]? = some L := ⟨_, List.getElem?_eq_getElem (by rw [hlmh.out]; exact hlt)⟩
      have hL := hl15h.out L (List.mem_of_getElem? hLk)
      have ck := (Has.cell kS3.out k).trans (hcell2.out k L hLk)
      clear hLk
      go_wp2_with fail
      clear ck
      refine (l8Draw_full R A n c p' B L wr kr3.out (by omega) hn (by omega) hL).mono ?_
      rintro e w4 ⟨u1, u2, F, p4, rfl, hvo, hV, hl1, hl2, hl3, hp4, hr4, hc4⟩
      obtain ⟨U1, q1, rfl, _, _⟩ := hV.1.form
      obtain ⟨U2, q2, rfl, _, _⟩ := hV.2.1.form
      have hC4 := kC3.out.trans hc4
      have hR4 := kR3.out.chg hc4 hRl
      have hal : Below w4.heap.size w4 (w4.alloc (.cells #[.slice U1 F.vs.length q1, .slice U2 F.ns.length q2] 56)) := (Below.refl _ _).alloc (Nat.le_refl _) _
      have hR5 := Lib.hid (hR4.below hal)
      have hV5 := Lib.hid ((hV.le (show w.heap.size ≤ wr.heap.size from hz3)).below hal)
      have hr5 := Lib.hid (hr4.alloc (by have := hc4.size; omega) (.cells #[.slice U1 F.vs.length q1, .slice U2 F.ns.length q2] 56))
      have hC5 := Lib.hid (hC4.alloc (.cells #[.slice U1 F.vs.length q1, .slice U2 F.ns.length q2] 56))
      have hO5 := Lib.hid (show (w4.alloc (.cells #[.slice U1 F.vs.length q1, .slice U2 F.ns.length q2] 56)).ownsRow w.heap.size 56 2 (.slice Al k cl) k vs from by have h1 := hR5.out.1; rwa [hmh.out] at h1)
      have hnw := Lib.hid (World.news_of_block (Has.new w4 56 #[.slice U1 F.vs.length q1, .slice U2 F.ns.length q2]))
      have hsz5 := Lib.hid hC5.out.size
      have hm5 : k ≤ 5 := by omega
      have hvoh := Lib.hid hvo
      have hS4 := Lib.hid (kS3.out.chg hc4 hgsR)
      clear hV hr4 hc4 hC4 hR4 hal hvo
      go_wp2_with (at_builtin; refine wpList_append_lies _ rfl (.tmp 30) (.tmp 37) 50 rfl w.heap.size 56 i0 _ 2 48 Try.underlying50 hi0 hi1 hi2 hi3 rfl (by decide) (.slice Al k cl) k vs rfl (by exact hO5.out) ⟨w4.heap.size, 0, none⟩ 1 1 [.slice U1 F.vs.length q1, .slice U2 F.ns.length q2] rfl rfl (by exact hnw.out) (by simp [Value.oneCell']) (by omega) (by unfold maxLen; omega) (by omega) (by exact hsz5.out) (w4.heap.size + 1) (by simp) ?_; intro gr cr2 w6 hown6 hgrow6 hat6 hlt6)
      have hbk : ∀ b, (Value.slice Al k cl).ownBlock = some b → w.heap.size ≤ b := fun b hb => (World.ownsRow.lt hO5.out b hb).1
      have hR6 := Lib.hid (RowsF.append_ hR5.out hV5.out (by rw [hmh.out]; exact hown6) (by rw [hmh.out]; exact hgrow6))
      have hr6 := Lib.hid (hr5.out.grown hgrow6 (fun b hb => ⟨by have := hbk b hb; omega, by have := hbk b hb; omega⟩) (by have := hsz5.out; omega))
      have hC6 := Lib.hid (hC5.out.grown hgrow6 hbk)
      have hS6 := Lib.hid (hS4.out.but (grown_but hgrow6) (fun e => by obtain ⟨c9, g9⟩ := owns_has hO5.out e; exact has_ne (hS4.out.alloc (.cells #[.slice U1 F.vs.length q1, .slice U2 F.ns.length q2] 56)) g9 (by decide) rfl))
      clear hown6 hgrow6 hat6 hbk
      go_wp2_with fail
      go_roundg (m - (k + 1))
      case measure => omega
      case rel => exact ⟨k + 1, Fs ++ [F], _, p4, by omega, rfl, by go_num, by exact hR6.out, by rw [List.length_append, List.length_singleton, hmh.out], add_bd kbd.out (by omega) (by omega) ⟨L, hL, hvoh.out⟩, by omega, hr6.out, hC6.out, hS6.out⟩
    · obtain rfl : k = m := by omega
      go_wp2_with fail
      refine (pick_any R A n c p' B 4 _ kr3.out (by omega) hn (by decide)).mono ?_
      rintro e w5 ⟨z, rfl, hz0, hz4, hr5, hc5⟩
      obtain ⟨Z, rfl⟩ : ∃ Z : Nat, z = (Z : Int) := ⟨z.toNat, by omega⟩
      have hZ4 : Z ≤ 3 := by omega
      have kr5 := Lib.hid hr5
      have kC5 := Lib.hid (kC3.out.trans hc5)
      have kR5 := Lib.hid (kR3.out.chg hc5 hRl2)
      clear hr5 hc5 kR3 kr3 kC3 kS3 hz0 hz4
      go_wp2_with fail
      have hfl := hmh.out
      rw [← hfl]
      clear hfl
      go_loopg [4, 6] Z (fun gq l x wr => ∃ (j : Nat) (Gs : List Fac) (vs : List Value) (p' : Nat), gq = j ∧ x = .int .i64 j ∧ RowsF wr w.heap.size l Gs vs ∧ Gs.length + j ≤ 6 ∧ (∀ F ∈ Gs, GdF F) ∧ p' + 82 * j ≤ p + 700 ∧ Rdr wr B R A n c p' ∧ Chg w wr R)
      case atStart => exact ⟨Z, Fs, vs, _, rfl, rfl, kR5.out, by have := hmh.out; omega, kbd.out, by have := hmh.out; omega, kr5.out, kC5.out⟩
      case round =>
        obtain ⟨j, Gs, us, p9, hgn, rfl, hRw, hj6, hbd, hp9, hr, hC⟩ := hrel
        have hgj : gk = j := hgn
        obtain ⟨Al, cl, rfl, _, _⟩ := hRw.form
        have kRj := Lib.hid hRw
        have krj := Lib.hid hr
        have kCj := Lib.hid hC
        have kbdj := Lib.hid hbd
        have hzj := hC.size
        obtain ⟨m2, hm2⟩ : ∃ m2, Gs.length = m2 := ⟨_, rfl⟩
        have hm2h := Lib.hid hm2
        rw [hm2] at hj6 ⊢
        clear hgn hRw hr hC hbd hm2 kR5 kr5 kC5
        by_cases hlj : 0 < j
        · have hj1 : (0 : Int) < (j : Int) := by omega
          go_wp2_with fail
          refine (pick_any R A n c p9 B 4 _ krj.out (by omega) hn (by decide)).mono ?_
          rintro e w3 ⟨s, rfl, hs0, hs4, hr3, hc3⟩
          obtain ⟨S, rfl⟩ : ∃ S : Nat, s = (S : Int) := ⟨s.toNat, by omega⟩
          have hS3 : S ≤ 3 := by omega
          have hsw := wrap_two_ hS3
          have hS64 : (S : Int) ≤ 64 := by omega
          have hSn0 : (0 : Int) ≤ (S : Int) := by omega
          have hL := two_pow_bd hS3
          have kr3 := Lib.hid hr3
          have kC3 := Lib.hid (kCj.out.trans hc3)
          have kR3 := Lib.hid (kRj.out.chg hc3 hRl2)
          have hz3 := kC3.out.size
          clear hr3 hc3 hs0 hs4
          go_wp2_with fail
          refine (l8Draw_full R A n c (p9 + 1) B (2 ^ S) w3 kr3.out (by omega) hn (by omega) hL).mono ?_
          rintro e w4 ⟨u1, u2, F, p4, rfl, hvo, hV, hl1, hl2, hl3, hp4, hr4, hc4⟩
          obtain ⟨U1, q1, rfl, _, _⟩ := hV.1.form
          obtain ⟨U2, q2, rfl, _, _⟩ := hV.2.1.form
          have hC4 := kC3.out.trans hc4
          have hR4 := kR3.out.chg hc4 hRl
          have hal : Below w4.heap.size w4 (w4.alloc (.cells #[.slice U1 F.vs.length q1, .slice U2 F.ns.length q2] 56)) := (Below.refl _ _).alloc (Nat.le_refl _) _
          have hR5 := Lib.hid (hR4.below hal)
          have hV5 := Lib.hid ((hV.le (show w.heap.size ≤ w3.heap.size from hz3)).below hal)
          have hr5 := Lib.hid (hr4.alloc (by have := hc4.size; omega) (.cells #[.slice U1 F.vs.length q1, .slice U2 F.ns.length q2] 56))
          have hC5 := Lib.hid (hC4.alloc (.cells #[.slice U1 F.vs.length q1, .slice U2 F.ns.length q2] 56))
          have hO5 := Lib.hid (show (w4.alloc (.cells #[.slice U1 F.vs.length q1, .slice U2 F.ns.length q2] 56)).ownsRow w.heap.size 56 2 (.slice Al m2 cl) m2 us from by have h1 := hR5.out.1; rwa [hm2h.out] at h1)
          have hnw := Lib.hid (World.news_of_block (Has.new w4 56 #[.slice U1 F.vs.length q1, .slice U2 F.ns.length q2]))
          have hsz5 := Lib.hid hC5.out.size
          have hm5 : m2 ≤ 5 := by omega
          have hvoh := Lib.hid hvo
          clear hV hr4 hc4 hC4 hR4 hal hvo
          go_wp2_with (at_builtin; refine wpList_append_lies _ rfl (.tmp 45) (.tmp 51) 50 rfl w.heap.size 56 i0 _ 2 48 Try.underlying50 hi0 hi1 hi2 hi3 rfl (by decide) (.slice Al m2 cl) m2 us rfl (by exact hO5.out) ⟨w4.heap.size, 0, none⟩ 1 1 [.slice U1 F.vs.length q1, .slice U2 F.ns.length q2] rfl rfl (by exact hnw.out) (by simp [Value.oneCell']) (by omega) (by unfold maxLen; omega) (by omega) (by exact hsz5.out) (w4.heap.size + 1) (by simp) ?_; intro gr cr2 w6 hown6 hgrow6 hat6 hlt6)
          have hbk : ∀ b, (Value.slice Al m2 cl).ownBlock = some b → w.heap.size ≤ b := fun b hb => (World.ownsRow.lt hO5.out b hb).1
          have hR6 := Lib.hid (RowsF.append_ hR5.out hV5.out (by rw [hm2h.out]; exact hown6) (by rw [hm2h.out]; exact hgrow6))
          have hr6 := Lib.hid (hr5.out.grown hgrow6 (fun b hb => ⟨by have := hbk b hb; omega, by have := hbk b hb; omega⟩) (by have := hsz5.out; omega))
          have hC6 := Lib.hid (hC5.out.grown hgrow6 hbk)
          clear hown6 hgrow6 hat6 hbk
          go_wp2_with fail
          go_roundg (j - 1)
          case measure => omega
          case rel => exact ⟨j - 1, Gs ++ [F], _, p4, rfl, by go_num, by exact hR6.out, by rw [List.length_append, List.length_singleton, hm2h.out]; omega, add_bd kbdj.out (by omega) (by omega) ⟨2 ^ S, hL, hvoh.out⟩, by omega, hr6.out, hC6.out⟩
        · obtain rfl : j = 0 := by omega
          go_wp2_with fail
          go_ret
          exact ⟨_, Gs, us, p9, rfl, by exact (by have := kRj.out; rwa [hm2h.out] at this), by rw [hm2h.out]; omega, kbdj.out, by omega, krj.out, kCj.out⟩
end Go.Proofs.Ytghkpmafocacoaa
