/- Whether a change fits: the model's l6Ok, changes 0 and 1. -/
import Derived.Test.YtkggejmamhakaaaQ0
namespace Go.Proofs.Ytkggejmamhakaaa
set_option maxRecDepth 100000
set_option linter.unusedVariables false
open Go.RowKit

set_option maxHeartbeats 2000000 in
theorem l6Ok_0 (A : Option Addr) (n cap k : Nat) (ps : List St) (a b : St) (w : World) (h : Lst w w.heap.size A n ps) (hn : n ≤ 1048576) (ha : ps[k]? = some a) (hoa : a.ok = true ∧ a.k < 6) (hb : ps[k + 1]? = some b) (hobb : b.ok = true ∧ b.k < 6) :
    Calls Try.prog 60 #[.slice A n cap, .int .i64 0, .int .i64 (k : Int)] w fun e w' => e = .returned (.bool (fits 0 a (some b))) ∧ Below w.heap.size w w' := by
  have hk : k < n := by have := (List.getElem?_eq_some_iff.1 ha).1; have := h.1; omega
  obtain ⟨g, off, s0, rfl, hg, hs0, hat⟩ := h.at_ hk
  obtain rfl : a = s0 := by rw [ha] at hs0; injection hs0
  obtain ⟨c0, c1, c2, c3, c4, c5, c6⟩ := hat.open_
  have hk0 : (0 : Int) ≤ (k : Int) := by omega
  have hk1 : (k : Int) < (n : Int) := by omega
  have hwa := ok_wsm hoa.1 hoa.2
  have h1 := Has.new w 63 #[.int .i64 a.k, .int .i64 a.a, .int .i64 a.b, .int .i64 a.c, .int .i64 a.u, .int .i64 a.v, .int .i64 a.x]
  have hh1 := Lib.hid h1
  have hB := Lib.hid (show Below w.heap.size w (w.alloc (.cells #[.int .i64 a.k, .int .i64 a.a, .int .i64 a.b, .int .i64 a.c, .int .i64 a.u, .int .i64 a.v, .int .i64 a.x] 63)) from (Below.refl _ _).alloc (Nat.le_refl _) _)
  have hk' : k + 1 < n := by have := (List.getElem?_eq_some_iff.1 hb).1; have := h.1; omega
  obtain ⟨g', off', s1, e, _, hs1, hat1⟩ := h.at_ hk'
  obtain ⟨rfl, rfl⟩ : g = g' ∧ off = off' := by injection e with e; injection e with e1 e2; exact ⟨e1, e2⟩
  obtain rfl : b = s1 := by rw [hb] at hs1; injection hs1
  obtain ⟨d0, d1, d2, d3, d4, d5, d6⟩ := hat1.open_
  have hwb := ok_wsm hobb.1 hobb.2
  have ge : ((k : Int) + 1 == (n : Int)) = false := by simp; omega
  have hk2 : (k : Int) + 1 < (n : Int) := by omega
  have h1' := h1.alloc (.cells #[.int .i64 b.k, .int .i64 b.a, .int .i64 b.b, .int .i64 b.c, .int .i64 b.u, .int .i64 b.v, .int .i64 b.x] 63)
  have h2 := (Has.newAt (w := w.alloc (.cells #[.int .i64 a.k, .int .i64 a.a, .int .i64 a.b, .int .i64 a.c, .int .i64 a.u, .int .i64 a.v, .int .i64 a.x] 63)) (n := w.heap.size + 1) (t := 63) (cs := #[.int .i64 b.k, .int .i64 b.a, .int .i64 b.b, .int .i64 b.c, .int .i64 b.u, .int .i64 b.v, .int .i64 b.x]) (by simp))
  have hB2 := Lib.hid (show Below w.heap.size w ((w.alloc (.cells #[.int .i64 a.k, .int .i64 a.a, .int .i64 a.b, .int .i64 a.c, .int .i64 a.u, .int .i64 a.v, .int .i64 a.x] 63)).alloc (.cells #[.int .i64 b.k, .int .i64 b.a, .int .i64 b.b, .int .i64 b.c, .int .i64 b.u, .int .i64 b.v, .int .i64 b.x] 63)) from ((Below.refl _ _).alloc (Nat.le_refl _) _).alloc (by simp) _)
  have cA := Lib.hid (fun wx => l6Apart_any a b wx hoa.1 hobb.1)
  have cPr := Lib.hid (fun wx => l6Product_any a b wx hwa hwb)
  have r0 := Lib.hid (fits0 (a := a) (b := b) hoa.2 hobb.2)
  have r1 := Lib.hid (fits1 (a := a) (b := b))
  have r2 := Lib.hid (fits2 hoa.1 hoa.2 hobb.1 hobb.2)
  have r4 := Lib.hid (fits4 hoa.1 hoa.2 hobb.1 hobb.2)
  have hbA := a_bd hoa.1 hoa.2
  have hbS := sets_bd a hoa.1
  have hbR := reads_bd b
  have e1 := h1'.cell
  have e2 := h2.cell
  have hz2 : ((w.alloc (.cells #[.int .i64 a.k, .int .i64 a.a, .int .i64 a.b, .int .i64 a.c, .int .i64 a.u, .int .i64 a.v, .int .i64 a.x] 63)).alloc (.cells #[.int .i64 b.k, .int .i64 b.a, .int .i64 b.b, .int .i64 b.c, .int .i64 b.u, .int .i64 b.v, .int .i64 b.x] 63)).heap.size = w.heap.size + 2 := by simp
  have hzz := Lib.hid hz2
  have hh2 := Lib.hid h2
  have hh1' := Lib.hid h1'
  clear h hat hs0 ha hb hs1 hat1 e h1 h1' h2 hz2 hwa hwb hobb hoa
  go_enter Try.func60, Try.ntmps60
  go_wp2_with fail
  refine (cA.out _).mono ?_
  rintro e w3 ⟨rfl, hb3⟩
  have hB3 := Lib.hid (hB2.out.trans (hb3.mono (by simp; omega)))
  clear hb3 e1 e2
  go_wp2_with fail
  go_ret
  exact ⟨ret_bool r0.out, hB3.out⟩
set_option maxHeartbeats 2000000 in
theorem l6Ok_1 (A : Option Addr) (n cap k : Nat) (ps : List St) (a b : St) (w : World) (h : Lst w w.heap.size A n ps) (hn : n ≤ 1048576) (ha : ps[k]? = some a) (hoa : a.ok = true ∧ a.k < 6) (hb : ps[k + 1]? = some b) (hobb : b.ok = true ∧ b.k < 6) :
    Calls Try.prog 60 #[.slice A n cap, .int .i64 1, .int .i64 (k : Int)] w fun e w' => e = .returned (.bool (fits 1 a (some b))) ∧ Below w.heap.size w w' := by
  have hk : k < n := by have := (List.getElem?_eq_some_iff.1 ha).1; have := h.1; omega
  obtain ⟨g, off, s0, rfl, hg, hs0, hat⟩ := h.at_ hk
  obtain rfl : a = s0 := by rw [ha] at hs0; injection hs0
  obtain ⟨c0, c1, c2, c3, c4, c5, c6⟩ := hat.open_
  have hk0 : (0 : Int) ≤ (k : Int) := by omega
  have hk1 : (k : Int) < (n : Int) := by omega
  have hwa := ok_wsm hoa.1 hoa.2
  have h1 := Has.new w 63 #[.int .i64 a.k, .int .i64 a.a, .int .i64 a.b, .int .i64 a.c, .int .i64 a.u, .int .i64 a.v, .int .i64 a.x]
  have hh1 := Lib.hid h1
  have hB := Lib.hid (show Below w.heap.size w (w.alloc (.cells #[.int .i64 a.k, .int .i64 a.a, .int .i64 a.b, .int .i64 a.c, .int .i64 a.u, .int .i64 a.v, .int .i64 a.x] 63)) from (Below.refl _ _).alloc (Nat.le_refl _) _)
  have hk' : k + 1 < n := by have := (List.getElem?_eq_some_iff.1 hb).1; have := h.1; omega
  obtain ⟨g', off', s1, e, _, hs1, hat1⟩ := h.at_ hk'
  obtain ⟨rfl, rfl⟩ : g = g' ∧ off = off' := by injection e with e; injection e with e1 e2; exact ⟨e1, e2⟩
  obtain rfl : b = s1 := by rw [hb] at hs1; injection hs1
  obtain ⟨d0, d1, d2, d3, d4, d5, d6⟩ := hat1.open_
  have hwb := ok_wsm hobb.1 hobb.2
  have ge : ((k : Int) + 1 == (n : Int)) = false := by simp; omega
  have hk2 : (k : Int) + 1 < (n : Int) := by omega
  have h1' := h1.alloc (.cells #[.int .i64 b.k, .int .i64 b.a, .int .i64 b.b, .int .i64 b.c, .int .i64 b.u, .int .i64 b.v, .int .i64 b.x] 63)
  have h2 := (Has.newAt (w := w.alloc (.cells #[.int .i64 a.k, .int .i64 a.a, .int .i64 a.b, .int .i64 a.c, .int .i64 a.u, .int .i64 a.v, .int .i64 a.x] 63)) (n := w.heap.size + 1) (t := 63) (cs := #[.int .i64 b.k, .int .i64 b.a, .int .i64 b.b, .int .i64 b.c, .int .i64 b.u, .int .i64 b.v, .int .i64 b.x]) (by simp))
  have hB2 := Lib.hid (show Below w.heap.size w ((w.alloc (.cells #[.int .i64 a.k, .int .i64 a.a, .int .i64 a.b, .int .i64 a.c, .int .i64 a.u, .int .i64 a.v, .int .i64 a.x] 63)).alloc (.cells #[.int .i64 b.k, .int .i64 b.a, .int .i64 b.b, .int .i64 b.c, .int .i64 b.u, .int .i64 b.v, .int .i64 b.x] 63)) from ((Below.refl _ _).alloc (Nat.le_refl _) _).alloc (by simp) _)
  have cA := Lib.hid (fun wx => l6Apart_any a b wx hoa.1 hobb.1)
  have cPr := Lib.hid (fun wx => l6Product_any a b wx hwa hwb)
  have r0 := Lib.hid (fits0 (a := a) (b := b) hoa.2 hobb.2)
  have r1 := Lib.hid (fits1 (a := a) (b := b))
  have r2 := Lib.hid (fits2 hoa.1 hoa.2 hobb.1 hobb.2)
  have r4 := Lib.hid (fits4 hoa.1 hoa.2 hobb.1 hobb.2)
  have hbA := a_bd hoa.1 hoa.2
  have hbS := sets_bd a hoa.1
  have hbR := reads_bd b
  have e1 := h1'.cell
  have e2 := h2.cell
  have hz2 : ((w.alloc (.cells #[.int .i64 a.k, .int .i64 a.a, .int .i64 a.b, .int .i64 a.c, .int .i64 a.u, .int .i64 a.v, .int .i64 a.x] 63)).alloc (.cells #[.int .i64 b.k, .int .i64 b.a, .int .i64 b.b, .int .i64 b.c, .int .i64 b.u, .int .i64 b.v, .int .i64 b.x] 63)).heap.size = w.heap.size + 2 := by simp
  have hzz := Lib.hid hz2
  have hh2 := Lib.hid h2
  have hh1' := Lib.hid h1'
  clear h hat hs0 ha hb hs1 hat1 e h1 h1' h2 hz2 hwa hwb hobb hoa
  have hX := r1.out
  have hS : ∀ (p5 p4 : Bool), wOk (a.u * b.u) (a.v * b.v) (a.x * b.x) = p5 → (a.a == b.a) = p4 → True := fun _ _ _ _ => trivial
  have hcase : ((a.k == 2) = true ∧ (a.k == 4) = false ∧ (b.k == 4) = true) ∨ ((a.k == 2) = true ∧ (a.k == 4) = false ∧ (b.k == 4) = false) ∨ ((a.k == 2) = false ∧ (a.k == 4) = true ∧ (b.k == 4) = true) ∨ ((a.k == 2) = false ∧ (a.k == 4) = true ∧ (b.k == 4) = false) ∨ ((a.k == 2) = false ∧ (a.k == 4) = false ∧ (b.k == 4) = true) ∨ ((a.k == 2) = false ∧ (a.k == 4) = false ∧ (b.k == 4) = false) := by
    by_cases q1 : a.k = 2 <;> by_cases q2 : a.k = 4 <;> by_cases q3 : b.k = 4 <;> simp [q1, q2, q3] <;> omega
  rcases hcase with ⟨p1, p3, p2⟩ | ⟨p1, p3, p2⟩ | ⟨p1, p3, p2⟩ | ⟨p1, p3, p2⟩ | ⟨p1, p3, p2⟩ | ⟨p1, p3, p2⟩
  all_goals
    cases p5 : wOk (a.u * b.u) (a.v * b.v) (a.x * b.x)
    all_goals
      rw [p1, p2, p3, p5] at hX
      have hRr := Lib.hid hX
      have hp5 := Lib.hid p5
      clear hX p5 r0 r1 r2 r4 hS
      go_enter Try.func60, Try.ntmps60
      go_wp2_with fail
      refine (cPr.out _).mono ?_
      rw [hp5.out]
      rintro e w3 ⟨rfl, hb3⟩
      have hB3 := Lib.hid ((hB2.out.trans (hb3.mono (by simp; omega))).alloc (by have := hb3.size; simp at this; omega) (.cells #[.int .i64 (a.u * b.u), .int .i64 (a.v * b.v), .int .i64 (a.x * b.x)] 61))
      have f1 := ((hh1'.out.kept hb3).alloc (.cells #[.int .i64 (a.u * b.u), .int .i64 (a.v * b.v), .int .i64 (a.x * b.x)] 61)).cell
      have f2 := ((hh2.out.kept hb3).alloc (.cells #[.int .i64 (a.u * b.u), .int .i64 (a.v * b.v), .int .i64 (a.x * b.x)] 61)).cell
      clear hb3 e1 e2
      go_wp2_with fail
      go_ret
      exact ⟨ret_bool hRr.out, hB3.out⟩
end Go.Proofs.Ytkggejmamhakaaa
