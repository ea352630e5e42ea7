/- Parts of the proof: Cu. -/
import Derived.Test.YtkggejmamhakaaaZBI
import Derived.Test.YtkggejmamhakaaaZBJ
namespace Go.Proofs.Ytkggejmamhakaaa
set_option maxRecDepth 100000
set_option linter.unusedVariables false
open Go.RowKit
theorem owns_putw {w : World} {g base size n i G c : Nat} {e : TypeId} {u : Value} {xs : List Value} (h : w.ownsRow base e size (.slice (some ⟨G, 0, none⟩) n c) n xs) (hg : G ≠ g) : (w.setCell ⟨g, i, none⟩ u).ownsRow base e size (.slice (some ⟨G, 0, none⟩) n c) n xs :=
  owns_but h (KeptBut.put (KeptBut.refl w (fun j => j = g)) (p := ⟨g, i, none⟩) (fun _ => rfl) u) (fun k hk e => by
    have h2 : G = k := by simpa [Value.ownBlock] using hk
    omega)
/-- The first m weights of what draws or weighs alone. -/
def partV (kd : Int) (b : St) (p q r : Int) : Nat → Array Value
  | 0 => #[.int .i64 kd, .int .i64 b.a, .int .i64 0, .int .i64 0, .int .i64 0, .int .i64 0, .int .i64 0]
  | 1 => #[.int .i64 kd, .int .i64 b.a, .int .i64 0, .int .i64 0, .int .i64 p, .int .i64 0, .int .i64 0]
  | 2 => #[.int .i64 kd, .int .i64 b.a, .int .i64 0, .int .i64 0, .int .i64 p, .int .i64 q, .int .i64 0]
  | _ => #[.int .i64 kd, .int .i64 b.a, .int .i64 0, .int .i64 0, .int .i64 p, .int .i64 q, .int .i64 r]
set_option maxHeartbeats 2000000 in
theorem l6Do_4 (g off n cap k : Nat) (ps : List St) (a b : St) (w : World) (h : Lst w w.heap.size (some ⟨g, off, none⟩) n ps) (hn : n ≤ 10) (ha : ps[k]? = some a) (hb : ps[k + 1]? = some b) (hoa : a.ok = true ∧ a.k < 6) (hob : b.ok = true ∧ b.k < 6) (hf : fits 4 a (some b) = true) :
    Calls Try.prog 58 #[.slice (some ⟨g, off, none⟩) n cap, .int .i64 4, .int .i64 (k : Int)] w (OwndM w (chDone 4 ps k)) := by
  have hL := h.1
  have hk1 : k + 1 < n := by have := (List.getElem?_eq_some_iff.1 hb).1; omega
  have cC := Lib.hid (l1Copy_lst g off n cap ps w h (by omega) (by omega))
  have hH := Lib.hid h
  have ka : ∀ wx, Below w.heap.size w wx → StAt wx g (off + k * 7) a ∧ StAt wx g (off + (k + 1) * 7) b := fun wx hx => by
    obtain ⟨g', off', e, hg, hc⟩ := (hH.out.below hx).2 (by omega)
    injection e with e
    injection e with e1 e2 _
    subst e1 e2
    exact ⟨hc k a ha, hc (k + 1) b hb⟩
  have hK := Lib.hid ka
  have i0 : (0 : Int) ≤ (k : Int) := by omega
  have i1 : (k : Int) < (n : Int) := by omega
  have i2 : (k : Int) + 1 < (n : Int) := by omega
  have hA := Lib.hid ha
  have hBs := Lib.hid hb
  have hR := Lib.hid (done_4 ha hb)
  obtain ⟨_, eo, hk0, hkb, _, _⟩ := fits_4 hf
  have hac : a.c = 0 ∨ a.c = 1 ∨ a.c = 2 := by
    rcases (ok_low hoa.2).1 hoa.1 with ⟨_, _, _, hc, _⟩ | ⟨hk', _⟩ | ⟨hk', _⟩ | ⟨hk', _⟩ <;> omega
  have hBk := Lib.hid (show b.k = 5 ∨ ¬ b.k = 5 by omega)
  clear h ka ha hb hf eo hk0 hkb hoa hob
  rcases hac with hcv | hcv | hcv
  · have hMv := Lib.hid (show ∀ kd : Int, (if b.k = 5 then (4 : Int) else 2) = kd → moved b a.c = ⟨kd, b.a, 0, 0, b.u, b.v, b.x⟩ from fun kd hkd => by rw [hcv, ← hkd]; rfl)
    have hCv := Lib.hid hcv
    clear hcv
    go_enter Try.func58, Try.ntmps58
    go_wp2_with fail
    refine cC.out.mono ?_
    rintro e w1 ⟨G, c1, rfl, ho, hG, hc1, hcm1, hb1⟩
    have ho' := Lib.hid ((World.ownsRow.alloc (World.ownsRow.alloc ho (.cells #[.int .i64 b.k, .int .i64 b.a, .int .i64 b.b, .int .i64 b.c, .int .i64 b.u, .int .i64 b.v, .int .i64 b.x] 63)) (.cells #[.int .i64 2, .int .i64 b.a, .int .i64 0, .int .i64 0, .int .i64 0, .int .i64 0, .int .i64 0] 63)))
    have hb1' := Lib.hid ((hb1.alloc hb1.size (.cells #[.int .i64 b.k, .int .i64 b.a, .int .i64 b.b, .int .i64 b.c, .int .i64 b.u, .int .i64 b.v, .int .i64 b.x] 63)).alloc (by have := hb1.size; simp; omega) (.cells #[.int .i64 2, .int .i64 b.a, .int .i64 0, .int .i64 0, .int .i64 0, .int .i64 0, .int .i64 0] 63))
    have hT := Lib.hid ((Has.new w1 63 #[.int .i64 b.k, .int .i64 b.a, .int .i64 b.b, .int .i64 b.c, .int .i64 b.u, .int .i64 b.v, .int .i64 b.x]).alloc (.cells #[.int .i64 2, .int .i64 b.a, .int .i64 0, .int .i64 0, .int .i64 0, .int .i64 0, .int .i64 0] 63))
    have hX := Lib.hid (Has.newAt (w := w1.alloc (.cells #[.int .i64 b.k, .int .i64 b.a, .int .i64 b.b, .int .i64 b.c, .int .i64 b.u, .int .i64 b.v, .int .i64 b.x] 63)) (n := w1.heap.size + 1) (t := 63) (cs := #[.int .i64 2, .int .i64 b.a, .int .i64 0, .int .i64 0, .int .i64 0, .int .i64 0, .int .i64 0]) (by simp))
    have hoR := Lib.hid ho
    have hbR := Lib.hid hb1
    have hGl : G < w1.heap.size := (World.ownsRow.lt ho G (by simp [Value.ownBlock])).2
    have hws := hb1.size
    obtain ⟨q0, q1, q2, q3, q4, q5, q6⟩ := (hK.out _ hb1).2.open_
    have xx := hX.out.cell
    have xt := hT.out.cell
    have xf := hX.out.frozen
    have j1 : (n : Int) ≤ (c1 : Int) := by omega
    clear ho hb1
    rcases hBk.out with hb5 | hb5
    · have hM := Lib.hid (hMv.out 4 (if_pos hb5))
      have g5 : (b.k == (5 : Int)) = true := by simpa using hb5
      clear hb5
      go_wp2_with fail
      clear g5
      generalize hWg : ((w1.alloc (.cells #[.int .i64 b.k, .int .i64 b.a, .int .i64 b.b, .int .i64 b.c, .int .i64 b.u, .int .i64 b.v, .int .i64 b.x] 63)).alloc (.cells #[.int .i64 4, .int .i64 b.a, .int .i64 0, .int .i64 0, .int .i64 0, .int .i64 0, .int .i64 0] 63)) = W2
      have e1 : W2.ownsRow w.heap.size 63 7 (.slice (some ⟨G, 0, none⟩) n c1) n (flat ps) := by rw [← hWg]; exact World.ownsRow.alloc (World.ownsRow.alloc hoR.out (.cells #[.int .i64 b.k, .int .i64 b.a, .int .i64 b.b, .int .i64 b.c, .int .i64 b.u, .int .i64 b.v, .int .i64 b.x] 63)) (.cells #[.int .i64 4, .int .i64 b.a, .int .i64 0, .int .i64 0, .int .i64 0, .int .i64 0, .int .i64 0] 63)
      have e2 : Below w.heap.size w W2 := by rw [← hWg]; exact (hbR.out.alloc hbR.out.size (.cells #[.int .i64 b.k, .int .i64 b.a, .int .i64 b.b, .int .i64 b.c, .int .i64 b.u, .int .i64 b.v, .int .i64 b.x] 63)).alloc (by simp; omega) (.cells #[.int .i64 4, .int .i64 b.a, .int .i64 0, .int .i64 0, .int .i64 0, .int .i64 0, .int .i64 0] 63)
      have e3 : Has W2 w1.heap.size 63 #[.int .i64 b.k, .int .i64 b.a, .int .i64 b.b, .int .i64 b.c, .int .i64 b.u, .int .i64 b.v, .int .i64 b.x] := by rw [← hWg]; exact (Has.new w1 63 #[.int .i64 b.k, .int .i64 b.a, .int .i64 b.b, .int .i64 b.c, .int .i64 b.u, .int .i64 b.v, .int .i64 b.x]).alloc (.cells #[.int .i64 4, .int .i64 b.a, .int .i64 0, .int .i64 0, .int .i64 0, .int .i64 0, .int .i64 0] 63)
      have e4 : Has W2 (w1.heap.size + 1) 63 (partV 4 b (b.u) (b.v) (b.x) 0) := by rw [← hWg]; exact Has.newAt (w := w1.alloc (.cells #[.int .i64 b.k, .int .i64 b.a, .int .i64 b.b, .int .i64 b.c, .int .i64 b.u, .int .i64 b.v, .int .i64 b.x] 63)) (by simp)
      have f1 := Lib.hid e1
      have f2 := Lib.hid e2
      have f3 := Lib.hid e3
      have f4 := Lib.hid e4
      clear e1 e2 e3 e4 hWg xx xt xf q0 q1 q2 q3 q4 q5 q6 hX hT ho'
      go_loopg [12] 3 (fun gn i wr => ∃ m : Nat, m ≤ 3 ∧ gn = 3 - m ∧ i = .int .i64 (m : Int) ∧ wr.ownsRow w.heap.size 63 7 (.slice (some ⟨G, 0, none⟩) n c1) n (flat ps) ∧ Below w.heap.size w wr ∧ Has wr w1.heap.size 63 #[.int .i64 b.k, .int .i64 b.a, .int .i64 b.b, .int .i64 b.c, .int .i64 b.u, .int .i64 b.v, .int .i64 b.x] ∧ Has wr (w1.heap.size + 1) 63 (partV 4 b (b.u) (b.v) (b.x) m))
      case atStart => exact ⟨0, by decide, rfl, rfl, f1.out, f2.out, f3.out, f4.out⟩
      case round =>
        obtain ⟨m, hm3, hgn, rfl, z1, z2, z3, z4⟩ := hrel
        have hgk : gk = 3 - m := hgn
        have g1 := Lib.hid z1
        have g2 := Lib.hid z2
        have g3 := Lib.hid z3
        have g4 := Lib.hid z4
        clear hgn z1 z2 z3 z4
        obtain rfl | rfl | rfl | rfl : m = 0 ∨ m = 1 ∨ m = 2 ∨ m = 3 := by omega
        · have x4 := g4.out.cell
          have x4f := g4.out.frozen
          have x3 := g3.out.cell
          obtain ⟨p0, p1, p2, p3, p4, p5, p6⟩ := (hK.out _ g2.out).1.open_
          rw [hCv.out] at p3
          simp only [partV] at x4
          have h4 := Lib.hid (g4.out.put 4 (.int .i64 (b.u)))
          have h3 := Lib.hid (g3.out.far (p := ⟨w1.heap.size + 1, 4, none⟩) (by simp) (.int .i64 (b.u)))
          have h2 := Lib.hid (g2.out.setCell (p := ⟨w1.heap.size + 1, 4, none⟩) (by show w.heap.size ≤ w1.heap.size + 1; omega) (.int .i64 (b.u)))
          have h1 := Lib.hid (owns_putw (g := w1.heap.size + 1) (i := 4) (u := .int .i64 (b.u)) g1.out (by omega))
          go_wp2_with fail
          go_roundg (3 - 1)
          case measure => omega
          case rel => exact ⟨1, by decide, rfl, rfl, h1.out, h2.out, h3.out, h4.out⟩
        · have x4 := g4.out.cell
          have x4f := g4.out.frozen
          have x3 := g3.out.cell
          obtain ⟨p0, p1, p2, p3, p4, p5, p6⟩ := (hK.out _ g2.out).1.open_
          rw [hCv.out] at p3
          simp only [partV] at x4
          have h4 := Lib.hid (g4.out.put 5 (.int .i64 (b.v)))
          have h3 := Lib.hid (g3.out.far (p := ⟨w1.heap.size + 1, 5, none⟩) (by simp) (.int .i64 (b.v)))
          have h2 := Lib.hid (g2.out.setCell (p := ⟨w1.heap.size + 1, 5, none⟩) (by show w.heap.size ≤ w1.heap.size + 1; omega) (.int .i64 (b.v)))
          have h1 := Lib.hid (owns_putw (g := w1.heap.size + 1) (i := 5) (u := .int .i64 (b.v)) g1.out (by omega))
          go_wp2_with fail
          go_roundg (3 - 2)
          case measure => omega
          case rel => exact ⟨2, by decide, rfl, rfl, h1.out, h2.out, h3.out, h4.out⟩
        · have x4 := g4.out.cell
          have x4f := g4.out.frozen
          have x3 := g3.out.cell
          obtain ⟨p0, p1, p2, p3, p4, p5, p6⟩ := (hK.out _ g2.out).1.open_
          rw [hCv.out] at p3
          simp only [partV] at x4
          have h4 := Lib.hid (g4.out.put 6 (.int .i64 (b.x)))
          have h3 := Lib.hid (g3.out.far (p := ⟨w1.heap.size + 1, 6, none⟩) (by simp) (.int .i64 (b.x)))
          have h2 := Lib.hid (g2.out.setCell (p := ⟨w1.heap.size + 1, 6, none⟩) (by show w.heap.size ≤ w1.heap.size + 1; omega) (.int .i64 (b.x)))
          have h1 := Lib.hid (owns_putw (g := w1.heap.size + 1) (i := 6) (u := .int .i64 (b.x)) g1.out (by omega))
          go_wp2_with fail
          go_roundg (3 - 3)
          case measure => omega
          case rel => exact ⟨3, by decide, rfl, rfl, h1.out, h2.out, h3.out, h4.out⟩
        · have x4 := g4.out.cell
          obtain ⟨y0, y1, y2, y3, y4, y5, y6, yf⟩ := own_at g1.out hBs.out
          have hs4 := Lib.hid (own_store (b := ⟨4, b.a, 0, 0, b.u, b.v, b.x⟩) g1.out hBs.out)
          have hs5 := Lib.hid (below_store (b := ⟨4, b.a, 0, 0, b.u, b.v, b.x⟩) (o := (k + 1) * 7) g2.out hG)
          simp only [partV] at x4
          go_upto_region 23 with (fail)
          generalize (((((((wr.setCell ⟨G, (k + 1) * 7, none⟩ (.int .i64 4)).setCell ⟨G, (k + 1) * 7 + 1, none⟩ (.int .i64 b.a)).setCell ⟨G, (k + 1) * 7 + 2, none⟩ (.int .i64 0)).setCell ⟨G, (k + 1) * 7 + 3, none⟩ (.int .i64 0)).setCell ⟨G, (k + 1) * 7 + 4, none⟩ (.int .i64 b.u)).setCell ⟨G, (k + 1) * 7 + 5, none⟩ (.int .i64 b.v)).setCell ⟨G, (k + 1) * 7 + 6, none⟩ (.int .i64 b.x)) = W3 at hs4 hs5 ⊢
          clear y0 y1 y2 y3 y4 y5 y6 yf x4
          go_wp2_with fail
          go_ret
          rw [hR.out, hM.out]
          exact ownM hs4.out hs5.out
    · have hM := Lib.hid (hMv.out 2 (if_neg hb5))
      have g5 : (b.k == (5 : Int)) = false := by simpa using hb5
      clear hb5
      go_wp2_with fail
      clear g5
      generalize hWg : ((w1.alloc (.cells #[.int .i64 b.k, .int .i64 b.a, .int .i64 b.b, .int .i64 b.c, .int .i64 b.u, .int .i64 b.v, .int .i64 b.x] 63)).alloc (.cells #[.int .i64 2, .int .i64 b.a, .int .i64 0, .int .i64 0, .int .i64 0, .int .i64 0, .int .i64 0] 63)) = W2
      have e1 : W2.ownsRow w.heap.size 63 7 (.slice (some ⟨G, 0, none⟩) n c1) n (flat ps) := by rw [← hWg]; exact ho'.out
      have e2 : Below w.heap.size w W2 := by rw [← hWg]; exact hb1'.out
      have e3 : Has W2 w1.heap.size 63 #[.int .i64 b.k, .int .i64 b.a, .int .i64 b.b, .int .i64 b.c, .int .i64 b.u, .int .i64 b.v, .int .i64 b.x] := by rw [← hWg]; exact hT.out
      have e4 : Has W2 (w1.heap.size + 1) 63 (partV 2 b (b.u) (b.v) (b.x) 0) := by rw [← hWg]; exact hX.out
      have f1 := Lib.hid e1
      have f2 := Lib.hid e2
      have f3 := Lib.hid e3
      have f4 := Lib.hid e4
      clear e1 e2 e3 e4 hWg xx xt xf q0 q1 q2 q3 q4 q5 q6 hX hT ho'
      go_loopg [12] 3 (fun gn i wr => ∃ m : Nat, m ≤ 3 ∧ gn = 3 - m ∧ i = .int .i64 (m : Int) ∧ wr.ownsRow w.heap.size 63 7 (.slice (some ⟨G, 0, none⟩) n c1) n (flat ps) ∧ Below w.heap.size w wr ∧ Has wr w1.heap.size 63 #[.int .i64 b.k, .int .i64 b.a, .int .i64 b.b, .int .i64 b.c, .int .i64 b.u, .int .i64 b.v, .int .i64 b.x] ∧ Has wr (w1.heap.size + 1) 63 (partV 2 b (b.u) (b.v) (b.x) m))
      case atStart => exact ⟨0, by decide, rfl, rfl, f1.out, f2.out, f3.out, f4.out⟩
      case round =>
        obtain ⟨m, hm3, hgn, rfl, z1, z2, z3, z4⟩ := hrel
        have hgk : gk = 3 - m := hgn
        have g1 := Lib.hid z1
        have g2 := Lib.hid z2
        have g3 := Lib.hid z3
        have g4 := Lib.hid z4
        clear hgn z1 z2 z3 z4
        obtain rfl | rfl | rfl | rfl : m = 0 ∨ m = 1 ∨ m = 2 ∨ m = 3 := by omega
        · have x4 := g4.out.cell
          have x4f := g4.out.frozen
          have x3 := g3.out.cell
          obtain ⟨p0, p1, p2, p3, p4, p5, p6⟩ := (hK.out _ g2.out).1.open_
          rw [hCv.out] at p3
          simp only [partV] at x4
          have h4 := Lib.hid (g4.out.put 4 (.int .i64 (b.u)))
          have h3 := Lib.hid (g3.out.far (p := ⟨w1.heap.size + 1, 4, none⟩) (by simp) (.int .i64 (b.u)))
          have h2 := Lib.hid (g2.out.setCell (p := ⟨w1.heap.size + 1, 4, none⟩) (by show w.heap.size ≤ w1.heap.size + 1; omega) (.int .i64 (b.u)))
          have h1 := Lib.hid (owns_putw (g := w1.heap.size + 1) (i := 4) (u := .int .i64 (b.u)) g1.out (by omega))
          go_wp2_with fail
          go_roundg (3 - 1)
          case measure => omega
          case rel => exact ⟨1, by decide, rfl, rfl, h1.out, h2.out, h3.out, h4.out⟩
        · have x4 := g4.out.cell
          have x4f := g4.out.frozen
          have x3 := g3.out.cell
          obtain ⟨p0, p1, p2, p3, p4, p5, p6⟩ := (hK.out _ g2.out).1.open_
          rw [hCv.out] at p3
          simp only [partV] at x4
          have h4 := Lib.hid (g4.out.put 5 (.int .i64 (b.v)))
          have h3 := Lib.hid (g3.out.far (p := ⟨w1.heap.size + 1, 5, none⟩) (by simp) (.int .i64 (b.v)))
          have h2 := Lib.hid (g2.out.setCell (p := ⟨w1.heap.size + 1, 5, none⟩) (by show w.heap.size ≤ w1.heap.size + 1; omega) (.int .i64 (b.v)))
          have h1 := Lib.hid (owns_putw (g := w1.heap.size + 1) (i := 5) (u := .int .i64 (b.v)) g1.out (by omega))
          go_wp2_with fail
          go_roundg (3 - 2)
          case measure => omega
          case rel => exact ⟨2, by decide, rfl, rfl, h1.out, h2.out, h3.out, h4.out⟩
        · have x4 := g4.out.cell
          have x4f := g4.out.frozen
          have x3 := g3.out.cell
          obtain ⟨p0, p1, p2, p3, p4, p5, p6⟩ := (hK.out _ g2.out).1.open_
          rw [hCv.out] at p3
          simp only [partV] at x4
          have h4 := Lib.hid (g4.out.put 6 (.int .i64 (b.x)))
          have h3 := Lib.hid (g3.out.far (p := ⟨w1.heap.size + 1, 6, none⟩) (by simp) (.int .i64 (b.x)))
          have h2 := Lib.hid (g2.out.setCell (p := ⟨w1.heap.size + 1, 6, none⟩) (by show w.heap.size ≤ w1.heap.size + 1; omega) (.int .i64 (b.x)))
          have h1 := Lib.hid (owns_putw (g := w1.heap.size + 1) (i := 6) (u := .int .i64 (b.x)) g1.out (by omega))
          go_wp2_with fail
          go_roundg (3 - 3)
          case measure => omega
          case rel => exact ⟨3, by decide, rfl, rfl, h1.out, h2.out, h3.out, h4.out⟩
        · have x4 := g4.out.cell
          obtain ⟨y0, y1, y2, y3, y4, y5, y6, yf⟩ := own_at g1.out hBs.out
          have hs4 := Lib.hid (own_store (b := ⟨2, b.a, 0, 0, b.u, b.v, b.x⟩) g1.out hBs.out)
          have hs5 := Lib.hid (below_store (b := ⟨2, b.a, 0, 0, b.u, b.v, b.x⟩) (o := (k + 1) * 7) g2.out hG)
          simp only [partV] at x4
          go_upto_region 23 with (fail)
          generalize (((((((wr.setCell ⟨G, (k + 1) * 7, none⟩ (.int .i64 2)).setCell ⟨G, (k + 1) * 7 + 1, none⟩ (.int .i64 b.a)).setCell ⟨G, (k + 1) * 7 + 2, none⟩ (.int .i64 0)).setCell ⟨G, (k + 1) * 7 + 3, none⟩ (.int .i64 0)).setCell ⟨G, (k + 1) * 7 + 4, none⟩ (.int .i64 b.u)).setCell ⟨G, (k + 1) * 7 + 5, none⟩ (.int .i64 b.v)).setCell ⟨G, (k + 1) * 7 + 6, none⟩ (.int .i64 b.x)) = W3 at hs4 hs5 ⊢
          clear y0 y1 y2 y3 y4 y5 y6 yf x4
          go_wp2_with fail
          go_ret
          rw [hR.out, hM.out]
          exact ownM hs4.out hs5.out
  · have hMv := Lib.hid (show ∀ kd : Int, (if b.k = 5 then (4 : Int) else 2) = kd → moved b a.c = ⟨kd, b.a, 0, 0, b.v, b.x, b.u⟩ from fun kd hkd => by rw [hcv, ← hkd]; rfl)
    have hCv := Lib.hid hcv
    clear hcv
    go_enter Try.func58, Try.ntmps58
    go_wp2_with fail
    refine cC.out.mono ?_
    rintro e w1 ⟨G, c1, rfl, ho, hG, hc1, hcm1, hb1⟩
    have ho' := Lib.hid ((World.ownsRow.alloc (World.ownsRow.alloc ho (.cells #[.int .i64 b.k, .int .i64 b.a, .int .i64 b.b, .int .i64 b.c, .int .i64 b.u, .int .i64 b.v, .int .i64 b.x] 63)) (.cells #[.int .i64 2, .int .i64 b.a, .int .i64 0, .int .i64 0, .int .i64 0, .int .i64 0, .int .i64 0] 63)))
    have hb1' := Lib.hid ((hb1.alloc hb1.size (.cells #[.int .i64 b.k, .int .i64 b.a, .int .i64 b.b, .int .i64 b.c, .int .i64 b.u, .int .i64 b.v, .int .i64 b.x] 63)).alloc (by have := hb1.size; simp; omega) (.cells #[.int .i64 2, .int .i64 b.a, .int .i64 0, .int .i64 0, .int .i64 0, .int .i64 0, .int .i64 0] 63))
    have hT := Lib.hid ((Has.new w1 63 #[.int .i64 b.k, .int .i64 b.a, .int .i64 b.b, .int .i64 b.c, .int .i64 b.u, .int .i64 b.v, .int .i64 b.x]).alloc (.cells #[.int .i64 2, .int .i64 b.a, .int .i64 0, .int .i64 0, .int .i64 0, .int .i64 0, .int .i64 0] 63))
    have hX := Lib.hid (Has.newAt (w := w1.alloc (.cells #[.int .i64 b.k, .int .i64 b.a, .int .i64 b.b, .int .i64 b.c, .int .i64 b.u, .int .i64 b.v, .int .i64 b.x] 63)) (n := w1.heap.size + 1) (t := 63) (cs := #[.int .i64 2, .int .i64 b.a, .int .i64 0, .int .i64 0, .int .i64 0, .int .i64 0, .int .i64 0]) (by simp))
    have hoR := Lib.hid ho
    have hbR := Lib.hid hb1
    have hGl : G < w1.heap.size := (World.ownsRow.lt ho G (by simp [Value.ownBlock])).2
    have hws := hb1.size
    obtain ⟨q0, q1, q2, q3, q4, q5, q6⟩ := (hK.out _ hb1).2.open_
    have xx := hX.out.cell
    have xt := hT.out.cell
    have xf := hX.out.frozen
    have j1 : (n : Int) ≤ (c1 : Int) := by omega
    clear ho hb1
    rcases hBk.out with hb5 | hb5
    · have hM := Lib.hid (hMv.out 4 (if_pos hb5))
      have g5 : (b.k == (5 : Int)) = true := by simpa using hb5
      clear hb5
      go_wp2_with fail
      clear g5
      generalize hWg : ((w1.alloc (.cells #[.int .i64 b.k, .int .i64 b.a, .int .i64 b.b, .int .i64 b.c, .int .i64 b.u, .int .i64 b.v, .int .i64 b.x] 63)).alloc (.cells #[.int .i64 4, .int .i64 b.a, .int .i64 0, .int .i64 0, .int .i64 0, .int .i64 0, .int .i64 0] 63)) = W2
      have e1 : W2.ownsRow w.heap.size 63 7 (.slice (some ⟨G, 0, none⟩) n c1) n (flat ps) := by rw [← hWg]; exact World.ownsRow.alloc (World.ownsRow.alloc hoR.out (.cells #[.int .i64 b.k, .int .i64 b.a, .int .i64 b.b, .int .i64 b.c, .int .i64 b.u, .int .i64 b.v, .int .i64 b.x] 63)) (.cells #[.int .i64 4, .int .i64 b.a, .int .i64 0, .int .i64 0, .int .i64 0, .int .i64 0, .int .i64 0] 63)
      have e2 : Below w.heap.size w W2 := by rw [← hWg]; exact (hbR.out.alloc hbR.out.size (.cells #[.int .i64 b.k, .int .i64 b.a, .int .i64 b.b, .int .i64 b.c, .int .i64 b.u, .int .i64 b.v, .int .i64 b.x] 63)).alloc (by simp; omega) (.cells #[.int .i64 4, .int .i64 b.a, .int .i64 0, .int .i64 0, .int .i64 0, .int .i64 0, .int .i64 0] 63)
      have e3 : Has W2 w1.heap.size 63 #[.int .i64 b.k, .int .i64 b.a, .int .i64 b.b, .int .i64 b.c, .int .i64 b.u, .int .i64 b.v, .int .i64 b.x] := by rw [← hWg]; exact (Has.new w1 63 #[.int .i64 b.k, .int .i64 b.a, .int .i64 b.b, .int .i64 b.c, .int .i64 b.u, .int .i64 b.v, .int .i64 b.x]).alloc (.cells #[.int .i64 4, .int .i64 b.a, .int .i64 0, .int .i64 0, .int .i64 0, .int .i64 0, .int .i64 0] 63)
      have e4 : Has W2 (w1.heap.size + 1) 63 (partV 4 b (b.v) (b.x) (b.u) 0) := by rw [← hWg]; exact Has.newAt (w := w1.alloc (.cells #[.int .i64 b.k, .int .i64 b.a, .int .i64 b.b, .int .i64 b.c, .int .i64 b.u, .int .i64 b.v, .int .i64 b.x] 63)) (by simp)
      have f1 := Lib.hid e1
      have f2 := Lib.hid e2
      have f3 := Lib.hid e3
      have f4 := Lib.hid e4
      clear e1 e2 e3 e4 hWg xx xt xf q0 q1 q2 q3 q4 q5 q6 hX hT ho'
      go_loopg [12] 3 (fun gn i wr => ∃ m : Nat, m ≤ 3 ∧ gn = 3 - m ∧ i = .int .i64 (m : Int) ∧ wr.ownsRow w.heap.size 63 7 (.slice (some ⟨G, 0, none⟩) n c1) n (flat ps) ∧ Below w.heap.size w wr ∧ Has wr w1.heap.size 63 #[.int .i64 b.k, .int .i64 b.a, .int .i64 b.b, .int .i64 b.c, .int .i64 b.u, .int .i64 b.v, .int .i64 b.x] ∧ Has wr (w1.heap.size + 1) 63 (partV 4 b (b.v) (b.x) (b.u) m))
      case atStart => exact ⟨0, by decide, rfl, rfl, f1.out, f2.out, f3.out, f4.out⟩
      case round =>
        obtain ⟨m, hm3, hgn, rfl, z1, z2, z3, z4⟩ := hrel
        have hgk : gk = 3 - m := hgn
        have g1 := Lib.hid z1
        have g2 := Lib.hid z2
        have g3 := Lib.hid z3
        have g4 := Lib.hid z4
        clear hgn z1 z2 z3 z4
        obtain rfl | rfl | rfl | rfl : m = 0 ∨ m = 1 ∨ m = 2 ∨ m = 3 := by omega
        · have x4 := g4.out.cell
          have x4f := g4.out.frozen
          have x3 := g3.out.cell
          obtain ⟨p0, p1, p2, p3, p4, p5, p6⟩ := (hK.out _ g2.out).1.open_
          rw [hCv.out] at p3
          simp only [partV] at x4
          have h4 := Lib.hid (g4.out.put 4 (.int .i64 (b.v)))
          have h3 := Lib.hid (g3.out.far (p := ⟨w1.heap.size + 1, 4, none⟩) (by simp) (.int .i64 (b.v)))
          have h2 := Lib.hid (g2.out.setCell (p := ⟨w1.heap.size + 1, 4, none⟩) (by show w.heap.size ≤ w1.heap.size + 1; omega) (.int .i64 (b.v)))
          have h1 := Lib.hid (owns_putw (g := w1.heap.size + 1) (i := 4) (u := .int .i64 (b.v)) g1.out (by omega))
          go_wp2_with fail
          go_roundg (3 - 1)
          case measure => omega
          case rel => exact ⟨1, by decide, rfl, rfl, h1.out, h2.out, h3.out, h4.out⟩
        · have x4 := g4.out.cell
          have x4f := g4.out.frozen
          have x3 := g3.out.cell
          obtain ⟨p0, p1, p2, p3, p4, p5, p6⟩ := (hK.out _ g2.out).1.open_
          rw [hCv.out] at p3
          simp only [partV] at x4
          have h4 := Lib.hid (g4.out.put 5 (.int .i64 (b.x)))
          have h3 := Lib.hid (g3.out.far (p := ⟨w1.heap.size + 1, 5, none⟩) (by simp) (.int .i64 (b.x)))
          have h2 := Lib.hid (g2.out.setCell (p := ⟨w1.heap.size + 1, 5, none⟩) (by show w.heap.size ≤ w1.heap.size + 1; omega) (.int .i64 (b.x)))
          have h1 := Lib.hid (owns_putw (g := w1.heap.size + 1) (i := 5) (u := .int .i64 (b.x)) g1.out (by omega))
          go_wp2_with fail
          go_roundg (3 - 2)
          case measure => omega
          case rel => exact ⟨2, by decide, rfl, rfl, h1.out, h2.out, h3.out, h4.out⟩
        · have x4 := g4.out.cell
          have x4f := g4.out.frozen
          have x3 := g3.out.cell
          obtain ⟨p0, p1, p2, p3, p4, p5, p6⟩ := (hK.out _ g2.out).1.open_
          rw [hCv.out] at p3
          simp only [partV] at x4
          have h4 := Lib.hid (g4.out.put 6 (.int .i64 (b.u)))
          have h3 := Lib.hid (g3.out.far (p := ⟨w1.heap.size + 1, 6, none⟩) (by simp) (.int .i64 (b.u)))
          have h2 := Lib.hid (g2.out.setCell (p := ⟨w1.heap.size + 1, 6, none⟩) (by show w.heap.size ≤ w1.heap.size + 1; omega) (.int .i64 (b.u)))
          have h1 := Lib.hid (owns_putw (g := w1.heap.size + 1) (i := 6) (u := .int .i64 (b.u)) g1.out (by omega))
          go_wp2_with fail
          go_roundg (3 - 3)
          case measure => omega
          case rel => exact ⟨3, by decide, rfl, rfl, h1.out, h2.out, h3.out, h4.out⟩
        · have x4 := g4.out.cell
          obtain ⟨y0, y1, y2, y3, y4, y5, y6, yf⟩ := own_at g1.out hBs.out
          have hs4 := Lib.hid (own_store (b := ⟨4, b.a, 0, 0, b.v, b.x, b.u⟩) g1.out hBs.out)
          have hs5 := Lib.hid (below_store (b := ⟨4, b.a, 0, 0, b.v, b.x, b.u⟩) (o := (k + 1) * 7) g2.out hG)
          simp only [partV] at x4
          go_upto_region 23 with (fail)
          generalize (((((((wr.setCell ⟨G, (k + 1) * 7, none⟩ (.int .i64 4)).setCell ⟨G, (k + 1) * 7 + 1, none⟩ (.int .i64 b.a)).setCell ⟨G, (k + 1) * 7 + 2, none⟩ (.int .i64 0)).setCell ⟨G, (k + 1) * 7 + 3, none⟩ (.int .i64 0)).setCell ⟨G, (k + 1) * 7 + 4, none⟩ (.int .i64 b.v)).setCell ⟨G, (k + 1) * 7 + 5, none⟩ (.int .i64 b.x)).setCell ⟨G, (k + 1) * 7 + 6, none⟩ (.int .i64 b.u)) = W3 at hs4 hs5 ⊢
          clear y0 y1 y2 y3 y4 y5 y6 yf x4
          go_wp2_with fail
          go_ret
          rw [hR.out, hM.out]
          exact ownM hs4.out hs5.out
    · have hM := Lib.hid (hMv.out 2 (if_neg hb5))
      have g5 : (b.k == (5 : Int)) = false := by simpa using hb5
      clear hb5
      go_wp2_with fail
      clear g5
      generalize hWg : ((w1.alloc (.cells #[.int .i64 b.k, .int .i64 b.a, .int .i64 b.b, .int .i64 b.c, .int .i64 b.u, .int .i64 b.v, .int .i64 b.x] 63)).alloc (.cells #[.int .i64 2, .int .i64 b.a, .int .i64 0, .int .i64 0, .int .i64 0, .int .i64 0, .int .i64 0] 63)) = W2
      have e1 : W2.ownsRow w.heap.size 63 7 (.slice (some ⟨G, 0, none⟩) n c1) n (flat ps) := by rw [← hWg]; exact ho'.out
      have e2 : Below w.heap.size w W2 := by rw [← hWg]; exact hb1'.out
      have e3 : Has W2 w1.heap.size 63 #[.int .i64 b.k, .int .i64 b.a, .int .i64 b.b, .int .i64 b.c, .int .i64 b.u, .int .i64 b.v, .int .i64 b.x] := by rw [← hWg]; exact hT.out
      have e4 : Has W2 (w1.heap.size + 1) 63 (partV 2 b (b.v) (b.x) (b.u) 0) := by rw [← hWg]; exact hX.out
      have f1 := Lib.hid e1
      have f2 := Lib.hid e2
      have f3 := Lib.hid e3
      have f4 := Lib.hid e4
      clear e1 e2 e3 e4 hWg xx xt xf q0 q1 q2 q3 q4 q5 q6 hX hT ho'
      go_loopg [12] 3 (fun gn i wr => ∃ m : Nat, m ≤ 3 ∧ gn = 3 - m ∧ i = .int .i64 (m : Int) ∧ wr.ownsRow w.heap.size 63 7 (.slice (some ⟨G, 0, none⟩) n c1) n (flat ps) ∧ Below w.heap.size w wr ∧ Has wr w1.heap.size 63 #[.int .i64 b.k, .int .i64 b.a, .int .i64 b.b, .int .i64 b.c, .int .i64 b.u, .int .i64 b.v, .int .i64 b.x] ∧ Has wr (w1.heap.size + 1) 63 (partV 2 b (b.v) (b.x) (b.u) m))
      case atStart => exact ⟨0, by decide, rfl, rfl, f1.out, f2.out, f3.out, f4.out⟩
      case round =>
        obtain ⟨m, hm3, hgn, rfl, z1, z2, z3, z4⟩ := hrel
        have hgk : gk = 3 - m := hgn
        have g1 := Lib.hid z1
        have g2 := Lib.hid z2
        have g3 := Lib.hid z3
        have g4 := Lib.hid z4
        clear hgn z1 z2 z3 z4
        obtain rfl | rfl | rfl | rfl : m = 0 ∨ m = 1 ∨ m = 2 ∨ m = 3 := by omega
        · have x4 := g4.out.cell
          have x4f := g4.out.frozen
          have x3 := g3.out.cell
          obtain ⟨p0, p1, p2, p3, p4, p5, p6⟩ := (hK.out _ g2.out).1.open_
          rw [hCv.out] at p3
          simp only [partV] at x4
          have h4 := Lib.hid (g4.out.put 4 (.int .i64 (b.v)))
          have h3 := Lib.hid (g3.out.far (p := ⟨w1.heap.size + 1, 4, none⟩) (by simp) (.int .i64 (b.v)))
          have h2 := Lib.hid (g2.out.setCell (p := ⟨w1.heap.size + 1, 4, none⟩) (by show w.heap.size ≤ w1.heap.size + 1; omega) (.int .i64 (b.v)))
          have h1 := Lib.hid (owns_putw (g := w1.heap.size + 1) (i := 4) (u := .int .i64 (b.v)) g1.out (by omega))
          go_wp2_with fail
          go_roundg (3 - 1)
          case measure => omega
          case rel => exact ⟨1, by decide, rfl, rfl, h1.out, h2.out, h3.out, h4.out⟩
        · have x4 := g4.out.cell
          have x4f := g4.out.frozen
          have x3 := g3.out.cell
          obtain ⟨p0, p1, p2, p3, p4, p5, p6⟩ := (hK.out _ g2.out).1.open_
          rw [hCv.out] at p3
          simp only [partV] at x4
          have h4 := Lib.hid (g4.out.put 5 (.int .i64 (b.x)))
          have h3 := Lib.hid (g3.out.far (p := ⟨w1.heap.size + 1, 5, none⟩) (by simp) (.int .i64 (b.x)))
          have h2 := Lib.hid (g2.out.setCell (p := ⟨w1.heap.size + 1, 5, none⟩) (by show w.heap.size ≤ w1.heap.size + 1; omega) (.int .i64 (b.x)))
          have h1 := Lib.hid (owns_putw (g := w1.heap.size + 1) (i := 5) (u := .int .i64 (b.x)) g1.out (by omega))
          go_wp2_with fail
          go_roundg (3 - 2)
          case measure => omega
          case rel => exact ⟨2, by decide, rfl, rfl, h1.out, h2.out, h3.out, h4.out⟩
        · have x4 := g4.out.cell
          have x4f := g4.out.frozen
          have x3 := g3.out.cell
          obtain ⟨p0, p1, p2, p3, p4, p5, p6⟩ := (hK.out _ g2.out).1.open_
          rw [hCv.out] at p3
          simp only [partV] at x4
          have h4 := Lib.hid (g4.out.put 6 (.int .i64 (b.u)))
          have h3 := Lib.hid (g3.out.far (p := ⟨w1.heap.size + 1, 6, none⟩) (by simp) (.int .i64 (b.u)))
          have h2 := Lib.hid (g2.out.setCell (p := ⟨w1.heap.size + 1, 6, none⟩) (by show w.heap.size ≤ w1.heap.size + 1; omega) (.int .i64 (b.u)))
          have h1 := Lib.hid (owns_putw (g := w1.heap.size + 1) (i := 6) (u := .int .i64 (b.u)) g1.out (by omega))
          go_wp2_with fail
          go_roundg (3 - 3)
          case measure => omega
          case rel => exact ⟨3, by decide, rfl, rfl, h1.out, h2.out, h3.out, h4.out⟩
        · have x4 := g4.out.cell
          obtain ⟨y0, y1, y2, y3, y4, y5, y6, yf⟩ := own_at g1.out hBs.out
          have hs4 := Lib.hid (own_store (b := ⟨2, b.a, 0, 0, b.v, b.x, b.u⟩) g1.out hBs.out)
          have hs5 := Lib.hid (below_store (b := ⟨2, b.a, 0, 0, b.v, b.x, b.u⟩) (o := (k + 1) * 7) g2.out hG)
          simp only [partV] at x4
          go_upto_region 23 with (fail)
          generalize (((((((wr.setCell ⟨G, (k + 1) * 7, none⟩ (.int .i64 2)).setCell ⟨G, (k + 1) * 7 + 1, none⟩ (.int .i64 b.a)).setCell ⟨G, (k + 1) * 7 + 2, none⟩ (.int .i64 0)).setCell ⟨G, (k + 1) * 7 + 3, none⟩ (.int .i64 0)).setCell ⟨G, (k + 1) * 7 + 4, none⟩ (.int .i64 b.v)).setCell ⟨G, (k + 1) * 7 + 5, none⟩ (.int .i64 b.x)).setCell ⟨G, (k + 1) * 7 + 6, none⟩ (.int .i64 b.u)) = W3 at hs4 hs5 ⊢
          clear y0 y1 y2 y3 y4 y5 y6 yf x4
          go_wp2_with fail
          go_ret
          rw [hR.out, hM.out]
          exact ownM hs4.out hs5.out
  · have hMv := Lib.hid (show ∀ kd : Int, (if b.k = 5 then (4 : Int) else 2) = kd → moved b a.c = ⟨kd, b.a, 0, 0, b.x, b.u, b.v⟩ from fun kd hkd => by rw [hcv, ← hkd]; rfl)
    have hCv := Lib.hid hcv
    clear hcv
    go_enter Try.func58, Try.ntmps58
    go_wp2_with fail
    refine cC.out.mono ?_
    rintro e w1 ⟨G, c1, rfl, ho, hG, hc1, hcm1, hb1⟩
    have ho' := Lib.hid ((World.ownsRow.alloc (World.ownsRow.alloc ho (.cells #[.int .i64 b.k, .int .i64 b.a, .int .i64 b.b, .int .i64 b.c, .int .i64 b.u, .int .i64 b.v, .int .i64 b.x] 63)) (.cells #[.int .i64 2, .int .i64 b.a, .int .i64 0, .int .i64 0, .int .i64 0, .int .i64 0, .int .i64 0] 63)))
    have hb1' := Lib.hid ((hb1.alloc hb1.size (.cells #[.int .i64 b.k, .int .i64 b.a, .int .i64 b.b, .int .i64 b.c, .int .i64 b.u, .int .i64 b.v, .int .i64 b.x] 63)).alloc (by have := hb1.size; simp; omega) (.cells #[.int .i64 2, .int .i64 b.a, .int .i64 0, .int .i64 0, .int .i64 0, .int .i64 0, .int .i64 0] 63))
    have hT := Lib.hid ((Has.new w1 63 #[.int .i64 b.k, .int .i64 b.a, .int .i64 b.b, .int .i64 b.c, .int .i64 b.u, .int .i64 b.v, .int .i64 b.x]).alloc (.cells #[.int .i64 2, .int .i64 b.a, .int .i64 0, .int .i64 0, .int .i64 0, .int .i64 0, .int .i64 0] 63))
    have hX := Lib.hid (Has.newAt (w := w1.alloc (.cells #[.int .i64 b.k, .int .i64 b.a, .int .i64 b.b, .int .i64 b.c, .int .i64 b.u, .int .i64 b.v, .int .i64 b.x] 63)) (n := w1.heap.size + 1) (t := 63) (cs := #[.int .i64 2, .int .i64 b.a, .int .i64 0, .int .i64 0, .int .i64 0, .int .i64 0, .int .i64 0]) (by simp))
    have hoR := Lib.hid ho
    have hbR := Lib.hid hb1
    have hGl : G < w1.heap.size := (World.ownsRow.lt ho G (by simp [Value.ownBlock])).2
    have hws := hb1.size
    obtain ⟨q0, q1, q2, q3, q4, q5, q6⟩ := (hK.out _ hb1).2.open_
    have xx := hX.out.cell
    have xt := hT.out.cell
    have xf := hX.out.frozen
    have j1 : (n : Int) ≤ (c1 : Int) := by omega
    clear ho hb1
    rcases hBk.out with hb5 | hb5
    · have hM := Lib.hid (hMv.out 4 (if_pos hb5))
      have g5 : (b.k == (5 : Int)) = true := by simpa using hb5
      clear hb5
      go_wp2_with fail
      clear g5
      generalize hWg : ((w1.alloc (.cells #[.int .i64 b.k, .int .i64 b.a, .int .i64 b.b, .int .i64 b.c, .int .i64 b.u, .int .i64 b.v, .int .i64 b.x] 63)).alloc (.cells #[.int .i64 4, .int .i64 b.a, .int .i64 0, .int .i64 0, .int .i64 0, .int .i64 0, .int .i64 0] 63)) = W2
      have e1 : W2.ownsRow w.heap.size 63 7 (.slice (some ⟨G, 0, none⟩) n c1) n (flat ps) := by rw [← hWg]; exact World.ownsRow.alloc (World.ownsRow.alloc hoR.out (.cells #[.int .i64 b.k, .int .i64 b.a, .int .i64 b.b, .int .i64 b.c, .int .i64 b.u, .int .i64 b.v, .int .i64 b.x] 63)) (.cells #[.int .i64 4, .int .i64 b.a, .int .i64 0, .int .i64 0, .int .i64 0, .int .i64 0, .int .i64 0] 63)
      have e2 : Below w.heap.size w W2 := by rw [← hWg]; exact (hbR.out.alloc hbR.out.size (.cells #[.int .i64 b.k, .int .i64 b.a, .int .i64 b.b, .int .i64 b.c, .int .i64 b.u, .int .i64 b.v, .int .i64 b.x] 63)).alloc (by simp; omega) (.cells #[.int .i64 4, .int .i64 b.a, .int .i64 0, .int .i64 0, .int .i64 0, .int .i64 0, .int .i64 0] 63)
      have e3 : Has W2 w1.heap.size 63 #[.int .i64 b.k, .int .i64 b.a, .int .i64 b.b, .int .i64 b.c, .int .i64 b.u, .int .i64 b.v, .int .i64 b.x] := by rw [← hWg]; exact (Has.new w1 63 #[.int .i64 b.k, .int .i64 b.a, .int .i64 b.b, .int .i64 b.c, .int .i64 b.u, .int .i64 b.v, .int .i64 b.x]).alloc (.cells #[.int .i64 4, .int .i64 b.a, .int .i64 0, .int .i64 0, .int .i64 0, .int .i64 0, .int .i64 0] 63)
      have e4 : Has W2 (w1.heap.size + 1) 63 (partV 4 b (b.x) (b.u) (b.v) 0) := by rw [← hWg]; exact Has.newAt (w := w1.alloc (.cells #[.int .i64 b.k, .int .i64 b.a, .int .i64 b.b, .int .i64 b.c, .int .i64 b.u, .int .i64 b.v, .int .i64 b.x] 63)) (by simp)
      have f1 := Lib.hid e1
      have f2 := Lib.hid e2
      have f3 := Lib.hid e3
      have f4 := Lib.hid e4
      clear e1 e2 e3 e4 hWg xx xt xf q0 q1 q2 q3 q4 q5 q6 hX hT ho'
      go_loopg [12] 3 (fun gn i wr => ∃ m : Nat, m ≤ 3 ∧ gn = 3 - m ∧ i = .int .i64 (m : Int) ∧ wr.ownsRow w.heap.size 63 7 (.slice (some ⟨G, 0, none⟩) n c1) n (flat ps) ∧ Below w.heap.size w wr ∧ Has wr w1.heap.size 63 #[.int .i64 b.k, .int .i64 b.a, .int .i64 b.b, .int .i64 b.c, .int .i64 b.u, .int .i64 b.v, .int .i64 b.x] ∧ Has wr (w1.heap.size + 1) 63 (partV 4 b (b.x) (b.u) (b.v) m))
      case atStart => exact ⟨0, by decide, rfl, rfl, f1.out, f2.out, f3.out, f4.out⟩
      case round =>
        obtain ⟨m, hm3, hgn, rfl, z1, z2, z3, z4⟩ := hrel
        have hgk : gk = 3 - m := hgn
        have g1 := Lib.hid z1
        have g2 := Lib.hid z2
        have g3 := Lib.hid z3
        have g4 := Lib.hid z4
        clear hgn z1 z2 z3 z4
        obtain rfl | rfl | rfl | rfl : m = 0 ∨ m = 1 ∨ m = 2 ∨ m = 3 := by omega
        · have x4 := g4.out.cell
          have x4f := g4.out.frozen
          have x3 := g3.out.cell
          obtain ⟨p0, p1, p2, p3, p4, p5, p6⟩ := (hK.out _ g2.out).1.open_
          rw [hCv.out] at p3
          simp only [partV] at x4
          have h4 := Lib.hid (g4.out.put 4 (.int .i64 (b.x)))
          have h3 := Lib.hid (g3.out.far (p := ⟨w1.heap.size + 1, 4, none⟩) (by simp) (.int .i64 (b.x)))
          have h2 := Lib.hid (g2.out.setCell (p := ⟨w1.heap.size + 1, 4, none⟩) (by show w.heap.size ≤ w1.heap.size + 1; omega) (.int .i64 (b.x)))
          have h1 := Lib.hid (owns_putw (g := w1.heap.size + 1) (i := 4) (u := .int .i64 (b.x)) g1.out (by omega))
          go_wp2_with fail
          go_roundg (3 - 1)
          case measure => omega
          case rel => exact ⟨1, by decide, rfl, rfl, h1.out, h2.out, h3.out, h4.out⟩
        · have x4 := g4.out.cell
          have x4f := g4.out.frozen
          have x3 := g3.out.cell
          obtain ⟨p0, p1, p2, p3, p4, p5, p6⟩ := (hK.out _ g2.out).1.open_
          rw [hCv.out] at p3
          simp only [partV] at x4
          have h4 := Lib.hid (g4.out.put 5 (.int .i64 (b.u)))
          have h3 := Lib.hid (g3.out.far (p := ⟨w1.heap.size + 1, 5, none⟩) (by simp) (.int .i64 (b.u)))
          have h2 := Lib.hid (g2.out.setCell (p := ⟨w1.heap.size + 1, 5, none⟩) (by show w.heap.size ≤ w1.heap.size + 1; omega) (.int .i64 (b.u)))
          have h1 := Lib.hid (owns_putw (g := w1.heap.size + 1) (i := 5) (u := .int .i64 (b.u)) g1.out (by omega))
          go_wp2_with fail
          go_roundg (3 - 2)
          case measure => omega
          case rel => exact ⟨2, by decide, rfl, rfl, h1.out, h2.out, h3.out, h4.out⟩
        · have x4 := g4.out.cell
          have x4f := g4.out.frozen
          have x3 := g3.out.cell
          obtain ⟨p0, p1, p2, p3, p4, p5, p6⟩ := (hK.out _ g2.out).1.open_
          rw [hCv.out] at p3
          simp only [partV] at x4
          have h4 := Lib.hid (g4.out.put 6 (.int .i64 (b.v)))
          have h3 := Lib.hid (g3.out.far (p := ⟨w1.heap.size + 1, 6, none⟩) (by simp) (.int .i64 (b.v)))
          have h2 := Lib.hid (g2.out.setCell (p := ⟨w1.heap.size + 1, 6, none⟩) (by show w.heap.size ≤ w1.heap.size + 1; omega) (.int .i64 (b.v)))
          have h1 := Lib.hid (owns_putw (g := w1.heap.size + 1) (i := 6) (u := .int .i64 (b.v)) g1.out (by omega))
          go_wp2_with fail
          go_roundg (3 - 3)
          case measure => omega
          case rel => exact ⟨3, by decide, rfl, rfl, h1.out, h2.out, h3.out, h4.out⟩
        · have x4 := g4.out.cell
          obtain ⟨y0, y1, y2, y3, y4, y5, y6, yf⟩ := own_at g1.out hBs.out
          have hs4 := Lib.hid (own_store (b := ⟨4, b.a, 0, 0, b.x, b.u, b.v⟩) g1.out hBs.out)
          have hs5 := Lib.hid (below_store (b := ⟨4, b.a, 0, 0, b.x, b.u, b.v⟩) (o := (k + 1) * 7) g2.out hG)
          simp only [partV] at x4
          go_upto_region 23 with (fail)
          generalize (((((((wr.setCell ⟨G, (k + 1) * 7, none⟩ (.int .i64 4)).setCell ⟨G, (k + 1) * 7 + 1, none⟩ (.int .i64 b.a)).setCell ⟨G, (k + 1) * 7 + 2, none⟩ (.int .i64 0)).setCell ⟨G, (k + 1) * 7 + 3, none⟩ (.int .i64 0)).setCell ⟨G, (k + 1) * 7 + 4, none⟩ (.int .i64 b.x)).setCell ⟨G, (k + 1) * 7 + 5, none⟩ (.int .i64 b.u)).setCell ⟨G, (k + 1) * 7 + 6, none⟩ (.int .i64 b.v)) = W3 at hs4 hs5 ⊢
          clear y0 y1 y2 y3 y4 y5 y6 yf x4
          go_wp2_with fail
          go_ret
          rw [hR.out, hM.out]
          exact ownM hs4.out hs5.out
    · have hM := Lib.hid (hMv.out 2 (if_neg hb5))
      have g5 : (b.k == (5 : Int)) = false := by simpa using hb5
      clear hb5
      go_wp2_with fail
      clear g5
      generalize hWg : ((w1.alloc (.cells #[.int .i64 b.k, .int .i64 b.a, .int .i64 b.b, .int .i64 b.c, .int .i64 b.u, .int .i64 b.v, .int .i64 b.x] 63)).alloc (.cells #[.int .i64 2, .int .i64 b.a, .int .i64 0, .int .i64 0, .int .i64 0, .int .i64 0, .int .i64 0] 63)) = W2
      have e1 : W2.ownsRow w.heap.size 63 7 (.slice (some ⟨G, 0, none⟩) n c1) n (flat ps) := by rw [← hWg]; exact ho'.out
      have e2 : Below w.heap.size w W2 := by rw [← hWg]; exact hb1'.out
      have e3 : Has W2 w1.heap.size 63 #[.int .i64 b.k, .int .i64 b.a, .int .i64 b.b, .int .i64 b.c, .int .i64 b.u, .int .i64 b.v, .int .i64 b.x] := by rw [← hWg]; exact hT.out
      have e4 : Has W2 (w1.heap.size + 1) 63 (partV 2 b (b.x) (b.u) (b.v) 0) := by rw [← hWg]; exact hX.out
      have f1 := Lib.hid e1
      have f2 := Lib.hid e2
      have f3 := Lib.hid e3
      have f4 := Lib.hid e4
      clear e1 e2 e3 e4 hWg xx xt xf q0 q1 q2 q3 q4 q5 q6 hX hT ho'
      go_loopg [12] 3 (fun gn i wr => ∃ m : Nat, m ≤ 3 ∧ gn = 3 - m ∧ i = .int .i64 (m : Int) ∧ wr.ownsRow w.heap.size 63 7 (.slice (some ⟨G, 0, none⟩) n c1) n (flat ps) ∧ Below w.heap.size w wr ∧ Has wr w1.heap.size 63 #[.int .i64 b.k, .int .i64 b.a, .int .i64 b.b, .int .i64 b.c, .int .i64 b.u, .int .i64 b.v, .int .i64 b.x] ∧ Has wr (w1.heap.size + 1) 63 (partV 2 b (b.x) (b.u) (b.v) m))
      case atStart => exact ⟨0, by decide, rfl, rfl, f1.out, f2.out, f3.out, f4.out⟩
      case round =>
        obtain ⟨m, hm3, hgn, rfl, z1, z2, z3, z4⟩ := hrel
        have hgk : gk = 3 - m := hgn
        have g1 := Lib.hid z1
        have g2 := Lib.hid z2
        have g3 := Lib.hid z3
        have g4 := Lib.hid z4
        clear hgn z1 z2 z3 z4
        obtain rfl | rfl | rfl | rfl : m = 0 ∨ m = 1 ∨ m = 2 ∨ m = 3 := by omega
        · have x4 := g4.out.cell
          have x4f := g4.out.frozen
          have x3 := g3.out.cell
          obtain ⟨p0, p1, p2, p3, p4, p5, p6⟩ := (hK.out _ g2.out).1.open_
          rw [hCv.out] at p3
          simp only [partV] at x4
          have h4 := Lib.hid (g4.out.put 4 (.int .i64 (b.x)))
          have h3 := Lib.hid (g3.out.far (p := ⟨w1.heap.size + 1, 4, none⟩) (by simp) (.int .i64 (b.x)))
          have h2 := Lib.hid (g2.out.setCell (p := ⟨w1.heap.size + 1, 4, none⟩) (by show w.heap.size ≤ w1.heap.size + 1; omega) (.int .i64 (b.x)))
          have h1 := Lib.hid (owns_putw (g := w1.heap.size + 1) (i := 4) (u := .int .i64 (b.x)) g1.out (by omega))
          go_wp2_with fail
          go_roundg (3 - 1)
          case measure => omega
          case rel => exact ⟨1, by decide, rfl, rfl, h1.out, h2.out, h3.out, h4.out⟩
        · have x4 := g4.out.cell
          have x4f := g4.out.frozen
          have x3 := g3.out.cell
          obtain ⟨p0, p1, p2, p3, p4, p5, p6⟩ := (hK.out _ g2.out).1.open_
          rw [hCv.out] at p3
          simp only [partV] at x4
          have h4 := Lib.hid (g4.out.put 5 (.int .i64 (b.u)))
          have h3 := Lib.hid (g3.out.far (p := ⟨w1.heap.size + 1, 5, none⟩) (by simp) (.int .i64 (b.u)))
          have h2 := Lib.hid (g2.out.setCell (p := ⟨w1.heap.size + 1, 5, none⟩) (by show w.heap.size ≤ w1.heap.size + 1; omega) (.int .i64 (b.u)))
          have h1 := Lib.hid (owns_putw (g := w1.heap.size + 1) (i := 5) (u := .int .i64 (b.u)) g1.out (by omega))
          go_wp2_with fail
          go_roundg (3 - 2)
          case measure => omega
          case rel => exact ⟨2, by decide, rfl, rfl, h1.out, h2.out, h3.out, h4.out⟩
        · have x4 := g4.out.cell
          have x4f := g4.out.frozen
          have x3 := g3.out.cell
          obtain ⟨p0, p1, p2, p3, p4, p5, p6⟩ := (hK.out _ g2.out).1.open_
          rw [hCv.out] at p3
          simp only [partV] at x4
          have h4 := Lib.hid (g4.out.put 6 (.int .i64 (b.v)))
          have h3 := Lib.hid (g3.out.far (p := ⟨w1.heap.size + 1, 6, none⟩) (by simp) (.int .i64 (b.v)))
          have h2 := Lib.hid (g2.out.setCell (p := ⟨w1.heap.size + 1, 6, none⟩) (by show w.heap.size ≤ w1.heap.size + 1; omega) (.int .i64 (b.v)))
          have h1 := Lib.hid (owns_putw (g := w1.heap.size + 1) (i := 6) (u := .int .i64 (b.v)) g1.out (by omega))
          go_wp2_with fail
          go_roundg (3 - 3)
          case measure => omega
          case rel => exact ⟨3, by decide, rfl, rfl, h1.out, h2.out, h3.out, h4.out⟩
        · have x4 := g4.out.cell
          obtain ⟨y0, y1, y2, y3, y4, y5, y6, yf⟩ := own_at g1.out hBs.out
          have hs4 := Lib.hid (own_store (b := ⟨2, b.a, 0, 0, b.x, b.u, b.v⟩) g1.out hBs.out)
          have hs5 := Lib.hid (below_store (b := ⟨2, b.a, 0, 0, b.x, b.u, b.v⟩) (o := (k + 1) * 7) g2.out hG)
          simp only [partV] at x4
          go_upto_region 23 with (fail)
          generalize (((((((wr.setCell ⟨G, (k + 1) * 7, none⟩ (.int .i64 2)).setCell ⟨G, (k + 1) * 7 + 1, none⟩ (.int .i64 b.a)).setCell ⟨G, (k + 1) * 7 + 2, none⟩ (.int .i64 0)).setCell ⟨G, (k + 1) * 7 + 3, none⟩ (.int .i64 0)).setCell ⟨G, (k + 1) * 7 + 4, none⟩ (.int .i64 b.x)).setCell ⟨G, (k + 1) * 7 + 5, none⟩ (.int .i64 b.u)).setCell ⟨G, (k + 1) * 7 + 6, none⟩ (.int .i64 b.v)) = W3 at hs4 hs5 ⊢
          clear y0 y1 y2 y3 y4 y5 y6 yf x4
          go_wp2_with fail
          go_ret
          rw [hR.out, hM.out]
          exact ownM hs4.out hs5.out
end Go.Proofs.Ytkggejmamhakaaa
namespace Go.Proofs.Ytkggejmamhakaaa
set_option maxRecDepth 100000
set_option linter.unusedVariables false
open Go.RowKit
set_option maxHeartbeats 2000000 in
theorem l6Do_1 (g off n cap k : Nat) (ps : List St) (a b : St) (w : World) (h : Lst w w.heap.size (some ⟨g, off, none⟩) n ps) (hn : n ≤ 10) (ha : ps[k]? = some a) (hb : ps[k + 1]? = some b) (hoa : a.ok = true ∧ a.k < 6) (hob : b.ok = true ∧ b.k < 6) (hf : fits 1 a (some b) = true) :
    Calls Try.prog 58 #[.slice (some ⟨g, off, none⟩) n cap, .int .i64 1, .int .i64 (k : Int)] w (OwndM w (chDone 1 ps k)) := by
  have hL := h.1
  have hk1 : k + 1 < n := by have := (List.getElem?_eq_some_iff.1 hb).1; omega
  have cC := Lib.hid (l1Copy_lst g off n cap ps w h (by omega) (by omega))
  have hH := Lib.hid h
  have ka : ∀ wx, Below w.heap.size w wx → StAt wx g (off + k * 7) a ∧ StAt wx g (off + (k + 1) * 7) b := fun wx hx => by
    obtain ⟨g', off', e, hg, hc⟩ := (hH.out.below hx).2 (by omega)
    injection e with e
    injection e with e1 e2 _
    subst e1 e2
    exact ⟨hc k a ha, hc (k + 1) b hb⟩
  have hK := Lib.hid ka
  have i0 : (0 : Int) ≤ (k : Int) := by omega
  have i1 : (k : Int) < (n : Int) := by omega
  have i2 : (k : Int) + 1 < (n : Int) := by omega
  have hA := Lib.hid ha
  have hBs := Lib.hid hb
  have hR := Lib.hid (done_1 ha hb)
  have cPr := Lib.hid (fun wx => l6Product_any a b wx (ok_wsm hoa.1 hoa.2) (ok_wsm hob.1 hob.2))
  clear h ka ha hb hf hoa hob
  obtain ⟨i0', hi0, hz0, hz1', hz2'⟩ := info_parts info_stmt
  go_enter Try.func58, Try.ntmps58
  go_wp2_with fail
  refine cC.out.mono ?_
  rintro e w1 ⟨G, c1, rfl, ho, hG, hc1, hcm1, hb1⟩
  obtain ⟨p0, p1, p2, p3, p4, p5, p6⟩ := (hK.out _ hb1).1.open_
  obtain ⟨q0, q1, q2, q3, q4, q5, q6⟩ := (hK.out _ hb1).2.open_
  have ho' := Lib.hid ho
  have hb1' := Lib.hid hb1
  have j1 : (n : Int) ≤ (c1 : Int) := by omega
  have j2 : (k : Int) ≤ (c1 : Int) := by omega
  have j3 : (k : Int) < (c1 : Int) := by omega
  have j4 : (0 : Int) ≤ (k : Int) + 1 := by omega
  have j5 : ((k : Int) + 1).toNat = k + 1 := by omega
  have j6 : IntKind.i64.wrap ((k : Int) + 1) = (k : Int) + 1 := IntWalk.i64_in _ (by omega)
  have j7 : (k : Int) + 1 < (c1 : Int) := by omega
  clear ho hb1
  go_wp2_with fail
  go_region_law (first | (go_simp; go_at_call 91; refine (cPr.out _).mono ?_; rintro e w3 ⟨rfl, hb3⟩; have hO3 := owns_keep7 (by exact ho'.out) hb3; have hB3 : Below w.heap.size w w3 := (by first | exact hb1'.out.trans (hb3.mono hb1'.out.size) | exact hb1'.out.drew.trans (hb3.mono hb1'.out.size)); obtain ⟨y0, y1, y2, y3, y4, y5, y6, yf⟩ := own_at hO3 hA.out; clear hb3))
  all_goals
    have h4 := own_put1 (r := 4) (s' := ⟨a.k, a.a, a.b, a.c, a.u * b.u, a.v, a.x⟩) (u := .int .i64 (a.u * b.u)) hO3 hA.out (by decide) rfl
    have h5 := own_put1 (r := 5) (s' := ⟨a.k, a.a, a.b, a.c, a.u * b.u, a.v * b.v, a.x⟩) (u := .int .i64 (a.v * b.v)) h4 (set_at hA.out) (by decide) rfl
    have h6 := own_put1 (r := 6) (s' := folded a b) (u := .int .i64 (a.x * b.x)) h5 (set_at (set_at hA.out)) (by decide) rfl
    rw [List.set_set, List.set_set] at h6
    have hX6 := Lib.hid h6
    have hBz := Lib.hid (((hB3.setCell (p := ⟨G, k * 7 + 4, none⟩) hG (.int .i64 (a.u * b.u))).setCell (p := ⟨G, k * 7 + 5, none⟩) hG (.int .i64 (a.v * b.v))).setCell (p := ⟨G, k * 7 + 6, none⟩) hG (.int .i64 (a.x * b.x)))
    clear h4 h5 h6 hO3 hB3 y0 y1 y2 y3 y4 y5 y6 yf p0 p1 p2 p3 p4 p5 p6 q0 q1 q2 q3 q4 q5 q6
    generalize ((w3.setCell ⟨G, k * 7 + 4, none⟩ (.int .i64 (a.u * b.u))).setCell ⟨G, k * 7 + 5, none⟩ (.int .i64 (a.v * b.v))).setCell ⟨G, k * 7 + 6, none⟩ (.int .i64 (a.x * b.x)) = W6 at hX6 hBz ⊢
    have hql : (ps.set k (folded a b)).length = n := by rw [List.length_set]; exact hL
    generalize hqs : ps.set k (folded a b) = qs at *
    have htk : (qs.take (k + 1)).length = k + 1 := by rw [List.length_take]; omega
    have hdk : (qs.drop (k + 2)).length = n - (k + 2) := by rw [List.length_drop]; omega
    have hX6d := Lib.hid (show ∀ A9 : Addr, n ≤ k + 2 → ∀ j u, (flat (qs.drop (k + 2)))[j]? = some u → W6.cell? (A9.add j) = some u from fun A9 h0 j u hu => by
      rw [List.drop_eq_nil_of_le (by omega)] at hu
      simp [flat] at hu)
    have hX6e := Lib.hid (show ∀ j u, (flat (qs.drop (k + 2)))[j]? = some u → W6.cell? ((⟨G, (k + 2) * 7, none⟩ : Addr).add j) = some u from fun j u hu => by
      by_cases h0 : k + 2 < n
      · exact own_tail hX6.out h0 j u hu
      · exact hX6d.out _ (by omega) j u hu)
    have k1 : (k : Int) + 2 ≤ (n : Int) := by omega
    have k2 : (k : Int) + 2 ≤ (c1 : Int) := by omega
    have k3 : ((k : Int) + 2).toNat = k + 2 := by omega
    have k4 : IntKind.i64.wrap ((k : Int) + 2) = (k : Int) + 2 := IntWalk.i64_in _ (by omega)
    have k5 : (k : Int) + 1 ≤ (n : Int) := by omega
    have k6 : (k : Int) + 1 ≤ (c1 : Int) := by omega
    have k7 : (0 : Int) ≤ (k : Int) + 2 := by omega
    clear hqs
    obtain ⟨ad, had, hcs⟩ : ∃ ad : Addr, (if c1 = k + 2 then some ⟨G, 0, none⟩ else some ⟨G, (k + 2) * 7, none⟩) = some ad ∧ ∀ j u, (flat (qs.drop (k + 2)))[j]? = some u → W6.cell? (ad.add j) = some u := by
      by_cases hcj : c1 = k + 2
      · exact ⟨_, by rw [if_pos hcj], hX6d.out _ (by omega)⟩
      · exact ⟨_, by rw [if_neg hcj], hX6e.out⟩
    have hadh := Lib.hid had
    have hcsh := Lib.hid hcs
    clear had hcs
    go_wp2_with fail
    go_still_tail 8, (by kernel_rfl)
    repeat still_step
    try (refine wpStill_nil ?_)
    try (change wpList _ _ _ _ _ (World.drew _))
    rw [hadh.out]
    go_wp2_with (at_builtin; refine wpList_append_own _ rfl (.tmp 124) (.tmp 128) 23 rfl w.heap.size 63 i0' _ 7 56 Try.underlying23 hi0 hz0 hz1' hz2' rfl (by decide) (.slice (some ⟨G, 0, none⟩) (k + 1) c1) (k + 1) (flat (qs.take (k + 1))) rfl (by exact own_head hX6.out (by omega)) ad (n - (k + 2)) (c1 - (k + 2)) (flat (qs.drop (k + 2))) (by first | rfl | (simp [Act.eval]; try omega)) (by rw [flat_length, hdk]) (by exact hcsh.out) (flat_one _) (by unfold maxLen; omega) (by omega) (by exact hBz.out.size) ?_; intro v5 w5 hown5 hgrow5 _)
    have hX := app_own hown5 (by rw [List.length_append, htk, hdk]) hgrow5 (own_head hX6.out (show k + 1 ≤ n by omega)) (by first | exact hBz.out | exact hBz.out.drew) hBz.out.size
    obtain ⟨A5, c5, hv5, _, _⟩ := owns_form hown5
    subst hv5
    have hE := Lib.hid (show OwndM w (chDone 1 ps k) (.returned (.slice A5 (k + 1 + (n - (k + 2))) c5)) w5 from by rw [hR.out]; exact ⟨_, rfl, hX.1, hX.2⟩)
    clear hown5 hgrow5 hX
    go_wp2_with fail
    go_ret
    exact hE.out
end Go.Proofs.Ytkggejmamhakaaa
