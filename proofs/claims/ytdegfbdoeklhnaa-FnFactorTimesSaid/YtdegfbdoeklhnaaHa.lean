/- Factors: drawn: DrawFactorTimes. -/
import Derived.Test.YtdegfbdoeklhnaaGq
import Derived.Test.YtdegfbdoeklhnaaRd
namespace Go.Proofs.Ytdegfbdoeklhnaa
set_option maxRecDepth 100000
set_option linter.unusedVariables false
open Go.RowKit

theorem FcV.chg {w w' : World} {base R : Nat} {v1 v2 : Value} {F : Fac} (h : FcV w base v1 v2 F) (hc : Chg w w' R) (hR : R < base) : FcV w' base v1 v2 F := ⟨owns_chgD h.1 hc hR, owns_chgD h.2.1 hc hR, h.2.2⟩
theorem FcV.alloc {w : World} {base : Nat} {v1 v2 : Value} {F : Fac} (h : FcV w base v1 v2 F) (o : Obj) : FcV (w.alloc o) base v1 v2 F := ⟨h.1.alloc o, h.2.1.alloc o, h.2.2⟩
/-- Two drawn factors. -/
def Two (w : World) (e : Ending) (w' : World) : Prop :=
  ∃ (a1 a2 b1 b2 : Value) (F H : Fac), e = .returned (.tuple #[.agg #[a1, a2], .agg #[b1, b2]]) ∧ FcV w' w.heap.size a1 a2 F ∧ FcV w' w.heap.size b1 b2 H ∧ F.vs.length ≤ 5 ∧ F.ns.length ≤ 82 ∧ H.vs.length ≤ 5 ∧ H.ns.length ≤ 82 ∧ Below w.heap.size w w'
set_option maxHeartbeats 1000000 in
theorem DrawFactorTimes_any (A : Option Addr) (n c : Nat) (w : World) (h : Byt w w.heap.size A n) (hn : n ≤ c) (hc : c ≤ maxLen) :
    Calls Try.prog 48 #[.slice A n c] w (Two w) := by
  have hB0 : Below w.heap.size w ((w.alloc (.cells #[.slice none 0 0, .slice none 0 0] 27)).alloc (.cells #[.slice none 0 0, .slice none 0 0] 27)) := ((Below.refl _ _).alloc (Nat.le_refl _) _).alloc (by simp) _
  have hx := Lib.hid ((Has.new w 27 #[.slice none 0 0, .slice none 0 0]).alloc (.cells #[.slice none 0 0, .slice none 0 0] 27))
  have hy := Lib.hid (Has.newAt (w := w.alloc (.cells #[.slice none 0 0, .slice none 0 0] 27)) (n := w.heap.size + 1) (t := 27) (cs := #[.slice none 0 0, .slice none 0 0]) (by simp))
  have hO := Lib.hid (l40Open_any A n c _ ((h.keep hB0).more hB0.size) hn hc)
  have hB := Lib.hid hB0
  have hz0 : ((w.alloc (.cells #[.slice none 0 0, .slice none 0 0] 27)).alloc (.cells #[.slice none 0 0, .slice none 0 0] 27)).heap.size = w.heap.size + 2 := by simp
  clear hB0 h hc
  go_enter Try.func48, Try.ntmps48
  go_wp2_with fail
  generalize (w.alloc (.cells #[.slice none 0 0, .slice none 0 0] 27)).alloc (.cells #[.slice none 0 0, .slice none 0 0] 27) = W0 at hx hy hO hB hz0 ⊢
  refine (hO.out).mono ?_
  rintro e w1 ⟨rfl, ⟨n', hn', hr1⟩, hb1⟩
  have hz1 := hr1.lt
  have hx1 := hx.out.kept hb1
  have hy1 := hy.out.kept hb1
  have hB1 := hB.out.trans (hb1.mono hB.out.size)
  clear hO hx hy hB hb1
  go_wp2_with fail
  rw [hz0] at hr1 hz1
  refine (l8Any_any (w.heap.size + 2) A n' c 0 (w.heap.size + 2) w1 hr1 (by omega) hn' (by omega)).mono ?_
  rintro e w2 ⟨a1, a2, F, p2, rfl, hV, hl1, hl2, hl3, hp2, hr2, hc2⟩
  have hz2 := hc2.size
  obtain ⟨A1, e1, rfl, _, _⟩ := hV.1.form
  obtain ⟨A2, e2, rfl, _, _⟩ := hV.2.1.form
  go_wp2_with fail
  refine (l8Any_any (w.heap.size + 2) A n' c p2 (w.heap.size + 2) w2 hr2 (by omega) hn' (by omega)).mono ?_
  rintro e w3 ⟨b1, b2, H, p3, rfl, hU, hm1, hm2, hm3, hp3, hr3, hc3⟩
  have hz3 := hc3.size
  obtain ⟨B1, k1, rfl, _, _⟩ := hU.1.form
  obtain ⟨B2, k2, rfl, _, _⟩ := hU.2.1.form
  have hV3 := Lib.hid ((hV.chg hc3 hz1).le (base' := w.heap.size) (by omega))
  have hU3 := Lib.hid (hU.le (base' := w.heap.size) (by omega))
  have hC := hc2.trans hc3
  have hx3 := hx1.chg hC (by omega)
  have hy3 := hy1.chg hC (by omega)
  have hB3 := hB1.trans (hC.below (B := w.heap.size) (by omega) (by omega))
  have cx := hx3.cell
  have fx := hx3.frozen
  have hxp := hx3.put 0 (.slice A1 F.vs.length e1)
  have hx4 := hxp.put 1 (.slice A2 F.ns.length e2)
  have cx1 := hxp.cell
  have fx1 := hxp.frozen
  have hy4 := (hy3.far (p := ⟨w.heap.size, 0, none⟩) (by show w.heap.size + 1 ≠ w.heap.size; omega) (.slice A1 F.vs.length e1)).far (p := ⟨w.heap.size, 1, none⟩) (by show w.heap.size + 1 ≠ w.heap.size; omega) (.slice A2 F.ns.length e2)
  have cy := hy4.cell
  have fy := hy4.frozen
  have hyp := hy4.put 0 (.slice B1 H.vs.length k1)
  have cy1 := hyp.cell
  have fy1 := hyp.frozen
  have hy5 := hyp.put 1 (.slice B2 H.ns.length k2)
  have hx5 := (hx4.far (p := ⟨w.heap.size + 1, 0, none⟩) (by show w.heap.size ≠ w.heap.size + 1; omega) (.slice B1 H.vs.length k1)).far (p := ⟨w.heap.size + 1, 1, none⟩) (by show w.heap.size ≠ w.heap.size + 1; omega) (.slice B2 H.ns.length k2)
  have hV5 := Lib.hid ((hV3.out.put2 hx3 (.slice A1 F.vs.length e1) (.slice A2 F.ns.length e2)).put2 hy4 (.slice B1 H.vs.length k1) (.slice B2 H.ns.length k2))
  have hU5 := Lib.hid ((hU3.out.put2 hx3 (.slice A1 F.vs.length e1) (.slice A2 F.ns.length e2)).put2 hy4 (.slice B1 H.vs.length k1) (.slice B2 H.ns.length k2))
  have hB5 := Lib.hid ((((hB3.setCell (p := ⟨w.heap.size, 0, none⟩) (Nat.le_refl _) (.slice A1 F.vs.length e1)).setCell (p := ⟨w.heap.size, 1, none⟩) (Nat.le_refl _) (.slice A2 F.ns.length e2)).setCell (p := ⟨w.heap.size + 1, 0, none⟩) (Nat.le_succ _) (.slice B1 H.vs.length k1)).setCell (p := ⟨w.heap.size + 1, 1, none⟩) (Nat.le_succ _) (.slice B2 H.ns.length k2))
  have hp1 := hx5.cell 0
  have hp2' := hx5.cell 1
  have hp3' := hy5.cell 0
  have hp4 := hy5.cell 1
  go_wp2_with fail
  refine bodyPost_ret (v := .tuple #[.agg #[.slice A1 F.vs.length e1, .slice A2 F.ns.length e2], .agg #[.slice B1 H.vs.length k1, .slice B2 H.ns.length k2]]) (by simp [results, Try.results48, go_sem, hp1, hp2', hp3', hp4]) rfl ⟨_, _, _, _, F, H, rfl, hV5.out, hU5.out, hl1, hl2, hm1, hm2, hB5.out⟩
end Go.Proofs.Ytdegfbdoeklhnaa
