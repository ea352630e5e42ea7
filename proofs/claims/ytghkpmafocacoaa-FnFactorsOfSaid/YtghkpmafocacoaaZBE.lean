/- Parts of the proof: Hb, OpB. -/
import Derived.Test.YtghkpmafocacoaaZAI
import Derived.Test.YtghkpmafocacoaaZAM
import Derived.Test.YtghkpmafocacoaaZAP
import Derived.Test.YtghkpmafocacoaaZAK
import Derived.Test.YtghkpmafocacoaaZAH
namespace Go.Proofs.Ytghkpmafocacoaa
set_option maxRecDepth 100000
set_option linter.unusedVariables false
open Go.RowKit
set_option maxHeartbeats 2000000 in
theorem wcFactor_any (A1 A2 B1 B2 : Option Addr) (n1 c1 n2 c2 m1 k1 m2 k2 : Nat) (F : Fac) (w : World) (h : FacW w w.heap.size A1 n1 A2 n2 F) (g : FacW w w.heap.size B1 m1 B2 m2 F) (hn1 : n1 ≤ maxLen) (hn2 : n2 ≤ maxLen) (hm1 : m1 ≤ maxLen) (hm2 : m2 ≤ maxLen) :
    Calls Try.prog 63 #[.agg #[.slice A1 n1 c1, .slice A2 n2 c2], .agg #[.slice B1 m1 k1, .slice B2 m2 k2]] w fun e w' => e = .returned (.bool true) ∧ Below w.heap.size w w' := by
  have hB0 : Below w.heap.size w ((w.alloc (.cells #[.slice A1 n1 c1, .slice A2 n2 c2] 56)).alloc (.cells #[.slice B1 m1 k1, .slice B2 m2 k2] 56)) := ((Below.refl _ _).alloc (Nat.le_refl _) _).alloc (by simp) _
  have hf := Lib.hid ((Has.new w 56 #[.slice A1 n1 c1, .slice A2 n2 c2]).alloc (.cells #[.slice B1 m1 k1, .slice B2 m2 k2] 56))
  have hg := Lib.hid (Has.newAt (w := w.alloc (.cells #[.slice A1 n1 c1, .slice A2 n2 c2] 56)) (n := w.heap.size + 1) (t := 56) (cs := #[.slice B1 m1 k1, .slice B2 m2 k2]) (by simp))
  have hF0 := Lib.hid (h.below hB0)
  have hH0 := Lib.hid (g.below hB0)
  have hB := Lib.hid hB0
  have c0 := hf.out.cell
  have c1' := hg.out.cell
  clear h g hB0
  go_enter Try.func63, Try.ntmps63
  go_wp2_with fail
  generalize (w.alloc (.cells #[.slice A1 n1 c1, .slice A2 n2 c2] 56)).alloc (.cells #[.slice B1 m1 k1, .slice B2 m2 k2] 56) = W0 at hf hg hF0 hH0 hB c0 c1' ⊢
  refine (wcInts_any A1 B1 n1 m1 c1 k1 F.vs F.vs _ hF0.out.1 hH0.out.1 hn1 hm1).mono ?_
  rw [decide_eq_true rfl]
  rintro e w1 ⟨rfl, q1, rfl⟩
  have hb1 : Below W0.heap.size W0 (W0.drewN q1) := below_drewN (Below.refl _ _) q1
  have d0 := (hf.out.kept hb1).cell
  have d1 := (hg.out.kept hb1).cell
  have hF1 := Lib.hid (hF0.out.below hb1)
  have hH1 := Lib.hid (hH0.out.below hb1)
  have hB1 := hB.out.trans (hb1.mono hB.out.size)
  clear hf hg hF0 hH0 hB c0 c1' hb1
  generalize W0.drewN q1 = W1 at d0 d1 hF1 hH1 hB1 ⊢
  go_wp2_with fail
  refine (wcInts_any A2 B2 n2 m2 c2 k2 F.ns F.ns _ hF1.out.2 hH1.out.2 hn2 hm2).mono ?_
  rw [decide_eq_true rfl]
  rintro e w2 ⟨rfl, q2, rfl⟩
  have hB2 : Below w.heap.size w (W1.drewN q2) := below_drewN hB1 q2
  go_wp2_with fail
  go_ret
  exact ⟨rfl, hB2⟩
end Go.Proofs.Ytghkpmafocacoaa

namespace Go.Proofs.Ytghkpmafocacoaa
set_option maxRecDepth 100000
open Go.ChangeShapes Go.WideShapes Go.ChangeAt Go.RowKit Go.Deep
set_option maxRecDepth 100000 in
theorem open_bytes {H : Type} {enc : TypeId × Value → H} {w : World} {b0 : Nat} {r : Reach} {v : Value} {d : DataW H} {p : List MemPlace} (hv : Value.okWide Try.prog w r b0 43 v) (h : DataW.Trod enc Try.prog w 0 (fun _ => true) true 43 v d p) :
    ∃ (A : Option Addr) (n c : Nat), v = .slice A n c ∧ n ≤ c ∧ c ≤ maxLen ∧ Byt w w.heap.size A n := by
  obtain ⟨A, n, c, rfl⟩ := okWide_slice Try.underlying43 hv
  obtain ⟨fuel, hf⟩ := h
  rcases open_ints Try.underlying43 Try.underlying5 (by kernel_rfl) hf with ⟨hcs, _⟩ | ⟨x, l, c', zs, hcs, _, hl, hm, hz, _, hcell, hwz⟩
  · simp [Value.cells] at hcs
    obtain ⟨rfl, rfl, rfl⟩ := hcs
    exact ⟨none, 0, 0, rfl, Nat.le_refl _, by simp [maxLen], fun h => absurd h (by omega)⟩
  · simp [Value.cells] at hcs
    obtain ⟨rfl, rfl, rfl⟩ := hcs
    refine ⟨some x, n, c, rfl, hl, hm, fun hn => ?_⟩
    have hz' : zs.length = c := by simpa using hz
    obtain ⟨g, off, spot⟩ := x
    have h0 := hcell 0 (by omega)
    have hspot : spot = none := by simpa [Addr.add] using World.cell?_spot h0
    subst hspot
    have hlt := World.block_lt_of_cell? w _ h0
    refine ⟨g, off, rfl, by simpa [Addr.add] using hlt, fun i hi => ?_⟩
    have hi' : i < zs.length := by omega
    have hw := hwz (zs.getD i 0) (by rw [List.getD_eq_getElem?_getD, List.getElem?_eq_getElem hi']; exact List.getElem_mem hi')
    have hbd := bounds_u8 hw
    refine ⟨zs.getD i 0, ?_, hbd.1, hbd.2⟩
    rw [← hcell i hi']
    congr 1
    unfold Addr.add
    split
    · (rename_i h0; simp; try omega)
    · (simp; try omega)
end Go.Proofs.Ytghkpmafocacoaa
