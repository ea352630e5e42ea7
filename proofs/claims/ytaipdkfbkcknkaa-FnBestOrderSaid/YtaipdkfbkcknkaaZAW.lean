/- Parts of the proof: KO, OpB. -/
import Derived.Test.YtaipdkfbkcknkaaZAT
import Derived.Test.YtaipdkfbkcknkaaZAV
import Derived.Test.YtaipdkfbkcknkaaZAU
import Derived.Test.YtaipdkfbkcknkaaZAC
import Derived.Test.YtaipdkfbkcknkaaZAA
namespace Go.Proofs.Ytaipdkfbkcknkaa
set_option maxRecDepth 100000
set_option linter.unusedVariables false
open Go.RowKit
def bestSay (g : Gr) : Bool := decide (g.wid g.best ≤ g.wid g.greedy) && (decide (g.wid g.best ≤ g.wid [0, 1, 2, 3]) && (decide (1 ≤ g.wid g.best) && (orderOk (nats g.greedy) && (decide (g.greedy.length = 4) && (orderOk (nats g.best) && decide (g.best.length = 4))))))
theorem best_says (g : Gr) : bestSay g = true := gr_all (P := fun g => bestSay g = true) (by decide +kernel) g
theorem best_widths {Fs : List Fac} (h : listOk Fs = true) : widthTo Fs (bestTo Fs) ≤ widthTo Fs (greedyTo Fs) ∧ widthTo Fs (bestTo Fs) ≤ widthTo Fs [0, 1, 2, 3] ∧ 1 ≤ widthTo Fs (bestTo Fs) ∧ orderOk (greedyTo Fs) = true ∧ (greedyTo Fs).length = 4 := by
  have hs := best_says (grS (setsF Fs))
  unfold bestSay at hs
  rw [Bool.and_eq_true, Bool.and_eq_true, Bool.and_eq_true, Bool.and_eq_true, Bool.and_eq_true, Bool.and_eq_true] at hs
  obtain ⟨h1, h2, h3, h4, h5, h6, h7⟩ := hs
  have e1 : bestTo Fs = nats (grS (setsF Fs)).best := by unfold bestTo; rw [if_pos h]
  have e2 : greedyTo Fs = nats (grS (setsF Fs)).greedy := by unfold greedyTo; rw [if_pos h]
  have q1 : widthTo Fs (nats (grS (setsF Fs)).best) = (((grS (setsF Fs)).wid (grS (setsF Fs)).best : Nat) : Int) := by unfold widthTo; rw [if_pos ⟨h, h6⟩, natsOf_nats]
  have q2 : widthTo Fs (nats (grS (setsF Fs)).greedy) = (((grS (setsF Fs)).wid (grS (setsF Fs)).greedy : Nat) : Int) := by unfold widthTo; rw [if_pos ⟨h, h4⟩, natsOf_nats]
  have q3 : widthTo Fs [0, 1, 2, 3] = (((grS (setsF Fs)).wid [0, 1, 2, 3] : Nat) : Int) := by
    have : orderOk [0, 1, 2, 3] = true := by decide +kernel
    unfold widthTo
    rw [if_pos ⟨h, this⟩]
    rfl
  rw [e1, e2, q1, q2, q3]
  have g1 := of_decide_eq_true h1
  have g2 := of_decide_eq_true h2
  have g3 := of_decide_eq_true h3
  have g5 := of_decide_eq_true h5
  refine ⟨by omega, by omega, by omega, h4, ?_⟩
  unfold nats
  rw [List.length_map, g5]
theorem best_none {Fs : List Fac} (h : listOk Fs = false) : bestTo Fs = [] ∧ greedyTo Fs = [] := by
  unfold bestTo greedyTo
  rw [h]
  exact ⟨rfl, rfl⟩
end Go.Proofs.Ytaipdkfbkcknkaa

namespace Go.Proofs.Ytaipdkfbkcknkaa
set_option maxRecDepth 100000
open Go.ChangeShapes Go.WideShapes Go.ChangeAt Go.RowKit Go.Deep
set_option maxRecDepth 100000 in
theorem open_bytes {H : Type} {enc : TypeId × Value → H} {w : World} {b0 : Nat} {r : Reach} {v : Value} {d : DataW H} {p : List MemPlace} (hv : Value.okWide Try.prog w r b0 47 v) (h : DataW.Trod enc Try.prog w 0 (fun _ => true) true 47 v d p) :
    ∃ (A : Option Addr) (n c : Nat), v = .slice A n c ∧ n ≤ c ∧ c ≤ maxLen ∧ Byt w w.heap.size A n := by
  obtain ⟨A, n, c, rfl⟩ := okWide_slice Try.underlying47 hv
  obtain ⟨fuel, hf⟩ := h
  rcases open_ints Try.underlying47 Try.underlying5 (by kernel_rfl) hf with ⟨hcs, _⟩ | ⟨x, l, c', zs, hcs, _, hl, hm, hz, _, hcell, hwz⟩
  · simp [Value.cells] at hcs
    obtain ⟨rfl, rfl, rfl⟩ := hcs
    exact ⟨none, 0, 0, rfl, Nat.le_refl _, by simp [maxLen], fun h => absurd h (by omega)⟩
  · simp [Value.cells] at hcs
    obtain ⟨rfl, rfl, rfl⟩ := hcs
    refine ⟨some x, n, c, rfl, hl, hm, fun hn => ?_⟩
    have hz' : zs.length = c := by simpa using hz
    obtain ⟨g, off, spot⟩ := x
    have h0 := hcell 0 (by omega)
    have hspot : spot = none := by simpa [Addr.add] using World.cell?_spot h0
    subst hspot
    have hlt := World.block_lt_of_cell? w _ h0
    refine ⟨g, off, rfl, by simpa [Addr.add] using hlt, fun i hi => ?_⟩
    have hi' : i < zs.length := by omega
    have hw := hwz (zs.getD i 0) (by rw [List.getD_eq_getElem?_getD, List.getElem?_eq_getElem hi']; exact List.getElem_mem hi')
    have hbd := bounds_u8 hw
    refine ⟨zs.getD i 0, ?_, hbd.1, hbd.2⟩
    rw [← hcell i hi']
    congr 1
    unfold Addr.add
    split
    · (rename_i h0; simp; try omega)
    · (simp; try omega)
end Go.Proofs.Ytaipdkfbkcknkaa
