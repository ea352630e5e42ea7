/- Diagrams: the program's DiagramList. -/
import Derived.Test.YtghkpmafocacoaaO5
namespace Go.Proofs.Ytghkpmafocacoaa
set_option maxRecDepth 100000
set_option linter.unusedVariables false
open Go.RowKit

/-- What DiagramList tells. -/
def dlistOf (ds : List Ce) : List Int := if diaOk ds = true then dlist ds else []
theorem dlist_length (ds : List Ce) : (dlist ds).length = 81 := by unfold dlist; simp
theorem dlist_get (ds : List Ce) {k : Nat} (h : k < 81) : (dlist ds)[k]? = some (dnum ds k) := by
  unfold dlist
  rw [List.getElem?_map, List.getElem?_range h]; rfl
theorem DiagramList_any (A : Option Addr) (n c : Nat) (ds : List Ce) (w : World) (h : CLst w w.heap.size A n ds) (hn : n ≤ maxLen) (hc : c ≤ maxLen) (hnc : n ≤ c) :
    Calls Try.prog 23 #[.slice A n c] w fun e w' => ∃ v, e = .returned v ∧ IOwn w' w.heap.size v (dlistOf ds) ∧ Below w.heap.size w w' := by
  have cD := Lib.hid (DiagramOk_any A n c ds w h hn hc hnc)
  have hH := Lib.hid h
  have hL := h.1
  clear h
  cases hd : diaOk ds
  · have hR := Lib.hid (show dlistOf ds = [] by unfold dlistOf; rw [hd]; rfl)
    rw [hd] at cD
    clear hd hL hn hc hnc
    go_enter Try.func23, Try.ntmps23
    go_wp2_with fail
    refine cD.out.mono ?_
    rintro e w1 ⟨rfl, hb⟩
    have hB := Lib.hid hb
    clear hb
    go_wp2_with fail
    go_ret
    exact ⟨_, rfl, by rw [hR.out]; exact IOwn.nil _ _, hB.out⟩
  · have hR := Lib.hid (show dlistOf ds = dlist ds by unfold dlistOf; rw [hd]; rfl)
    rw [hd] at cD
    obtain ⟨d1, d2, d3⟩ := dia_parts hd
    have cN := Lib.hid (fun (z : Nat) (hz : z < 81) (wx : World) (hx : CLst wx wx.heap.size A n ds) => numberLedTo_any A n c z ds wx hx (by omega) (by omega) (up_of d3) (by omega))
    have hG := Lib.hid (fun (k : Nat) (h : k < 81) => dlist_get ds h)
    have hdl := Lib.hid (dlist_length ds)
    generalize dlist ds = os at *
    clear hd d1 d2 d3 hL hn hc hnc
    obtain ⟨i0, hi0, hz0, hz1', hz2'⟩ := info_parts info_int
    have hmk : ∀ wx : World, (Instr.makeSlice 31 (.int .i64 81) (.int .i64 81)).run Try.prog wx = .ok (.slice (some ⟨wx.heap.size, 0, none⟩) 81 81) (wx.alloc (.cells (madeCells #[Value.int .i64 0] 81) 3)) := by
      intro wx
      have hr := run_make (P := Try.prog) wx 31 3 i0 _ Try.underlying31 hi0 hz0 .i64 .i64 81 81 (by omega) (by omega) (by rw [hz2']; omega) (by omega)
      rw [hz1'] at hr
      exact hr
    go_enter Try.func23, Try.ntmps23
    go_wp2_with fail
    refine cD.out.mono ?_
    rintro e w1 ⟨rfl, hb⟩
    have hB1 := Lib.hid (hb.alloc hb.size (.cells (madeCells #[Value.int .i64 0] 81) 3))
    have hh1 := Lib.hid (Has.new w1 3 (madeCells #[.int .i64 0] 81))
    have hf1 := Lib.hid (show IFill (madeCells #[.int .i64 0] 81) os 81 0 from ⟨size_madeCells _ _, fun i s hi => absurd hi (by omega)⟩)
    have hz1 := hb.size
    clear hb
    go_wp2_with fail
    clear hmk
    generalize w1.alloc (.cells (madeCells #[Value.int .i64 0] 81) 3) = W1 at hB1 hh1 ⊢
    generalize w1.heap.size = g1 at hh1 hz1 ⊢
    go_loopw [11] (fun i wr => ∃ (k : Nat) (cs : Array Value), k ≤ 81 ∧ i = .int .i64 k ∧ Has wr g1 3 cs ∧ IFill cs os 81 k ∧ Below w.heap.size w wr) (fun i _ => 81 - (intOf i).toNat)
    case atStart => exact ⟨0, _, Nat.zero_le _, rfl, hh1.out, hf1.out, hB1.out⟩
    case round =>
      obtain ⟨k, cs, hk, rfl, hhas, hfill, hb⟩ := hrel
      have hHas := Lib.hid hhas
      have hFill := Lib.hid hfill
      have hB := Lib.hid hb
      have hzr := hb.size
      by_cases hlt : k < 81
      · obtain ⟨u0, e0⟩ : ∃ u, wr.cell? ⟨g1, k, none⟩ = some u := ⟨_, (hhas.cell k).trans (Array.getElem?_eq_getElem (by rw [hfill.1]; exact hlt))⟩
        have f0 := hhas.frozen k
        have hS := Lib.hid (hG.out k hlt)
        have cK := Lib.hid (fun (wx : World) => cN.out k hlt wx)
        have hHr := Lib.hid ((hH.out.below hb).more hzr)
        have hk0 : (0 : Int) ≤ (k : Int) := by omega
        have hk1 : (k : Int) < 81 := by omega
        clear hhas hfill hb
        generalize dnum ds k = d at *
        go_wp2_with fail
        refine (cK.out _ hHr.out).mono ?_
        rintro e w2 ⟨rfl, m, rfl⟩
        have e1 : (wr.drewN m).cell? ⟨g1, k, none⟩ = some u0 := e0
        have f1 : (wr.drewN m).frozen? ⟨g1, k, none⟩ = false := f0
        have hN := Lib.hid ((hHas.out.drewN m).put k (.int .i64 d))
        have hBn := Lib.hid ((below_drewN hB.out m).setCell (p := ⟨g1, k, none⟩) hz1 (.int .i64 d))
        generalize wr.drewN m = w3 at e1 f1 hN hBn ⊢
        clear e0 f0
        go_wp2_with fail
        go_roundw
        case rel => exact ⟨k + 1, _, by omega, by go_num, hN.out, hFill.out.step hS.out hlt, hBn.out⟩
        case measure => (simp [intOf]; try omega)
      · obtain rfl : k = 81 := by omega
        have hD := Lib.hid (hFill.out.done hdl.out)
        clear hhas hfill hb
        go_wp2_with fail
        go_ret
        exact ⟨_, rfl, by rw [hR.out]; exact IOwn.of_has hHas.out hD.out hdl.out hz1 (by unfold maxLen; omega), hB.out⟩
end Go.Proofs.Ytghkpmafocacoaa
