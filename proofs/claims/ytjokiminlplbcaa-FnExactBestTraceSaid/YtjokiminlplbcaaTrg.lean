/- The program's tracerOf. -/
import Derived.Test.YtjokiminlplbcaaTrn
import Derived.Test.YtjokiminlplbcaaTrm
namespace Go.Proofs.Ytjokiminlplbcaa
set_option maxRecDepth 100000
set_option linter.unusedVariables false
open Go.RowKit

/-- How making a tracer ends. -/
def Trad (w : World) (ps : List St) (e : Ending) (w' : World) : Prop :=
  Below w.heap.size w w' ∧
  ((tracesOf ps = none ∧ e = .returned (.tuple #[.agg #[.slice none 0 0, .slice none 0 0, .slice none 0 0, .int .i64 0, .int .i64 0, .int .i64 0], .bool false])) ∨
   (∃ os A m c, unrolled ps = some os ∧ tracesOf ps = some (traces os) ∧ os.length = m ∧ m ≤ 12 ∧ os.all St.ok = true ∧ Lst w' w'.heap.size A m os ∧
     e = .returned (.tuple #[.agg #[.slice A m c, .slice none 0 0, .slice none 0 0, .int .i64 0, .int .i64 0, .int .i64 1], .bool true])))

set_option maxHeartbeats 1000000 in
theorem tracerOf_any (A : Option Addr) (n c : Nat) (ps : List St) (w : World) (h : Lst w w.heap.size A n ps) (hn : n ≤ c) (hc : c ≤ maxLen) :
    Calls Try.prog 57 #[.slice A n c] w (Trad w ps) := by
  have hC := Lib.hid (fun wx (hx : Lst wx wx.heap.size A n ps) => Unrolled_any A n c ps wx hx hn hc)
  have hD := Lib.hid (fun wx (hx : Lst wx wx.heap.size A n ps) => CountDraws_any A n c ps wx hx hn hc)
  have hH := Lib.hid h
  clear h hc
  have hG := Lib.hid (Has.new w 68 #[.slice none 0 0, .slice none 0 0, .slice none 0 0, .int .i64 0, .int .i64 0, .int .i64 0])
  have hb0 : Below w.heap.size w (w.alloc (.cells #[.slice none 0 0, .slice none 0 0, .slice none 0 0, .int .i64 0, .int .i64 0, .int .i64 0] 68)) := (Below.refl _ _).alloc (Nat.le_refl _) _
  cases hu : unrolled ps with
  | none =>
    have hU := Lib.hid hu
    have hR := Lib.hid (tracesOf_none hu)
    clear hu
    go_enter Try.func57, Try.ntmps57
    go_wp2_with fail
    refine (hC.out _ ((hH.out.below hb0).more hb0.size)).mono ?_
    rw [hU.out]
    rintro e w1 ⟨v, rfl, hown, hb⟩
    have hB := Lib.hid (hb0.trans (hb.mono hb0.size))
    have hG1 := (hG.out.kept hb)
    have hcg := hG1.cell
    have hfg := hG1.frozen
    have hG1' := Lib.hid hG1
    clear hown hb hb0 hG hG1
    go_wp2
    have hG2 := ((((((hG1'.out.put 0 (.slice none 0 0)).put 1 (.slice none 0 0)).put 2 (.slice none 0 0)).put 3 (.int .i64 0)).put 4 (.int .i64 0)).put 5 (.int .i64 0))
    have hB2 : Below w.heap.size w (((((((w1).setCell ⟨w.heap.size, 0, none⟩ (.slice none 0 0)).setCell ⟨w.heap.size, 1, none⟩ (.slice none 0 0)).setCell ⟨w.heap.size, 2, none⟩ (.slice none 0 0)).setCell ⟨w.heap.size, 3, none⟩ (.int .i64 0)).setCell ⟨w.heap.size, 4, none⟩ (.int .i64 0)).setCell ⟨w.heap.size, 5, none⟩ (.int .i64 0)) := by
      iterate 6 (refine Below.setCell ?_ (by simp) _)
      exact hB.out
    generalize ((((((w1).setCell ⟨w.heap.size, 0, none⟩ (.slice none 0 0)).setCell ⟨w.heap.size, 1, none⟩ (.slice none 0 0)).setCell ⟨w.heap.size, 2, none⟩ (.slice none 0 0)).setCell ⟨w.heap.size, 3, none⟩ (.int .i64 0)).setCell ⟨w.heap.size, 4, none⟩ (.int .i64 0)).setCell ⟨w.heap.size, 5, none⟩ (.int .i64 0) = W2 at hG2 hB2 ⊢
    have c2 := hG2.cell
    have f2 := hG2.frozen
    simp at c2
    refine bodyPost_ret (v := .tuple #[.agg #[.slice none 0 0, .slice none 0 0, .slice none 0 0, .int .i64 0, .int .i64 0, .int .i64 0], .bool false]) (by simp [results, Try.results57, go_sem, c2]) rfl ?_
    exact ⟨hB2, .inl ⟨hR.out, rfl⟩⟩
  | some os =>
    have hU := Lib.hid hu
    obtain ⟨_, hlen, _, hNL, hOK⟩ := unrolled_parts hu
    have hN := Lib.hid (show countDraws ps = ((os.filter St.draws).length : Nat) by unfold countDraws; rw [hu])
    have hOk := Lib.hid hOK
    have hfl : (os.filter St.draws).length ≤ os.length := List.length_filter_le _ _
    by_cases hd : (os.filter St.draws).length ≤ 6
    · have hR := Lib.hid (tracesOf_some hu hd)
      have hUu := Lib.hid hu
      clear hu hNL hOK
      go_enter Try.func57, Try.ntmps57
      go_wp2_with fail
      refine (hC.out _ ((hH.out.below hb0).more hb0.size)).mono ?_
      rw [hU.out]
      rintro e w1 ⟨v, rfl, hown, hb⟩
      replace hown : Own w1 _ v os := hown
      obtain ⟨A3, c3, rfl, hlc, hcm⟩ := hown.form
      have hO := Lib.hid hown
      have hB := Lib.hid (hb0.trans (hb.mono hb0.size))
      have hG1 := Lib.hid (hG.out.kept hb)
      have hL1 := Lib.hid ((hH.out.below hB.out).more hB.out.size)
      clear hown hb hb0 hG
      generalize hm : os.length = m at hlen hlc hfl ⊢
      have hM := Lib.hid hm
      replace hO := Lib.hid (show Own w1 _ (.slice A3 m c3) os from by rw [← hm]; exact hO.out)
      clear hm
      go_wp2_with fail
      refine (hD.out _ hL1.out).mono ?_
      rw [hN.out]
      rintro e w2 ⟨rfl, hb2⟩
      have hB2' := Lib.hid (hB.out.trans (hb2.mono hB.out.size))
      have hG2 := Lib.hid (hG1.out.kept hb2)
      have hO2 := Lib.hid (Own.below hO.out hb2)
      clear hb2 hO hG1 hL1 hB
      go_wp2_with fail
      refine (startRun_any _).mono ?_
      rintro e w3 ⟨rfl, hb3⟩
      have hB := Lib.hid (hB2'.out.trans (hb3.mono hB2'.out.size))
      have hG1 := (hG2.out.kept hb3)
      have hO3 := Lib.hid (Own.below hO2.out hb3)
      have hcg := hG1.cell
      have hfg := hG1.frozen
      have hG1' := Lib.hid hG1
      clear hb3 hO2 hG2 hG1 hB2'
      go_wp2
      have hG2 := ((((((hG1'.out.put 0 (.slice A3 m c3)).put 1 (.slice none 0 0)).put 2 (.slice none 0 0)).put 3 (.int .i64 0)).put 4 (.int .i64 0)).put 5 (.int .i64 1))
      have hB2 : Below w.heap.size w (((((((w3).setCell ⟨w.heap.size, 0, none⟩ (.slice A3 m c3)).setCell ⟨w.heap.size, 1, none⟩ (.slice none 0 0)).setCell ⟨w.heap.size, 2, none⟩ (.slice none 0 0)).setCell ⟨w.heap.size, 3, none⟩ (.int .i64 0)).setCell ⟨w.heap.size, 4, none⟩ (.int .i64 0)).setCell ⟨w.heap.size, 5, none⟩ (.int .i64 1)) := by
        iterate 6 (refine Below.setCell ?_ (by simp) _)
        exact hB.out
      have hO4 : Own (((((((w3).setCell ⟨w.heap.size, 0, none⟩ (.slice A3 m c3)).setCell ⟨w.heap.size, 1, none⟩ (.slice none 0 0)).setCell ⟨w.heap.size, 2, none⟩ (.slice none 0 0)).setCell ⟨w.heap.size, 3, none⟩ (.int .i64 0)).setCell ⟨w.heap.size, 4, none⟩ (.int .i64 0)).setCell ⟨w.heap.size, 5, none⟩ (.int .i64 1)) _ (.slice A3 m c3) os := owns_but hO3.out (((((((KeptBut.refl w3 (fun i => i = w.heap.size)).put (p := ⟨w.heap.size, 0, none⟩) (fun _ => rfl) (.slice A3 m c3)).put (p := ⟨w.heap.size, 1, none⟩) (fun _ => rfl) (.slice none 0 0)).put (p := ⟨w.heap.size, 2, none⟩) (fun _ => rfl) (.slice none 0 0)).put (p := ⟨w.heap.size, 3, none⟩) (fun _ => rfl) (.int .i64 0)).put (p := ⟨w.heap.size, 4, none⟩) (fun _ => rfl) (.int .i64 0)).put (p := ⟨w.heap.size, 5, none⟩) (fun _ => rfl) (.int .i64 1)) (fun k hk e => by
        obtain ⟨c1, h1⟩ := owns_has hO3.out hk
        exact has_ne h1 hG1'.out (by decide) e)
      generalize ((((((w3).setCell ⟨w.heap.size, 0, none⟩ (.slice A3 m c3)).setCell ⟨w.heap.size, 1, none⟩ (.slice none 0 0)).setCell ⟨w.heap.size, 2, none⟩ (.slice none 0 0)).setCell ⟨w.heap.size, 3, none⟩ (.int .i64 0)).setCell ⟨w.heap.size, 4, none⟩ (.int .i64 0)).setCell ⟨w.heap.size, 5, none⟩ (.int .i64 1) = W2 at hG2 hB2 hO4 ⊢
      have c2 := hG2.cell
      have f2 := hG2.frozen
      simp at c2
      refine bodyPost_ret (v := .tuple #[.agg #[.slice A3 m c3, .slice none 0 0, .slice none 0 0, .int .i64 0, .int .i64 0, .int .i64 1], .bool true]) (by simp [results, Try.results57, go_sem, c2]) rfl ?_
      exact ⟨hB2, .inr ⟨os, A3, m, c3, hUu.out, hR.out, hM.out, hlen, hOk.out, hO4.lst, rfl⟩⟩
    · have hR := Lib.hid (tracesOf_many hu (by omega))
      have hd' : 6 < (os.filter St.draws).length := by omega
      clear hu hNL hOK hd
      go_enter Try.func57, Try.ntmps57
      go_wp2_with fail
      refine (hC.out _ ((hH.out.below hb0).more hb0.size)).mono ?_
      rw [hU.out]
      rintro e w1 ⟨v, rfl, hown, hb⟩
      have hB := Lib.hid (hb0.trans (hb.mono hb0.size))
      have hG1 := Lib.hid (hG.out.kept hb)
      have hL1 := Lib.hid ((hH.out.below hB.out).more hB.out.size)
      clear hown hb hb0 hG
      go_wp2_with fail
      refine (hD.out _ hL1.out).mono ?_
      rw [hN.out]
      rintro e w2 ⟨rfl, hb2⟩
      have hB2' := Lib.hid (hB.out.trans (hb2.mono hB.out.size))
      have hG2 := (hG1.out.kept hb2)
      have hcg := hG2.cell
      have hfg := hG2.frozen
      have hG1' := Lib.hid hG2
      clear hb2 hG1 hL1 hB hG2
      have hB := hB2'
      clear hB2'
      go_wp2
      have hG2 := ((((((hG1'.out.put 0 (.slice none 0 0)).put 1 (.slice none 0 0)).put 2 (.slice none 0 0)).put 3 (.int .i64 0)).put 4 (.int .i64 0)).put 5 (.int .i64 0))
      have hB2 : Below w.heap.size w (((((((w2).setCell ⟨w.heap.size, 0, none⟩ (.slice none 0 0)).setCell ⟨w.heap.size, 1, none⟩ (.slice none 0 0)).setCell ⟨w.heap.size, 2, none⟩ (.slice none 0 0)).setCell ⟨w.heap.size, 3, none⟩ (.int .i64 0)).setCell ⟨w.heap.size, 4, none⟩ (.int .i64 0)).setCell ⟨w.heap.size, 5, none⟩ (.int .i64 0)) := by
        iterate 6 (refine Below.setCell ?_ (by simp) _)
        exact hB.out
      generalize ((((((w2).setCell ⟨w.heap.size, 0, none⟩ (.slice none 0 0)).setCell ⟨w.heap.size, 1, none⟩ (.slice none 0 0)).setCell ⟨w.heap.size, 2, none⟩ (.slice none 0 0)).setCell ⟨w.heap.size, 3, none⟩ (.int .i64 0)).setCell ⟨w.heap.size, 4, none⟩ (.int .i64 0)).setCell ⟨w.heap.size, 5, none⟩ (.int .i64 0) = W2 at hG2 hB2 ⊢
      have c2 := hG2.cell
      have f2 := hG2.frozen
      simp at c2
      refine bodyPost_ret (v := .tuple #[.agg #[.slice none 0 0, .slice none 0 0, .slice none 0 0, .int .i64 0, .int .i64 0, .int .i64 0], .bool false]) (by simp [results, Try.results57, go_sem, c2]) rfl ?_
      exact ⟨hB2, .inl ⟨hR.out, rfl⟩⟩
end Go.Proofs.Ytjokiminlplbcaa
