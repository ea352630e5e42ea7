/- The program's RunTrace. The model's RunTrace. -/
import Derived.Test.YtbjpodgmmpchjaaSp
import Derived.Test.YtbjpodgmmpchjaaTrv
import Derived.Test.YtbjpodgmmpchjaaNm
import Derived.Test.YtbjpodgmmpchjaaRd
import Derived.StillTailTactics
import Derived.Test.YtbjpodgmmpchjaaTs
namespace Go.Proofs.Ytbjpodgmmpchjaa
set_option maxRecDepth 100000
set_option linter.unusedVariables false
open Go.RowKit

/-- How a run ends that is told. -/
def RTd (w : World) (o : Option (Int × Int)) (e : Ending) (w' : World) : Prop :=
  e = .returned (.tuple #[.int .i64 (o.getD (0, 0)).1, .int .i64 (o.getD (0, 0)).2, .bool o.isSome]) ∧ Below w.heap.size w w'
theorem RTd.no {w w' : World} {o : Option (Int × Int)} (h : o = none) (hb : Below w.heap.size w w') : RTd w o (.returned (.tuple #[.int .i64 0, .int .i64 0, .bool false])) w' := by
  subst h; exact ⟨rfl, hb⟩
theorem RTd.yes {w w' : World} {o : Option (Int × Int)} {a b : Int} (h : o = some (a, b)) (hb : Below w.heap.size w w') : RTd w o (.returned (.tuple #[.int .i64 a, .int .i64 b, .bool true])) w' := by
  subst h; exact ⟨rfl, hb⟩

/-- How far a run in memory has come. -/
def posAt (w : World) (g : Nat) : Nat := (intOf (cellOr w ⟨g, 0, none⟩)).toNat
theorem posAt_of {w : World} {g p : Nat} {t : TypeId} {a b : Value} (h : Has w g t #[.int .i64 p, a, b]) : posAt w g = p := by
  unfold posAt cellOr
  rw [h.cell 0]
  simp [intOf]
theorem Rn.pos_lt (s : St) (r : Rn) (x : Int) : r.pos < (Rn.step s r x).pos := by
  show r.pos < r.pos + 1 + s.jump r.st
  omega
theorem drop_i {ds : List Int} {u : Nat} {d : Int} (h : ds[u]? = some d) : ds.drop u = d :: ds.drop (u + 1) := by
  have hl : u < ds.length := (List.getElem?_eq_some_iff.1 h).1
  rw [List.drop_eq_getElem_cons hl, (List.getElem?_eq_some_iff.1 h).2]

set_option maxHeartbeats 1000000 in
theorem RunTrace_any (A A2 : Option Addr) (n c n2 c2 : Nat) (ps : List St) (ds : List Int) (w : World) (h : Lst w w.heap.size A n ps) (hn : n ≤ c) (hc : c ≤ maxLen) (h2 : Ils w w.heap.size A2 n2 ds) (hn2 : n2 ≤ maxLen) :
    Calls Try.prog 36 #[.slice A n c, .slice A2 n2 c2] w (RTd w (runTrace ps ds)) := by
  have hC := Lib.hid (fun wx (hx : Lst wx wx.heap.size A n ps) => Unrolled_any A n c ps wx hx hn hc)
  have hH := Lib.hid h
  have hD := Lib.hid h2
  have hDL := Lib.hid h2.1
  have hn2' : n2 ≤ 9223372036854775807 := by unfold maxLen at hn2; omega
  clear h hc h2 hn2
  cases hu : unrolled ps with
  | none =>
    have hU := Lib.hid hu
    have hR := Lib.hid (show runTrace ps ds = none by unfold runTrace; rw [hu]; rfl)
    clear hu
    go_enter Try.func36, Try.ntmps36
    go_wp2_with fail
    refine (hC.out _ hH.out).mono ?_
    rw [hU.out]
    rintro e w1 ⟨v, rfl, hown, hb⟩
    clear hown
    go_wp2
    go_ret3
    exact RTd.no hR.out hb
  | some os =>
    have hU := Lib.hid hu
    have hR := Lib.hid (show runTrace ps ds = runR os ⟨0, 0, 1⟩ ds by unfold runTrace; rw [hu]; rfl)
    obtain ⟨_, hlen, _, hNL, hOK⟩ := unrolled_parts hu
    have hOk := Lib.hid hOK
    clear hu hNL hOK
    go_enter Try.func36, Try.ntmps36
    go_wp2_with fail
    refine (hC.out _ hH.out).mono ?_
    rw [hU.out]
    rintro e w1 ⟨v, rfl, hown, hb⟩
    replace hown : Own w1 w.heap.size v os := hown
    obtain ⟨A3, c3, rfl, hlc, hcm⟩ := hown.form
    have hO := Lib.hid hown.lst
    have hz := hb.size
    clear hown
    generalize hm : os.length = m at hO hlen hlc ⊢
    have hM := Lib.hid hm
    clear hm
    go_wp2_with fail
    refine (startRun_any _).mono ?_
    rintro e w2 ⟨rfl, hb2⟩
    go_wp2_with fail
    have hrun0 := Has.new w2 73 #[.int .i64 0, .int .i64 0, .int .i64 1]
    have hbb : Below w.heap.size w (w2.alloc (.cells #[.int .i64 0, .int .i64 0, .int .i64 1] 73)) := (hb.trans (hb2.mono hz)).alloc (by have := hb2.size; omega) _
    have hO2 : Lst (w2.alloc (.cells #[.int .i64 0, .int .i64 0, .int .i64 1] 73)) w2.heap.size A3 m os := ((hO.out.below hb2).more hb2.size).below ((Below.refl _ _).alloc (Nat.le_refl _) _)
    have hD2 : Ils (w2.alloc (.cells #[.int .i64 0, .int .i64 0, .int .i64 1] 73)) w2.heap.size A2 n2 ds := (hD.out.below hbb).more (by have := hb2.size; omega)
    have hz3 : w.heap.size ≤ w2.heap.size := by have := hb2.size; omega
    generalize hg0 : w2.heap.size = G at hrun0 hbb hO2 hD2 hz3 ⊢
    have hO3 := Lib.hid hO2
    have hD3 := Lib.hid hD2
    clear hO2 hD2 hb2 hb hz hO
    have hG : G < (w2.alloc (.cells #[.int .i64 0, .int .i64 0, .int .i64 1] 73)).heap.size := by simp [hg0]
    clear hg0
    generalize w2.alloc (.cells #[.int .i64 0, .int .i64 0, .int .i64 1] 73) = W3 at hrun0 hbb hO3 hD3 hG ⊢
    go_loopw [10] (fun t wr => ∃ (r : Rn) (u : Nat), u ≤ n2 ∧ t = .int .i64 u ∧ Has wr G 73 #[.int .i64 r.pos, .int .i64 r.st, .int .i64 r.wt] ∧ r.fit ∧ runR os r (ds.drop u) = runR os ⟨0, 0, 1⟩ ds ∧ Below G W3 wr ∧ G < wr.heap.size) (fun _ wr => m - posAt wr G)
    case atStart => exact ⟨⟨0, 0, 1⟩, 0, Nat.zero_le _, rfl, hrun0, Rn.fit_start, by simp, Below.refl _ _, hG⟩
    case round =>
      obtain ⟨r, u, hu2, rfl, hrun, hfit, hgoal, hbr, hGr⟩ := hrel
      have hGoal := Lib.hid hgoal
      have hFit := Lib.hid hfit
      have hpos := posAt_of hrun
      clear hgoal hfit
      by_cases hlt : r.pos < m
      · obtain ⟨g, off, s, rfl, hg, hs, hat⟩ := (hO3.out.below hbr).at_ hlt
        obtain ⟨c0, c1, c2, c3', c4, c5, c6⟩ := hat.open_
        have hS := Lib.hid hs
        have hok := List.all_eq_true.1 hOk.out s (List.mem_of_getElem? hs)
        have hI := Lib.hid (fun wx => isDraw_any s wx)
        have hcr := hrun.cell
        have hsb := Lib.hid hat
        clear hs hat
        cases hd : s.draws
        · rw [hd] at hI
          have hGn := Lib.hid (runR_own (ds := ds.drop u) hS.out hd)
          clear hd
          go_wp2_with (go_at_call 72; refine (hI.out _).mono ?_; rintro e w3 ⟨rfl, hb3⟩)
          have hb3' : Below wr.heap.size wr w3 := hb3
          have hrun3 := hrun.kept hb3'
          obtain ⟨c0, c1, c2, c3', c4, c5, c6⟩ := (hsb.out.keep (w' := w3) (fun p hp => hb3'.cell (by omega))).open_
          have hcr := hrun3.cell
          have hk0 : (0 : Int) ≤ (r.pos : Int) := Int.natCast_nonneg _
          have hk1 : (r.pos : Int) < (m : Int) := by omega
          go_still_tail 7, (by kernel_rfl)
          change wpList _ _ _ _ _ w3.drew
          go_wp2_with fail
          refine (stepRun_any s r 0 _ hok hFit.out (by omega) (by decide)).mono ?_
          rintro e w4 ⟨rfl, hb4⟩
          have hb4' : Below w3.heap.size w3 w4 := ((Below.refl _ _).drew).trans hb4
          have hrun4 := hrun3.kept hb4'
          have hcr4 := hrun4.cell
          have hfr4 := hrun4.frozen
          have hrun5 := Lib.hid (((hrun4.put 0 (.int .i64 (Rn.step s r 0).pos)).put 1 (.int .i64 (Rn.step s r 0).st)).put 2 (.int .i64 (Rn.step s r 0).wt))
          have hB4 := Lib.hid ((hbr.trans (hb3'.mono (by omega))).trans (hb4'.mono (by have := hb3'.size; omega)))
          have hG4 : G < w4.heap.size := by have := hb3'.size; have := hb4'.size; omega
          have hF5 := Lib.hid (hFit.out.step (x := 0) hok (by decide))
          have hlt5 := Rn.pos_lt s r 0
          clear hcr hrun hrun3 hb3 hb3' hb4 hb4' c0 c1 c2 c3' c4 c5 c6
          go_wp2
          go_roundw
          case rel =>
            refine ⟨Rn.step s r 0, u, by omega, by go_num, ?_, hF5.out, hGn.out.symm.trans hGoal.out, ?_, by simpa using hG4⟩
            · have := hrun5.out
              simpa using this
            · iterate 3 (refine Below.setCell ?_ (by simp) _)
              exact hB4.out
          case measure =>
            rw [posAt_of (p := (Rn.step s r 0).pos) (t := 73) (a := .int .i64 (Rn.step s r 0).st) (b := .int .i64 (Rn.step s r 0).wt) (by have := hrun5.out; simpa using this), hpos]
            omega
        · rw [hd] at hI
          by_cases hun : u = n2
          · subst hun
            have hRR := Lib.hid (show runTrace ps ds = none by
              rw [hR.out, ← hGoal.out, List.drop_eq_nil_of_le (by rw [hDL.out]; exact Nat.le_refl _)]
              exact runR_short hS.out hd)
            clear hd
            go_wp2_with (go_at_call 72; refine (hI.out _).mono ?_; rintro e w3 ⟨rfl, hb3⟩)
            go_ret3
            exact RTd.no hRR.out ((hbb.trans (hbr.mono hz3)).trans (hb3.mono (by omega)))
          · obtain ⟨g2, off2, d, rfl, hg2, hds, cd⟩ := (hD3.out.below hbr).at_ (show u < n2 by omega)
            have hDr := Lib.hid (drop_i hds)
            have hcd := Lib.hid cd
            cases hin : inB d 0 2
            · have hRR := Lib.hid (show runTrace ps ds = none by
                rw [hR.out, ← hGoal.out, hDr.out]
                exact runR_bad hS.out hd hin)
              have cV := Lib.hid (fun wx => valueOk_any d wx)
              rw [hin] at cV
              clear hd hds hin
              go_wp2_with fail
              refine (hI.out _).mono ?_
              rintro e w3 ⟨rfl, hb3⟩
              have cd3 := (hb3.cell (p := ⟨g2, off2 + u, none⟩) (by simp; omega)).trans hcd.out
              clear cd
              go_wp2_with (go_at_call 73; refine (cV.out _).mono ?_; rintro e w' ⟨rfl, rfl⟩)
              go_ret3
              exact RTd.no hRR.out ((hbb.trans (hbr.mono hz3)).trans (hb3.mono (by omega)))
            · have hGn := Lib.hid (runR_draw (ds := ds.drop (u + 1)) hS.out hd hin)
              have hib := inB_iff.1 hin
              have cV := Lib.hid (fun wx => valueOk_any d wx)
              rw [hin] at cV
              clear hd hds hin
              go_wp2_with fail
              refine (hI.out _).mono ?_
              rintro e w3 ⟨rfl, hb3⟩
              have cd3 := (hb3.cell (p := ⟨g2, off2 + u, none⟩) (by simp; omega)).trans hcd.out
              clear cd
              go_wp2_with (go_at_call 73; refine (cV.out _).mono ?_; rintro e w' ⟨rfl, rfl⟩)
              have hb3' : Below wr.heap.size wr w3 := hb3
              have hrun3 := hrun.kept hb3'
              obtain ⟨c0, c1, c2, c3', c4, c5, c6⟩ := (hsb.out.keep (w' := w3) (fun p hp => hb3'.cell (by omega))).open_
              have hcr := hrun3.cell
              have hk0 : (0 : Int) ≤ (r.pos : Int) := Int.natCast_nonneg _
              have hk1 : (r.pos : Int) < (m : Int) := by omega
              go_still_tail 7, (by kernel_rfl)
              change wpList _ _ _ _ _ w3.drew
              go_wp2_with fail
              refine (stepRun_any s r d _ hok hFit.out (by omega) hib).mono ?_
              rintro e w4 ⟨rfl, hb4⟩
              have hb4' : Below w3.heap.size w3 w4 := ((Below.refl _ _).drew).trans hb4
              have hrun4 := hrun3.kept hb4'
              have hcr4 := hrun4.cell
              have hfr4 := hrun4.frozen
              have hrun5 := Lib.hid (((hrun4.put 0 (.int .i64 (Rn.step s r d).pos)).put 1 (.int .i64 (Rn.step s r d).st)).put 2 (.int .i64 (Rn.step s r d).wt))
              have hB4 := Lib.hid ((hbr.trans (hb3'.mono (by omega))).trans (hb4'.mono (by have := hb3'.size; omega)))
              have hG4 : G < w4.heap.size := by have := hb3'.size; have := hb4'.size; omega
              have hF5 := Lib.hid (hFit.out.step (x := d) hok hib)
              have hlt5 := Rn.pos_lt s r d
              clear hcr hrun hrun3 hb3 hb3' hb4 hb4' c0 c1 c2 c3' c4 c5 c6
              go_wp2
              go_roundw
              case rel =>
                refine ⟨Rn.step s r d, (u + 1), by omega, by go_num, ?_, hF5.out, hGn.out.symm.trans (hDr.out ▸ hGoal.out), ?_, by simpa using hG4⟩
                · have := hrun5.out
                  simpa using this
                · iterate 3 (refine Below.setCell ?_ (by simp) _)
                  exact hB4.out
              case measure =>
                rw [posAt_of (p := (Rn.step s r d).pos) (t := 73) (a := .int .i64 (Rn.step s r d).st) (b := .int .i64 (Rn.step s r d).wt) (by have := hrun5.out; simpa using this), hpos]
                omega
      · have hend := Lib.hid (show os.length ≤ r.pos by rw [hM.out]; omega)
        have hcr := hrun.cell
        by_cases hun : u = n2
        · subst hun
          have hRR := Lib.hid (show runTrace ps ds = some (r.st, r.wt) by
            rw [hR.out, ← hGoal.out, List.drop_eq_nil_of_le (by rw [hDL.out]; exact Nat.le_refl _)]
            exact runR_end hend.out)
          go_wp2
          go_quiet (fail)
          go_wp2
          go_ret3
          exact RTd.yes hRR.out (below_drewN (hbb.trans (hbr.mono hz3)) _)
        · have hRR := Lib.hid (show runTrace ps ds = none by
            obtain ⟨d, hd⟩ : ∃ d, ds[u]? = some d := ⟨_, List.getElem?_eq_getElem (by rw [hDL.out]; omega)⟩
            rw [hR.out, ← hGoal.out, drop_i hd]
            exact runR_long hend.out)
          have hul : u < n2 := by omega
          go_wp2
          go_ret3
          exact RTd.no hRR.out (hbb.trans (hbr.mono hz3))
end Go.Proofs.Ytbjpodgmmpchjaa

namespace Go.Proofs.Ytbjpodgmmpchjaa
set_option maxRecDepth 100000
set_option linter.unusedVariables false
open Go.RowKit

end Go.Proofs.Ytbjpodgmmpchjaa
