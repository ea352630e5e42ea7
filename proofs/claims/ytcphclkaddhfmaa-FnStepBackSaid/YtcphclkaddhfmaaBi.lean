/- Values that are 1 where a variable has a value; one statement backward; chances: the program's EventOf, StepBack and ChanceOf. -/
import Derived.Test.YtcphclkaddhfmaaBh
namespace Go.Proofs.Ytcphclkaddhfmaa
set_option maxRecDepth 100000
set_option linter.unusedVariables false
open Go.RowKit

theorem EventOf_any (v x : Int) (w : World) : Calls Try.prog 15 #[.int .i64 v, .int .i64 x] w (Wtsd w (evOf v x)) := by
  have cV := Lib.hid (fun wx => varOk_any v wx)
  have cX := Lib.hid (fun wx => valueOk_any x wx)
  cases hv : inB v 0 3
  · have hR := Lib.hid (show evOf v x = [] by unfold evOf; rw [hv]; simp)
    rw [hv] at cV
    clear hv
    go_enter Try.func15, Try.ntmps15
    go_wp2_with (first | (go_at_call 44; refine (cV.out _).mono ?_; rintro e w' ⟨rfl, rfl⟩))
    go_ret
    exact ⟨_, rfl, by rw [hR.out]; exact IOwn.nil _ _, Below.refl _ _⟩
  · cases hx : inB x 0 2
    · have hR := Lib.hid (show evOf v x = [] by unfold evOf; rw [hv, hx]; simp)
      rw [hv] at cV
      rw [hx] at cX
      clear hv hx
      go_enter Try.func15, Try.ntmps15
      go_wp2_with (first
        | (go_at_call 44; refine (cV.out _).mono ?_; rintro e w' ⟨rfl, rfl⟩)
        | (go_at_call 45; refine (cX.out _).mono ?_; rintro e w' ⟨rfl, rfl⟩))
      go_ret
      exact ⟨_, rfl, by rw [hR.out]; exact IOwn.nil _ _, Below.refl _ _⟩
    · have hR := Lib.hid (show evOf v x = evRow v x by unfold evOf; rw [hv, hx]; rfl)
      rw [hv] at cV
      rw [hx] at cX
      clear hv hx
      obtain ⟨i0, hi0, hz0, hz1', hz2'⟩ := info_parts info_int
      have hmk : ∀ wx : World, (Instr.makeSlice 29 (.int .i64 81) (.int .i64 81)).run Try.prog wx = .ok (.slice (some ⟨wx.heap.size, 0, none⟩) 81 81) (wx.alloc (.cells (madeCells (Value.int .i64 0).cells (81 * 1)) 3)) := by
        intro wx
        have hr := run_make (P := Try.prog) wx 29 3 i0 _ Try.underlying29 hi0 hz0 .i64 .i64 81 81 (by omega) (by omega) (by rw [hz2']; omega) (by omega)
        rw [hz1'] at hr
        exact hr
      have hHas := Lib.hid (Has.new w 3 (madeCells #[.int .i64 0] 81))
      have hfill := Lib.hid (show RowA (madeCells #[.int .i64 0] 81) (fun st => if st < 0 ∧ valueAt st v = x then 1 else 0) from ⟨size_madeCells _ _, fun q hq => by
        dsimp only
        rw [made_atB hq (by decide), if_neg (by omega)]
        simp [Nat.mod_one]⟩)
      have hB0 : Below w.heap.size w (w.alloc (.cells (madeCells #[.int .i64 0] 81) 3)) := (Below.refl _ _).alloc (Nat.le_refl _) _
      go_enter Try.func15, Try.ntmps15
      go_wp2_with (first
        | (go_at_call 44; refine (cV.out _).mono ?_; rintro e w' ⟨rfl, rfl⟩)
        | (go_at_call 45; refine (cX.out _).mono ?_; rintro e w' ⟨rfl, rfl⟩))
      clear hmk
      generalize hGG : w.heap.size = G at hHas hB0 ⊢
      have hGg := Lib.hid hGG
      clear hGG
      generalize madeCells #[.int .i64 0] 81 = cs0 at hHas hfill hB0 ⊢
      generalize w.alloc (.cells cs0 3) = W0 at hHas hB0 ⊢
      go_loopg [18] 81 (fun gn u wr => ∃ (q : Nat) (cs : Array Value), q ≤ 81 ∧ gn = 81 - q ∧ u = .int .i64 q ∧ Has wr G 3 cs ∧ RowA cs (fun st => if st < (q : Int) ∧ valueAt st v = x then 1 else 0) ∧ Below G w wr)
      case atStart => exact ⟨0, cs0, by omega, rfl, rfl, hHas.out, hfill.out, hB0⟩
      case round =>
        obtain ⟨q, cs, hq, hgn, rfl, hC, hA, hB⟩ := hrel
        have hgk : gk = 81 - q := hgn
        have hC' := Lib.hid hC
        have hA' := Lib.hid hA
        have hB' := Lib.hid hB
        clear hgn
        by_cases hlt : q < 81
        · have hq0 : (0 : Int) ≤ (q : Int) := by omega
          have hq1 : (q : Int) < 81 := by omega
          have cA := Lib.hid (fun wx => ValueAt_any q v wx)
          by_cases hvx : valueAt q v = x
          · rw [hvx] at cA
            have hAn := Lib.hid (show RowA (cs.setIfInBounds q (.int .i64 1)) (fun st => if st < ((q + 1 : Nat) : Int) ∧ valueAt st v = x then 1 else 0) from ⟨by simpa using hA.1, fun i hi => by
              dsimp only
              rw [Array.getElem?_setIfInBounds]
              by_cases hqi : q = i
              · subst hqi
                rw [if_pos rfl, if_pos (by rw [hA.1]; exact hi), if_pos ⟨by omega, hvx⟩]
              · rw [if_neg hqi, hA.2 i hi]
                dsimp only
                congr 2
                by_cases h9 : valueAt (i : Int) v = x
                · by_cases h8 : i < q
                  · rw [if_pos ⟨by omega, h9⟩, if_pos ⟨by omega, h9⟩]
                  · rw [if_neg (fun e => by have := e.1; omega), if_neg (fun e => by have := e.1; omega)]
                · rw [if_neg (fun e => h9 e.2), if_neg (fun e => h9 e.2)]⟩)
            obtain ⟨u, hu⟩ := hC.size_cell (x := q) (by rw [hA.1]; exact hlt)
            have hfz := hC.frozen q
            have hCn := Lib.hid (hC.put q (.int .i64 1))
            have hBn := Lib.hid (hB.setCell (p := ⟨G, q, none⟩) (Nat.le_refl G) (.int .i64 1))
            clear hvx hC hA hB
            go_wp2_with (first | (go_at_call 46; refine (cA.out _).mono ?_; rintro e w' ⟨rfl, rfl⟩))
            go_roundg (81 - (q + 1))
            case measure => omega
            case rel => exact ⟨q + 1, _, by omega, rfl, by go_num, hCn.out, hAn.out, hBn.out⟩
          · have hvb : (valueAt q v == x) = false := by simpa using hvx
            have hAn := Lib.hid (show RowA cs (fun st => if st < ((q + 1 : Nat) : Int) ∧ valueAt st v = x then 1 else 0) from ⟨hA.1, fun i hi => by
              rw [hA.2 i hi]
              dsimp only
              congr 2
              by_cases h9 : valueAt (i : Int) v = x
              · have hne : i ≠ q := fun e => hvx (by rw [← e]; exact h9)
                by_cases h8 : i < q
                · rw [if_pos ⟨by omega, h9⟩, if_pos ⟨by omega, h9⟩]
                · rw [if_neg (fun e => by have := e.1; omega), if_neg (fun e => by have := e.1; omega)]
              · rw [if_neg (fun e => h9 e.2), if_neg (fun e => h9 e.2)]⟩)
            clear hvx hC hA hB
            generalize valueAt q v = vv at cA hvb
            go_wp2_with (first | (go_at_call 46; refine (cA.out _).mono ?_; rintro e w' ⟨rfl, rfl⟩))
            go_roundg (81 - (q + 1))
            case measure => omega
            case rel => exact ⟨q + 1, cs, by omega, rfl, by go_num, hC'.out, hAn.out, hB'.out⟩
        · obtain rfl : q = 81 := by omega
          clear hC hA hB
          go_wp2_with fail
          go_ret
          obtain rfl := hGg.out
          refine ⟨_, rfl, ?_, hB'.out⟩
          rw [hR.out]
          refine IOwn.of_has hC'.out ?_ (rowL_length _) (Nat.le_refl _) (by decide)
          refine (hA'.out.congr fun st hst => ?_).list
          by_cases h9 : valueAt st v = x
          · rw [if_pos ⟨by omega, h9⟩, if_pos h9]
          · rw [if_neg (fun e => h9 e.2), if_neg h9]

def sbOk (s : St) (ds : List Int) : Bool := s.ok && !(s.k == 6) && !(s.k == 7) && lstOk 1000000000 ds
def sbOf (s : St) (ds : List Int) : List Int := if sbOk s ds = true then rowL (valAt (hOf ds) [s] 0) else []
theorem rw_small1 {ds : List Int} {s : St} {led : Nat → Int → Bool} {j : Nat} {st : Int} (h : lstOk 1000000000 ds = true) (hj : 0 < j) : 0 ≤ Rw (hOf ds) [s] led j st ∧ Rw (hOf ds) [s] led j st ≤ 100000000000000000 := by
  have h1 := hOf_bd (by decide) h st
  unfold Rw
  rw [if_pos (show [s].length ≤ j from hj)]
  omega

theorem StepBack_any (s : St) (Ad : Option Addr) (nd cd : Nat) (ds : List Int) (w : World) (hd : Ils w w.heap.size Ad nd ds) (hnd : nd ≤ maxLen) :
    Calls Try.prog 31 #[.agg #[.int .i64 s.k, .int .i64 s.a, .int .i64 s.b, .int .i64 s.c, .int .i64 s.u, .int .i64 s.v, .int .i64 s.x], .slice Ad nd cd] w (Lbd w (sbOf s ds) (sbOk s ds)) := by
  have cS := Lib.hid (fun wx => StmtOk_st s wx)
  have hDs := Lib.hid hd
  have cL := Lib.hid (fun wx (hx : Ils wx wx.heap.size Ad nd ds) => listOk_any Ad nd cd ds 1000000000 wx hx hnd)
  have hlen0 := hd.1
  have hS0 := Lib.hid (Has.new w 49 #[.int .i64 s.k, .int .i64 s.a, .int .i64 s.b, .int .i64 s.c, .int .i64 s.u, .int .i64 s.v, .int .i64 s.x])
  have hB0 := Lib.hid ((Below.refl w.heap.size w).alloc (Nat.le_refl _) (.cells #[.int .i64 s.k, .int .i64 s.a, .int .i64 s.b, .int .i64 s.c, .int .i64 s.u, .int .i64 s.v, .int .i64 s.x] 49))
  clear hd
  cases hok : s.ok
  · have hR2 := Lib.hid (show sbOk s ds = false by unfold sbOk; rw [hok]; simp)
    have hR := Lib.hid (show sbOf s ds = [] by unfold sbOf; rw [hR2.out]; simp)
    rw [hok] at cS
    clear hok
    go_enter Try.func31, Try.ntmps31
    go_wp2_with (first | (go_at_call 66; refine (cS.out _).mono ?_; rintro e w1 ⟨rfl, hb1⟩))
    go_ret2
    exact ⟨_, by rw [hR2.out]; rfl, by rw [hR.out]; exact IOwn.nil _ _, hB0.out.trans (hb1.mono hB0.out.size)⟩
  · rw [hok] at cS
    cases h6 : (s.k == 6)
    · cases h7 : (s.k == 7)
      · cases hk : lstOk 1000000000 ds
        · have hR2 := Lib.hid (show sbOk s ds = false by unfold sbOk; rw [hok, h6, h7, hk]; rfl)
          have hR := Lib.hid (show sbOf s ds = [] by unfold sbOf; rw [hR2.out]; simp)
          rw [hk] at cL
          clear hok hk
          go_enter Try.func31, Try.ntmps31
          go_wp2_with (first
            | (go_at_call 66; refine (cS.out _).mono ?_; rintro e w1 ⟨rfl, hb1⟩; have hb1' := hB0.out.trans (hb1.mono hB0.out.size); have hc1 := (Has.kept (by exact hS0.out) hb1).cell)
            | (go_at_call 51; refine (cL.out _ ((hDs.out.below hb1').more hb1'.size)).mono ?_; rintro e w2 ⟨rfl, hb2⟩))
          go_ret2
          exact ⟨_, by rw [hR2.out]; rfl, by rw [hR.out]; exact IOwn.nil _ _, hb1'.trans (hb2.mono hb1'.size)⟩
        · have hR2 := Lib.hid (show sbOk s ds = true by unfold sbOk; rw [hok, h6, h7, hk]; rfl)
          have hR := Lib.hid (show sbOf s ds = rowL (valAt (hOf ds) [s] 0) by unfold sbOf; rw [hR2.out]; simp)
          have hl81 := (lstOk_bd hk).1
          obtain rfl : 81 = nd := by omega
          have hOk := Lib.hid (show ∀ s' ∈ [s], s'.ok = true from fun s' hs' => by
            rw [List.mem_singleton] at hs'
            subst hs'
            exact hok)
          have hKk := Lib.hid hk
          have cW := Lib.hid (fun (fa : Array Value) (wx : World) (g : Nat) (hg : Has wx g 49 #[.int .i64 s.k, .int .i64 s.a, .int .i64 s.b, .int .i64 s.c, .int .i64 s.u, .int .i64 s.v, .int .i64 s.x]) (hfa : SetA fa (fun _ => true)) (hbx : Below w.heap.size w wx) => worthAhead_any (some ⟨g, 0, none⟩) Ad 1 1 cd [s] ds fa (fun _ => true) wx (hg.lst (ps := [s]) (n := 1) rfl rfl) (by decide) rfl hOk.out ((hDs.out.below hbx).more hbx.size) hl81 hfa (fun led j st hst hj => rw_small1 hKk.out hj))
          rw [hk] at cL
          clear hok hk
          go_enter Try.func31, Try.ntmps31
          go_wp2_with (first
            | (go_at_call 66; refine (cS.out _).mono ?_; rintro e w1 ⟨rfl, hb1⟩; have hb1' := hB0.out.trans (hb1.mono hB0.out.size); have hc1 := (Has.kept (by exact hS0.out) hb1).cell)
            | (go_at_call 51; refine (cL.out _ ((hDs.out.below hb1').more hb1'.size)).mono ?_; rintro e w2 ⟨rfl, hb2⟩; have hS2h := Lib.hid (Has.kept (Has.kept (by exact hS0.out) hb1) hb2); have hc2 := hS2h.out.cell; have hb2' := Lib.hid (hb1'.trans (hb2.mono hb1'.size))))
          clear hc1 hb1 hb1' hb2
          go_region_law (first
            | (go_simp; go_at_call 60; refine (allStates_any _).mono ?_; rintro e w3 ⟨fa, rfl, hfa, hb3⟩; have hS3 := (Has.kept (by first | exact hS2h.out | exact hS2h.out.alloc _) hb3).cell; have hb3' : Below w.heap.size w w3 := (by first | exact hb2'.out.drew.trans (hb3.mono hb2'.out.size) | exact ((hb2'.out.alloc hb2'.out.size _).drew).trans (hb3.mono (by have := hb2'.out.size; simp; omega))))
            | (go_simp; go_at_call 52; refine (cW.out _ _ _ (by first | exact Has.new _ _ _ | exact Has.kept (w := World.drew _) (by exact Has.new w2 _ _) hb3) hfa (by first | exact hb3' | exact hb3'.alloc hb3'.size _)).mono ?_; rintro e w4 ⟨gr, cs, led, rfl, hgr, hcr, hra, hl0, hb4⟩; have hb4' : Below w.heap.size w w4 := (by first | exact hb3'.trans (hb4.mono hb3'.size) | exact (hb3'.alloc hb3'.size _).trans (hb4.mono (by have := hb3'.size; simp; omega))); have hgr' : w.heap.size ≤ gr := (by have := hb3'.size; first | omega | (simp at hgr; omega))))
          all_goals
            go_wp2_with fail
            go_ret2
            refine ⟨_, by rw [hR2.out]; rfl, ?_, hb4'⟩
            rw [hR.out]
            refine IOwn.of_has hcr ?_ (rowL_length _) hgr' (by decide)
            refine (hra.congr fun st hst => ?_).list
            show (if 1 ≤ 0 then _ else if led 0 st = true then _ else _) = _
            rw [hl0 st hst]
            rfl
      · have hR2 := Lib.hid (show sbOk s ds = false by unfold sbOk; rw [hok, h6, h7]; rfl)
        have hR := Lib.hid (show sbOf s ds = [] by unfold sbOf; rw [hR2.out]; simp)
        clear hok
        go_enter Try.func31, Try.ntmps31
        go_wp2_with (first
          | (go_at_call 66; refine (cS.out _).mono ?_; rintro e w1 ⟨rfl, hb1⟩; have hb1' := hB0.out.trans (hb1.mono hB0.out.size); have hc1 := (Has.kept (by exact hS0.out) hb1).cell))
        go_ret2
        exact ⟨_, by rw [hR2.out]; rfl, by rw [hR.out]; exact IOwn.nil _ _, hb1'⟩
    · have hR2 := Lib.hid (show sbOk s ds = false by unfold sbOk; rw [hok, h6]; rfl)
      have hR := Lib.hid (show sbOf s ds = [] by unfold sbOf; rw [hR2.out]; simp)
      clear hok
      go_enter Try.func31, Try.ntmps31
      go_wp2_with (first
        | (go_at_call 66; refine (cS.out _).mono ?_; rintro e w1 ⟨rfl, hb1⟩; have hb1' := hB0.out.trans (hb1.mono hB0.out.size); have hc1 := (Has.kept (by exact hS0.out) hb1).cell))
      go_ret2
      exact ⟨_, by rw [hR2.out]; rfl, by rw [hR.out]; exact IOwn.nil _ _, hb1'⟩
end Go.Proofs.Ytcphclkaddhfmaa
