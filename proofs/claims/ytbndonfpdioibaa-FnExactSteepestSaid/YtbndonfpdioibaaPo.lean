/- One step of a run with a great weight; the runs that come of one: the program's partsOf. -/
import Derived.Test.YtbndonfpdioibaaBa
import Derived.Test.YtbndonfpdioibaaSp
import Derived.Test.YtbndonfpdioibaaSwx
import Derived.Deep.LoopGhost
import Derived.Deep.RegionHeld3
namespace Go.Proofs.Ytbndonfpdioibaa
set_option maxRecDepth 100000
set_option linter.unusedVariables false
open Go.RowKit

theorem step_wide (s : St) (p : Nat) (st wt x : Int) (w : World) (hs : s.ok = true) (h6 : (s.k == 6) = false) (h : 0 ≤ st ∧ st ≤ 80) (hp : p ≤ 100) (hw : 0 ≤ wt ∧ wt ≤ 1000000000000000000) (hx : 0 ≤ x ∧ x ≤ 2) :
    Calls Try.prog 183 #[.agg #[.int .i64 s.k, .int .i64 s.a, .int .i64 s.b, .int .i64 s.c, .int .i64 s.u, .int .i64 s.v, .int .i64 s.x], .agg #[.int .i64 p, .int .i64 st, .int .i64 wt], .int .i64 x] w fun e w' => e = .returned (.agg #[.int .i64 (p + 1 : Int), .int .i64 (s.next st x), .int .i64 (wt * s.fac (s.next st x))]) ∧ Below w.heap.size w w' := by
  have hn := next_bd hs h hx
  have cB := Lib.hid (fun wx => stateBehind_any s st x wx hs h hx)
  have cW := Lib.hid (fun wx => weightBehind_any s (s.next st x) wx hs hn)
  have hf := fac_bd hs (s.next st x)
  generalize s.next st x = nx at hn cB cW hf ⊢
  generalize s.fac nx = f at cB cW hf ⊢
  have hz : 0 ≤ wt * f ∧ wt * f ≤ 9000000000000000000 := by
    have h1 := Int.mul_nonneg hw.1 hf.1
    have h2 : wt * f ≤ wt * 9 := Int.mul_le_mul_of_nonneg_left hf.2 hw.1
    omega
  have hsum : IntKind.i64.wrap (wt * f) = wt * f := by rw [IntKind.wrap_i64]; omega
  clear hs
  go_enter Try.func183, Try.ntmps183
  go_wp2_with fail
  refine (cB.out _).mono ?_
  rintro e w1 ⟨rfl, hb1⟩
  obtain ⟨c1, f1⟩ := bcell hb1
  have hz1 : w.heap.size + 3 ≤ w1.heap.size := by have := hb1.size; simp at this; omega
  have hB1 : Below w.heap.size w w1 := ((((Below.refl _ _).alloc (Nat.le_refl _) _).alloc (by simp) _).alloc (by simp; omega) _).trans (hb1.mono (by simp; omega))
  have hS1 : Has w1 w.heap.size 78 _ := (((Has.new w _ _).alloc _).alloc _).kept hb1
  have hN1 : Has w1 (w.heap.size + 1) 101 #[.int .i64 (p + 1 : Int), .int .i64 st, .int .i64 wt] := by
    have h0 := ((Has.new (w.alloc (.cells #[.int .i64 s.k, .int .i64 s.a, .int .i64 s.b, .int .i64 s.c, .int .i64 s.u, .int .i64 s.v, .int .i64 s.x] 78)) 101 #[.int .i64 (p + 1 : Int), .int .i64 st, .int .i64 wt]).alloc (.cells #[.int .i64 0, .int .i64 0, .int .i64 0] 101)).kept hb1
    simpa using h0
  have hR1 : Has w1 (w.heap.size + 2) 101 #[.int .i64 0, .int .i64 0, .int .i64 0] := by
    have h0 := (Has.new ((w.alloc (.cells #[.int .i64 s.k, .int .i64 s.a, .int .i64 s.b, .int .i64 s.c, .int .i64 s.u, .int .i64 s.v, .int .i64 s.x] 78)).alloc (.cells #[.int .i64 (p + 1 : Int), .int .i64 st, .int .i64 wt] 101)) 101 #[.int .i64 0, .int .i64 0, .int .i64 0]).kept hb1
    simpa using h0
  clear hb1
  have cs1 := hS1.cell
  have cn1 := hN1.cell
  have fn1 := hN1.frozen
  go_wp2_with fail
  have hS2 := hS1.far (p := ⟨w.heap.size + 1, 1, none⟩) (by simp) (.int .i64 nx)
  have hN2 := hN1.put 1 (.int .i64 nx)
  have hR2 := hR1.far (p := ⟨w.heap.size + 1, 1, none⟩) (by simp) (.int .i64 nx)
  have hB2 := hB1.setCell (p := ⟨w.heap.size + 1, 1, none⟩) (by simp) (.int .i64 nx)
  have hz2 : w.heap.size + 3 ≤ (w1.setCell ⟨w.heap.size + 1, 1, none⟩ (.int .i64 nx)).heap.size := by simpa using hz1
  clear cs1 cn1 fn1 hS1 hN1 hR1 hB1 hz1
  generalize w1.setCell ⟨w.heap.size + 1, 1, none⟩ (.int .i64 nx) = W2 at hS2 hN2 hR2 hB2 hz2 ⊢
  have cs1 := hS2.cell
  have cn1 := hN2.cell
  have fn1 := hN2.frozen
  simp at cn1
  go_region_law (first | (go_simp; go_at_call 193; refine (cW.out _).mono ?_; rintro e w2 ⟨rfl, hb2⟩; have cs2 := (Has.kept (by exact hS2) hb2).cell; have cn2 := (Has.kept (by exact hN2) hb2).cell; have fn2 := (Has.kept (by exact hN2) hb2).frozen))
  all_goals
    have hN3 := (Has.kept (by exact hN2) hb2).put 2 (.int .i64 (wt * f))
    have hR3 := (Has.kept (by exact hR2) hb2).far (p := ⟨w.heap.size + 1, 2, none⟩) (by simp) (.int .i64 (wt * f))
    have hB3 := (hB2.drew.trans (hb2.mono (by simp; omega))).setCell (p := ⟨w.heap.size + 1, 2, none⟩) (by simp) (.int .i64 (wt * f))
    clear hb2 cs2 cn2 fn2
    generalize w2.setCell ⟨w.heap.size + 1, 2, none⟩ (.int .i64 (wt * f)) = W3 at hN3 hR3 hB3 ⊢
    clear cs1 cn1 fn1 hS2 hN2 hR2 hB2 hz2 c1 f1
    have cn3 := hN3.cell
    have cr3 := hR3.cell
    have fr3 := hR3.frozen
    simp at cn3
    go_wp2
    refine bodyPost_ret (v := .agg #[.int .i64 (p + 1 : Int), .int .i64 nx, .int .i64 (wt * f)]) (by simp [results, Try.results183, go_sem, cr3]) rfl ⟨rfl, ?_⟩
    repeat (refine Below.setCell ?_ (by simp; try omega) _)
    exact hB3


theorem stepRun_w (s : St) (r : Rn) (x : Int) (w : World) (hs : s.ok = true) (h : 0 ≤ r.st ∧ r.st ≤ 80) (hw : 0 ≤ r.wt ∧ r.wt ≤ 1000000000000000000) (hp : r.pos ≤ 12) (hx : 0 ≤ x ∧ x ≤ 2) :
    Calls Try.prog 183 #[.agg #[.int .i64 s.k, .int .i64 s.a, .int .i64 s.b, .int .i64 s.c, .int .i64 s.u, .int .i64 s.v, .int .i64 s.x], .agg #[.int .i64 r.pos, .int .i64 r.st, .int .i64 r.wt], .int .i64 x] w fun e w' => e = .returned (.agg #[.int .i64 (Rn.step s r x).pos, .int .i64 (Rn.step s r x).st, .int .i64 (Rn.step s r x).wt]) ∧ Below w.heap.size w w' := by
  cases h6 : (s.k == 6)
  · have hj : s.jump r.st = 0 := by
      unfold St.jump
      rw [if_neg]
      rintro ⟨e, _⟩
      simp [e] at h6
    refine (step_wide s r.pos r.st r.wt x w hs h6 h (by omega) hw hx).mono ?_
    rintro e w' ⟨rfl, hb⟩
    refine ⟨?_, hb⟩
    simp [Rn.step, hj]
  · have hk : s.k = 6 := by simpa using h6
    have e1 : s.next r.st x = r.st := by simp [St.next, hk]
    have e2 : s.fac r.st = 1 := by simp [St.fac, hk]
    refine (step_skip s r.pos r.st r.wt x w hs h6 h (by omega)).mono ?_
    rintro e w' ⟨rfl, hb⟩
    refine ⟨?_, hb⟩
    simp [Rn.step, e1, e2]


theorem info_runP : (Try.prog.info? 101).map (fun i => (i.zero, i.size, i.bytes)) = some (some (.agg #[.int .i64 0, .int .i64 0, .int .i64 0]), 3, 24) := by kernel_rfl

/-- The cells of runs, as far as they are laid. -/
def PrtA (cs : Array Value) (rs : List Rn) (k : Nat) : Prop := cs.size = rs.length * 3 ∧ ∀ d r, d < k → rs[d]? = some r → cs[d * 3]? = some (.int .i64 r.pos) ∧ cs[d * 3 + 1]? = some (.int .i64 r.st) ∧ cs[d * 3 + 2]? = some (.int .i64 r.wt)
theorem PrtA.step {cs : Array Value} {rs : List Rn} {k : Nat} {r : Rn} (h : PrtA cs rs k) (hr : rs[k]? = some r) :
    PrtA (((cs.setIfInBounds (k * 3) (.int .i64 r.pos)).setIfInBounds (k * 3 + 1) (.int .i64 r.st)).setIfInBounds (k * 3 + 2) (.int .i64 r.wt)) rs (k + 1) := by
  have hl := (List.getElem?_eq_some_iff.1 hr).1
  refine ⟨by simp [h.1], fun d r' hd hr' => ?_⟩
  by_cases hdk : d = k
  · subst hdk
    obtain rfl : r = r' := Option.some.inj (hr.symm.trans hr')
    have hz := h.1
    refine ⟨?_, ?_, ?_⟩ <;> (simp only [Array.getElem?_setIfInBounds, Array.size_setIfInBounds, hz]; repeat' split) <;> first | rfl | omega | simp_all
  · obtain ⟨h0, h1, h2⟩ := h.2 d r' (by omega) hr'
    refine ⟨?_, ?_, ?_⟩ <;> (simp only [Array.getElem?_setIfInBounds, Array.size_setIfInBounds]; repeat' split) <;> first | assumption | omega | simp_all
def Prtd (w : World) (rs : List Rn) (e : Ending) (w' : World) : Prop := ∃ b cs, e = .returned (.slice (some ⟨b, 0, none⟩) rs.length rs.length) ∧ w.heap.size ≤ b ∧ Has w' b 101 cs ∧ PrtA cs rs rs.length ∧ Below w.heap.size w w'

theorem partsOf_any (A : Option Addr) (m c : Nat) (os : List St) (s : St) (r : Rn) (w : World) (h : Lst w w.heap.size A m os) (hm : m ≤ 12) (hM : os.length = m) (hp : r.pos < m) (hs : os[r.pos]? = some s) (hok : s.ok = true) (hst : 0 ≤ r.st ∧ r.st ≤ 80) (hwt : 0 ≤ r.wt ∧ r.wt ≤ 1000000000000000000) :
    Calls Try.prog 159 #[.slice A m c, .agg #[.int .i64 r.pos, .int .i64 r.st, .int .i64 r.wt]] w (Prtd w (prt m s r)) := by
  obtain ⟨gs, off, s', rfl, hgs, hs', hat⟩ := h.at_ hp
  obtain rfl : s' = s := Option.some.inj (hs'.symm.trans hs)
  obtain ⟨c0, c1, c2, c3, c4, c5, c6⟩ := hat.open_
  have hpos := Lib.hid (show ∀ d : Nat, (Rn.step s' r d).pos ≤ 100 from fun d => by
    have h1 : s'.jump r.st ≤ 12 := by
      unfold St.jump
      split
      · rename_i h
        have := ok_rng (k := s'.k) (a := s'.a) (b := s'.b) (c := s'.c) (u := s'.u) (v := s'.v) (x := s'.x) hok
        omega
      · omega
    show r.pos + 1 + s'.jump r.st ≤ 100
    omega)
  have hp0 : (0 : Int) ≤ (r.pos : Int) := by omega
  have hp1 : (r.pos : Int) < (m : Int) := by omega
  have hMn0 := Lib.hid (prt_length m s' r)
  have hB0 : Below w.heap.size w ((w.alloc (.cells #[.int .i64 r.pos, .int .i64 r.st, .int .i64 r.wt] 101)).alloc (.cells #[.int .i64 s'.k, .int .i64 s'.a, .int .i64 s'.b, .int .i64 s'.c, .int .i64 s'.u, .int .i64 s'.v, .int .i64 s'.x] 78)) := ((Below.refl _ _).alloc (Nat.le_refl _) _).alloc (by simp) _
  have hR0 : Has ((w.alloc (.cells #[.int .i64 r.pos, .int .i64 r.st, .int .i64 r.wt] 101)).alloc (.cells #[.int .i64 s'.k, .int .i64 s'.a, .int .i64 s'.b, .int .i64 s'.c, .int .i64 s'.u, .int .i64 s'.v, .int .i64 s'.x] 78)) w.heap.size 101 #[.int .i64 r.pos, .int .i64 r.st, .int .i64 r.wt] := (Has.new w 101 #[.int .i64 r.pos, .int .i64 r.st, .int .i64 r.wt]).alloc _
  have hS0 : Has ((w.alloc (.cells #[.int .i64 r.pos, .int .i64 r.st, .int .i64 r.wt] 101)).alloc (.cells #[.int .i64 s'.k, .int .i64 s'.a, .int .i64 s'.b, .int .i64 s'.c, .int .i64 s'.u, .int .i64 s'.v, .int .i64 s'.x] 78)) (w.heap.size + 1) 78 #[.int .i64 s'.k, .int .i64 s'.a, .int .i64 s'.b, .int .i64 s'.c, .int .i64 s'.u, .int .i64 s'.v, .int .i64 s'.x] := by
    have := Has.new (w.alloc (.cells #[.int .i64 r.pos, .int .i64 r.st, .int .i64 r.wt] 101)) 78 #[.int .i64 s'.k, .int .i64 s'.a, .int .i64 s'.b, .int .i64 s'.c, .int .i64 s'.u, .int .i64 s'.v, .int .i64 s'.x]
    simpa using this
  have hZ0 : ((w.alloc (.cells #[.int .i64 r.pos, .int .i64 r.st, .int .i64 r.wt] 101)).alloc (.cells #[.int .i64 s'.k, .int .i64 s'.a, .int .i64 s'.b, .int .i64 s'.c, .int .i64 s'.u, .int .i64 s'.v, .int .i64 s'.x] 78)).heap.size = w.heap.size + 2 := by simp
  have hsl : ∀ d, d < s'.many → ∃ p, (prt m s' r)[d]? = some p ∧ p = clp m (Rn.step s' r d) := fun d hd => ⟨_, prt_at hd, rfl⟩
  have hSl := Lib.hid hsl
  obtain ⟨i0, hi0, hz0, hz1', hz2'⟩ := info_parts info_runP
  have hwt9 := hwt.2
  clear h hs hs' hat hM hsl
  go_enter Try.func159, Try.ntmps159
  go_wp2_with fail
  generalize hGG : w.heap.size = G at hB0 hR0 hS0 hZ0 ⊢
  have hGg := Lib.hid hGG
  clear hGG c0 c1 c2 c3 c4 c5 c6
  generalize ((w.alloc (.cells #[.int .i64 r.pos, .int .i64 r.st, .int .i64 r.wt] 101)).alloc (.cells #[.int .i64 s'.k, .int .i64 s'.a, .int .i64 s'.b, .int .i64 s'.c, .int .i64 s'.u, .int .i64 s'.v, .int .i64 s'.x] 78)) = W at hB0 hR0 hS0 hZ0 ⊢
  have hB1 := Lib.hid hB0
  have hR1 := Lib.hid hR0
  have hS1 := Lib.hid hS0
  clear hB0 hR0 hS0
  have cI := Lib.hid (fun wx => isDraw_any s' wx)
  cases hd : s'.draws
  · have hMn := Lib.hid (show s'.many = 1 from by unfold St.many; rw [hd]; rfl)
    rw [hd] at cI
    clear hd
    refine (cI.out _).mono ?_
    rintro e w3 ⟨rfl, hb3⟩
    have hR3 := Lib.hid (hR1.out.kept hb3)
    have hS3 := Lib.hid (hS1.out.kept hb3)
    have hb3s := hb3.size
    have hB3 := Lib.hid (hB1.out.trans (hb3.mono (by omega)))
    have hG3 : G + 2 ≤ w3.heap.size := by omega
    have hcs3 := hS3.out.cell
    clear hb3 hb3s hB1 hR1 hS1 hZ0 cI
    have hmk : ∀ wx : World, (Instr.makeSlice 98 (.int .i64 1) (.int .i64 1)).run Try.prog wx = .ok (.slice (some ⟨wx.heap.size, 0, none⟩) 1 1) (wx.alloc (.cells (madeCells (Value.agg #[.int .i64 0, .int .i64 0, .int .i64 0]).cells (1 * 3)) 101)) := by
      intro wx
      have hr := run_make (P := Try.prog) wx 98 101 i0 _ Try.underlying98 hi0 hz0 .i64 .i64 1 1 (by omega) (by omega) (by rw [hz2']; omega) (by omega)
      rw [hz1'] at hr
      exact hr
    go_wp2_with fail
    clear hmk
    have hP4 := Has.new w3 101 (madeCells #[.int .i64 0, .int .i64 0, .int .i64 0] 3)
    have hPs : (madeCells #[.int .i64 0, .int .i64 0, .int .i64 0] 3).size = (prt m s' r).length * 3 := by rw [hMn0.out, hMn.out, size_madeCells]
    have hR4 := Lib.hid (hR3.out.alloc (.cells (madeCells #[.int .i64 0, .int .i64 0, .int .i64 0] 3) 101))
    have hS4 := Lib.hid (hS3.out.alloc (.cells (madeCells #[.int .i64 0, .int .i64 0, .int .i64 0] 3) 101))
    have hB4 := Lib.hid (hB3.out.alloc (by omega) (.cells (madeCells #[.int .i64 0, .int .i64 0, .int .i64 0] 3) 101))
    generalize hQQ : w3.heap.size = Q at hP4 hG3 ⊢
    clear hQQ hR3 hS3 hB3 hcs3
    generalize madeCells #[.int .i64 0, .int .i64 0, .int .i64 0] 3 = cs0 at hP4 hPs hR4 hS4 hB4 ⊢
    generalize w3.alloc (.cells cs0 101) = W4 at hP4 hR4 hS4 hB4 ⊢
    have hP5 := Lib.hid hP4
    have hA5 := Lib.hid (show PrtA cs0 (prt m s' r) 0 from ⟨hPs, fun d r hd => by omega⟩)
    clear hP4 hPs
    go_loopg [21] 1 (fun gn v wr => ∃ (d : Nat) (cs : Array Value), d ≤ 1 ∧ gn = 1 - d ∧ v = .int .i64 d ∧ Has wr G 101 #[.int .i64 r.pos, .int .i64 r.st, .int .i64 r.wt] ∧ Has wr (G + 1) 78 #[.int .i64 s'.k, .int .i64 s'.a, .int .i64 s'.b, .int .i64 s'.c, .int .i64 s'.u, .int .i64 s'.v, .int .i64 s'.x] ∧ Has wr Q 101 cs ∧ PrtA cs (prt m s' r) d ∧ Below G w wr)
    case atStart => exact ⟨0, cs0, by omega, rfl, rfl, hR4.out, hS4.out, hP5.out, hA5.out, hB4.out⟩
    case round =>
      obtain ⟨d, cs, hd, hgn, rfl, hRd, hSd, hPd, hAd, hBd⟩ := hrel
      have hgnn : gk = 1 - d := hgn
      clear hgn
      by_cases hlt : d < 1
      · obtain ⟨p, hp, hpe⟩ := hSl.out d (by rw [hMn.out]; exact hlt)
        have hcr := hRd.cell
        have hcs := hSd.cell
        have hGQ := hPd.lt
        have hRd' := Lib.hid hRd
        have hSd' := Lib.hid hSd
        have hPd' := Lib.hid hPd
        have hAd' := Lib.hid hAd
        have hBd' := Lib.hid hBd
        have hp' := Lib.hid hp
        have hpe' := Lib.hid hpe
        clear hRd hSd hPd hAd hBd hp hpe
        go_wp2_with fail
        refine (stepRun_w s' r d _ hok hst hwt (by omega) (by omega)).mono ?_
        rintro e w5 ⟨rfl, hb5⟩
        have hq5 := hpos.out d
        have hPd5 := Lib.hid (hPd'.out.kept hb5)
        have hRd5 := Lib.hid (hRd'.out.kept hb5)
        have hSd5 := Lib.hid (hSd'.out.kept hb5)
        have hs5 := hb5.size
        have hBd5 := Lib.hid (hBd'.out.trans (hb5.mono (by omega)))
        clear hb5 hcr hcs
        generalize hq : Rn.step s' r d = q at hq5 ⊢
        have hL3 : (prt m s' r).length = 1 := by rw [hMn0.out, hMn.out]
        have hz5 : cs.size = 1 * 3 := by rw [hAd'.out.1, hL3]
        obtain ⟨u0, hu0⟩ := hPd5.out.size_cell (x := d * 3) (by omega)
        obtain ⟨u1, hu1⟩ := hPd5.out.size_cell (x := d * 3 + 1) (by omega)
        obtain ⟨u2, hu2⟩ := hPd5.out.size_cell (x := d * 3 + 2) (by omega)
        have hfz := hPd5.out.frozen
        have hQ5 := hPd5.out.lt
        have hQn : Q ≠ w5.heap.size := by omega
        have hQm : w5.heap.size ≠ Q := by omega
        have hX := Lib.hid (show p.pos = min q.pos m ∧ p.st = q.st ∧ p.wt = q.wt from by rw [hpe'.out, hq]; exact ⟨rfl, rfl, rfl⟩)
        have hd0 : (0 : Int) ≤ (d : Int) := by omega
        have hd1 : (d : Int) < 1 := by omega
        clear hL3 hq
        by_cases hpm : m < q.pos
        · have hpm' : (m : Int) < (q.pos : Int) := by omega
          have hAn := Lib.hid (show PrtA (((cs.setIfInBounds (d * 3) (.int .i64 (m : Nat))).setIfInBounds (d * 3 + 1) (.int .i64 q.st)).setIfInBounds (d * 3 + 2) (.int .i64 q.wt)) (prt m s' r) (d + 1) from by
            obtain ⟨x0, x1, x2⟩ := hX.out
            have h9 := hAd'.out.step hp'.out
            rwa [x1, x2, x0, show min q.pos m = m by omega] at h9)
          have hPn := Lib.hid ((((hPd5.out.put (d * 3) (.int .i64 (m : Nat))).put (d * 3 + 1) (.int .i64 q.st)).put (d * 3 + 2) (.int .i64 q.wt)).alloc (.cells #[.int .i64 (m : Nat), .int .i64 q.st, .int .i64 q.wt] 101))
          have hGQl : G + 2 ≤ Q := hG3
          have hRn := Lib.hid ((((hRd5.out.far (p := ⟨Q, d * 3, none⟩) (by show G ≠ Q; omega) (.int .i64 (m : Nat))).far (p := ⟨Q, d * 3 + 1, none⟩) (by show G ≠ Q; omega) (.int .i64 q.st)).far (p := ⟨Q, d * 3 + 2, none⟩) (by show G ≠ Q; omega) (.int .i64 q.wt)).alloc (.cells #[.int .i64 (m : Nat), .int .i64 q.st, .int .i64 q.wt] 101))
          have hSn := Lib.hid ((((hSd5.out.far (p := ⟨Q, d * 3, none⟩) (by show G + 1 ≠ Q; omega) (.int .i64 (m : Nat))).far (p := ⟨Q, d * 3 + 1, none⟩) (by show G + 1 ≠ Q; omega) (.int .i64 q.st)).far (p := ⟨Q, d * 3 + 2, none⟩) (by show G + 1 ≠ Q; omega) (.int .i64 q.wt)).alloc (.cells #[.int .i64 (m : Nat), .int .i64 q.st, .int .i64 q.wt] 101))
          have hBn := Lib.hid ((((hBd5.out.setCell (p := ⟨Q, d * 3, none⟩) (by show G ≤ Q; omega) (.int .i64 (m : Nat))).setCell (p := ⟨Q, d * 3 + 1, none⟩) (by show G ≤ Q; omega) (.int .i64 q.st)).setCell (p := ⟨Q, d * 3 + 2, none⟩) (by show G ≤ Q; omega) (.int .i64 q.wt)).alloc (by simp; omega) (.cells #[.int .i64 (m : Nat), .int .i64 q.st, .int .i64 q.wt] 101))
          go_wp2_with fail
          go_roundg (1 - (d + 1))
          case measure => omega
          case rel => exact ⟨d + 1, _, by omega, rfl, by go_num, hRn.out, hSn.out, hPn.out, hAn.out, hBn.out⟩
        · have hpm' : ¬ ((m : Int) < (q.pos : Int)) := by omega
          have hAn := Lib.hid (show PrtA (((cs.setIfInBounds (d * 3) (.int .i64 (q.pos : Nat))).setIfInBounds (d * 3 + 1) (.int .i64 q.st)).setIfInBounds (d * 3 + 2) (.int .i64 q.wt)) (prt m s' r) (d + 1) from by
            obtain ⟨x0, x1, x2⟩ := hX.out
            have h9 := hAd'.out.step hp'.out
            rwa [x1, x2, x0, show min q.pos m = q.pos by omega] at h9)
          have hPn := Lib.hid ((((hPd5.out.put (d * 3) (.int .i64 (q.pos : Nat))).put (d * 3 + 1) (.int .i64 q.st)).put (d * 3 + 2) (.int .i64 q.wt)).alloc (.cells #[.int .i64 (q.pos : Nat), .int .i64 q.st, .int .i64 q.wt] 101))
          have hGQl : G + 2 ≤ Q := hG3
          have hRn := Lib.hid ((((hRd5.out.far (p := ⟨Q, d * 3, none⟩) (by show G ≠ Q; omega) (.int .i64 (q.pos : Nat))).far (p := ⟨Q, d * 3 + 1, none⟩) (by show G ≠ Q; omega) (.int .i64 q.st)).far (p := ⟨Q, d * 3 + 2, none⟩) (by show G ≠ Q; omega) (.int .i64 q.wt)).alloc (.cells #[.int .i64 (q.pos : Nat), .int .i64 q.st, .int .i64 q.wt] 101))
          have hSn := Lib.hid ((((hSd5.out.far (p := ⟨Q, d * 3, none⟩) (by show G + 1 ≠ Q; omega) (.int .i64 (q.pos : Nat))).far (p := ⟨Q, d * 3 + 1, none⟩) (by show G + 1 ≠ Q; omega) (.int .i64 q.st)).far (p := ⟨Q, d * 3 + 2, none⟩) (by show G + 1 ≠ Q; omega) (.int .i64 q.wt)).alloc (.cells #[.int .i64 (q.pos : Nat), .int .i64 q.st, .int .i64 q.wt] 101))
          have hBn := Lib.hid ((((hBd5.out.setCell (p := ⟨Q, d * 3, none⟩) (by show G ≤ Q; omega) (.int .i64 (q.pos : Nat))).setCell (p := ⟨Q, d * 3 + 1, none⟩) (by show G ≤ Q; omega) (.int .i64 q.st)).setCell (p := ⟨Q, d * 3 + 2, none⟩) (by show G ≤ Q; omega) (.int .i64 q.wt)).alloc (by simp; omega) (.cells #[.int .i64 (q.pos : Nat), .int .i64 q.st, .int .i64 q.wt] 101))
          go_wp2_with fail
          go_roundg (1 - (d + 1))
          case measure => omega
          case rel => exact ⟨d + 1, _, by omega, rfl, by go_num, hRn.out, hSn.out, hPn.out, hAn.out, hBn.out⟩
      · obtain rfl : d = 1 := by omega
        have hL : (prt m s' r).length = 1 := by rw [hMn0.out, hMn.out]
        have hP' := Lib.hid hPd
        have hA' := Lib.hid hAd
        have hB' := Lib.hid hBd
        have hL' := Lib.hid hL
        clear hRd hSd hPd hAd hBd hL
        go_wp2_with fail
        go_ret
        obtain rfl := hGg.out
        refine ⟨Q, cs, ?_, by omega, hP'.out, by rw [hL'.out]; exact hA'.out, hB'.out⟩
        rw [hL'.out]; rfl
  · have hMn := Lib.hid (show s'.many = 3 from by unfold St.many; rw [hd]; rfl)
    rw [hd] at cI
    clear hd
    refine (cI.out _).mono ?_
    rintro e w3 ⟨rfl, hb3⟩
    have hR3 := Lib.hid (hR1.out.kept hb3)
    have hS3 := Lib.hid (hS1.out.kept hb3)
    have hb3s := hb3.size
    have hB3 := Lib.hid (hB1.out.trans (hb3.mono (by omega)))
    have hG3 : G + 2 ≤ w3.heap.size := by omega
    have hcs3 := hS3.out.cell
    clear hb3 hb3s hB1 hR1 hS1 hZ0 cI
    have hmk : ∀ wx : World, (Instr.makeSlice 98 (.int .i64 3) (.int .i64 3)).run Try.prog wx = .ok (.slice (some ⟨wx.heap.size, 0, none⟩) 3 3) (wx.alloc (.cells (madeCells (Value.agg #[.int .i64 0, .int .i64 0, .int .i64 0]).cells (3 * 3)) 101)) := by
      intro wx
      have hr := run_make (P := Try.prog) wx 98 101 i0 _ Try.underlying98 hi0 hz0 .i64 .i64 3 3 (by omega) (by omega) (by rw [hz2']; omega) (by omega)
      rw [hz1'] at hr
      exact hr
    go_wp2_with fail
    clear hmk
    have hP4 := Has.new w3 101 (madeCells #[.int .i64 0, .int .i64 0, .int .i64 0] 9)
    have hPs : (madeCells #[.int .i64 0, .int .i64 0, .int .i64 0] 9).size = (prt m s' r).length * 3 := by rw [hMn0.out, hMn.out, size_madeCells]
    have hR4 := Lib.hid (hR3.out.alloc (.cells (madeCells #[.int .i64 0, .int .i64 0, .int .i64 0] 9) 101))
    have hS4 := Lib.hid (hS3.out.alloc (.cells (madeCells #[.int .i64 0, .int .i64 0, .int .i64 0] 9) 101))
    have hB4 := Lib.hid (hB3.out.alloc (by omega) (.cells (madeCells #[.int .i64 0, .int .i64 0, .int .i64 0] 9) 101))
    generalize hQQ : w3.heap.size = Q at hP4 hG3 ⊢
    clear hQQ hR3 hS3 hB3 hcs3
    generalize madeCells #[.int .i64 0, .int .i64 0, .int .i64 0] 9 = cs0 at hP4 hPs hR4 hS4 hB4 ⊢
    generalize w3.alloc (.cells cs0 101) = W4 at hP4 hR4 hS4 hB4 ⊢
    have hP5 := Lib.hid hP4
    have hA5 := Lib.hid (show PrtA cs0 (prt m s' r) 0 from ⟨hPs, fun d r hd => by omega⟩)
    clear hP4 hPs
    go_loopg [21] 3 (fun gn v wr => ∃ (d : Nat) (cs : Array Value), d ≤ 3 ∧ gn = 3 - d ∧ v = .int .i64 d ∧ Has wr G 101 #[.int .i64 r.pos, .int .i64 r.st, .int .i64 r.wt] ∧ Has wr (G + 1) 78 #[.int .i64 s'.k, .int .i64 s'.a, .int .i64 s'.b, .int .i64 s'.c, .int .i64 s'.u, .int .i64 s'.v, .int .i64 s'.x] ∧ Has wr Q 101 cs ∧ PrtA cs (prt m s' r) d ∧ Below G w wr)
    case atStart => exact ⟨0, cs0, by omega, rfl, rfl, hR4.out, hS4.out, hP5.out, hA5.out, hB4.out⟩
    case round =>
      obtain ⟨d, cs, hd, hgn, rfl, hRd, hSd, hPd, hAd, hBd⟩ := hrel
      have hgnn : gk = 3 - d := hgn
      clear hgn
      by_cases hlt : d < 3
      · obtain ⟨p, hp, hpe⟩ := hSl.out d (by rw [hMn.out]; exact hlt)
        have hcr := hRd.cell
        have hcs := hSd.cell
        have hGQ := hPd.lt
        have hRd' := Lib.hid hRd
        have hSd' := Lib.hid hSd
        have hPd' := Lib.hid hPd
        have hAd' := Lib.hid hAd
        have hBd' := Lib.hid hBd
        have hp' := Lib.hid hp
        have hpe' := Lib.hid hpe
        clear hRd hSd hPd hAd hBd hp hpe
        go_wp2_with fail
        refine (stepRun_w s' r d _ hok hst hwt (by omega) (by omega)).mono ?_
        rintro e w5 ⟨rfl, hb5⟩
        have hq5 := hpos.out d
        have hPd5 := Lib.hid (hPd'.out.kept hb5)
        have hRd5 := Lib.hid (hRd'.out.kept hb5)
        have hSd5 := Lib.hid (hSd'.out.kept hb5)
        have hs5 := hb5.size
        have hBd5 := Lib.hid (hBd'.out.trans (hb5.mono (by omega)))
        clear hb5 hcr hcs
        generalize hq : Rn.step s' r d = q at hq5 ⊢
        have hL3 : (prt m s' r).length = 3 := by rw [hMn0.out, hMn.out]
        have hz5 : cs.size = 3 * 3 := by rw [hAd'.out.1, hL3]
        obtain ⟨u0, hu0⟩ := hPd5.out.size_cell (x := d * 3) (by omega)
        obtain ⟨u1, hu1⟩ := hPd5.out.size_cell (x := d * 3 + 1) (by omega)
        obtain ⟨u2, hu2⟩ := hPd5.out.size_cell (x := d * 3 + 2) (by omega)
        have hfz := hPd5.out.frozen
        have hQ5 := hPd5.out.lt
        have hQn : Q ≠ w5.heap.size := by omega
        have hQm : w5.heap.size ≠ Q := by omega
        have hX := Lib.hid (show p.pos = min q.pos m ∧ p.st = q.st ∧ p.wt = q.wt from by rw [hpe'.out, hq]; exact ⟨rfl, rfl, rfl⟩)
        have hd0 : (0 : Int) ≤ (d : Int) := by omega
        have hd1 : (d : Int) < 3 := by omega
        clear hL3 hq
        by_cases hpm : m < q.pos
        · have hpm' : (m : Int) < (q.pos : Int) := by omega
          have hAn := Lib.hid (show PrtA (((cs.setIfInBounds (d * 3) (.int .i64 (m : Nat))).setIfInBounds (d * 3 + 1) (.int .i64 q.st)).setIfInBounds (d * 3 + 2) (.int .i64 q.wt)) (prt m s' r) (d + 1) from by
            obtain ⟨x0, x1, x2⟩ := hX.out
            have h9 := hAd'.out.step hp'.out
            rwa [x1, x2, x0, show min q.pos m = m by omega] at h9)
          have hPn := Lib.hid ((((hPd5.out.put (d * 3) (.int .i64 (m : Nat))).put (d * 3 + 1) (.int .i64 q.st)).put (d * 3 + 2) (.int .i64 q.wt)).alloc (.cells #[.int .i64 (m : Nat), .int .i64 q.st, .int .i64 q.wt] 101))
          have hGQl : G + 2 ≤ Q := hG3
          have hRn := Lib.hid ((((hRd5.out.far (p := ⟨Q, d * 3, none⟩) (by show G ≠ Q; omega) (.int .i64 (m : Nat))).far (p := ⟨Q, d * 3 + 1, none⟩) (by show G ≠ Q; omega) (.int .i64 q.st)).far (p := ⟨Q, d * 3 + 2, none⟩) (by show G ≠ Q; omega) (.int .i64 q.wt)).alloc (.cells #[.int .i64 (m : Nat), .int .i64 q.st, .int .i64 q.wt] 101))
          have hSn := Lib.hid ((((hSd5.out.far (p := ⟨Q, d * 3, none⟩) (by show G + 1 ≠ Q; omega) (.int .i64 (m : Nat))).far (p := ⟨Q, d * 3 + 1, none⟩) (by show G + 1 ≠ Q; omega) (.int .i64 q.st)).far (p := ⟨Q, d * 3 + 2, none⟩) (by show G + 1 ≠ Q; omega) (.int .i64 q.wt)).alloc (.cells #[.int .i64 (m : Nat), .int .i64 q.st, .int .i64 q.wt] 101))
          have hBn := Lib.hid ((((hBd5.out.setCell (p := ⟨Q, d * 3, none⟩) (by show G ≤ Q; omega) (.int .i64 (m : Nat))).setCell (p := ⟨Q, d * 3 + 1, none⟩) (by show G ≤ Q; omega) (.int .i64 q.st)).setCell (p := ⟨Q, d * 3 + 2, none⟩) (by show G ≤ Q; omega) (.int .i64 q.wt)).alloc (by simp; omega) (.cells #[.int .i64 (m : Nat), .int .i64 q.st, .int .i64 q.wt] 101))
          go_wp2_with fail
          go_roundg (3 - (d + 1))
          case measure => omega
          case rel => exact ⟨d + 1, _, by omega, rfl, by go_num, hRn.out, hSn.out, hPn.out, hAn.out, hBn.out⟩
        · have hpm' : ¬ ((m : Int) < (q.pos : Int)) := by omega
          have hAn := Lib.hid (show PrtA (((cs.setIfInBounds (d * 3) (.int .i64 (q.pos : Nat))).setIfInBounds (d * 3 + 1) (.int .i64 q.st)).setIfInBounds (d * 3 + 2) (.int .i64 q.wt)) (prt m s' r) (d + 1) from by
            obtain ⟨x0, x1, x2⟩ := hX.out
            have h9 := hAd'.out.step hp'.out
            rwa [x1, x2, x0, show min q.pos m = q.pos by omega] at h9)
          have hPn := Lib.hid ((((hPd5.out.put (d * 3) (.int .i64 (q.pos : Nat))).put (d * 3 + 1) (.int .i64 q.st)).put (d * 3 + 2) (.int .i64 q.wt)).alloc (.cells #[.int .i64 (q.pos : Nat), .int .i64 q.st, .int .i64 q.wt] 101))
          have hGQl : G + 2 ≤ Q := hG3
          have hRn := Lib.hid ((((hRd5.out.far (p := ⟨Q, d * 3, none⟩) (by show G ≠ Q; omega) (.int .i64 (q.pos : Nat))).far (p := ⟨Q, d * 3 + 1, none⟩) (by show G ≠ Q; omega) (.int .i64 q.st)).far (p := ⟨Q, d * 3 + 2, none⟩) (by show G ≠ Q; omega) (.int .i64 q.wt)).alloc (.cells #[.int .i64 (q.pos : Nat), .int .i64 q.st, .int .i64 q.wt] 101))
          have hSn := Lib.hid ((((hSd5.out.far (p := ⟨Q, d * 3, none⟩) (by show G + 1 ≠ Q; omega) (.int .i64 (q.pos : Nat))).far (p := ⟨Q, d * 3 + 1, none⟩) (by show G + 1 ≠ Q; omega) (.int .i64 q.st)).far (p := ⟨Q, d * 3 + 2, none⟩) (by show G + 1 ≠ Q; omega) (.int .i64 q.wt)).alloc (.cells #[.int .i64 (q.pos : Nat), .int .i64 q.st, .int .i64 q.wt] 101))
          have hBn := Lib.hid ((((hBd5.out.setCell (p := ⟨Q, d * 3, none⟩) (by show G ≤ Q; omega) (.int .i64 (q.pos : Nat))).setCell (p := ⟨Q, d * 3 + 1, none⟩) (by show G ≤ Q; omega) (.int .i64 q.st)).setCell (p := ⟨Q, d * 3 + 2, none⟩) (by show G ≤ Q; omega) (.int .i64 q.wt)).alloc (by simp; omega) (.cells #[.int .i64 (q.pos : Nat), .int .i64 q.st, .int .i64 q.wt] 101))
          go_wp2_with fail
          go_roundg (3 - (d + 1))
          case measure => omega
          case rel => exact ⟨d + 1, _, by omega, rfl, by go_num, hRn.out, hSn.out, hPn.out, hAn.out, hBn.out⟩
      · obtain rfl : d = 3 := by omega
        have hL : (prt m s' r).length = 3 := by rw [hMn0.out, hMn.out]
        have hP' := Lib.hid hPd
        have hA' := Lib.hid hAd
        have hB' := Lib.hid hBd
        have hL' := Lib.hid hL
        clear hRd hSd hPd hAd hBd hL
        go_wp2_with fail
        go_ret
        obtain rfl := hGg.out
        refine ⟨Q, cs, ?_, by omega, hP'.out, by rw [hL'.out]; exact hA'.out, hB'.out⟩
        rw [hL'.out]; rfl
end Go.Proofs.Ytbndonfpdioibaa
