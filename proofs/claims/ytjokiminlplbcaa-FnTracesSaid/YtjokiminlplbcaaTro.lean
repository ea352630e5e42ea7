/- The program's tracer goes on to the end of a run. -/
import Derived.Test.YtjokiminlplbcaaTrk
import Derived.Test.YtjokiminlplbcaaRti
import Derived.Deep.AppendLies
import Derived.Deep.RegionLaw
import Derived.StillTailTactics
import Derived.Deep.LoopGhost
import Derived.Deep.RegionHeld3
namespace Go.Proofs.Ytjokiminlplbcaa
set_option maxRecDepth 100000
set_option linter.unusedVariables false
open Go.RowKit


set_option maxHeartbeats 2000000 in
theorem runOn_any (os : List St) (m : Nat) (hM : os.length = m) (hlen : m ≤ 12) (hOK : os.all St.ok = true) (g c : Nat) (A : Option Addr) (row : List Int) (stk : List Rn) (now : Rn) (vr vs : Value) (w : World) (h : Trcr w g m A c os row stk now vr vs) (hi : Inv os row stk now) :
    Calls Try.prog 91 #[.pointer (some ⟨g, 0, none⟩)] w fun e w' => ∃ (row' : List Int) (stk' : List Rn) (now' : Rn) (vr' vs' : Value), e = .returned (.bool (decide (0 < now'.wt))) ∧ Trcr w' g m A c os row' stk' now' vr' vs' ∧ Inv os row' stk' now' ∧ Trd w w' g vr vs vr' vs' ∧ todo os row stk now = todo os row' stk' now' ∧ (os.length ≤ now'.pos ∨ now'.wt = 0) := by
  have hT := Lib.hid h
  have hI := Lib.hid hi
  clear h hi
  go_enter Try.func91, Try.ntmps91
  go_wp2_with fail
  go_loopg [] m (fun gn wr => ∃ (row' : List Int) (stk' : List Rn) (now' : Rn) (vr' vs' : Value), m ≤ now'.pos + gn ∧ Trcr wr g m A c os row' stk' now' vr' vs' ∧ Inv os row' stk' now' ∧ Trd w wr g vr vs vr' vs' ∧ todo os row stk now = todo os row' stk' now')
  case atStart => exact ⟨row, stk, now, vr, vs, by omega, hT.out, hI.out, ⟨KeptBut.refl _ _, fun k hk => .inl hk, fun k hk => .inl hk⟩, rfl⟩
  case round =>
    obtain ⟨row', stk', now', vr', vs', hgn, hT', hI', hD', htd⟩ := hrel
    obtain ⟨hA, hL, hR, hS⟩ := hT'
    obtain ⟨Ar, cr, hvr, _, _⟩ := IOwn.form hR
    obtain ⟨As, cs, hvs, _, _⟩ := owns_form hS
    subst hvr hvs
    have hcg := hA.cell
    have hTt := Lib.hid (show Trcr wr g m A c os row' stk' now' (.slice Ar row'.length cr) (.slice As stk'.length cs) from ⟨hA, hL, hR, hS⟩)
    have hIt := Lib.hid hI'
    have hI'2 := Lib.hid hI'
    have hDt := Lib.hid hD'
    have htt := Lib.hid htd
    have hwp := hI'.fit.2.2.1
    clear hL hR hS hI' hD' htd
    have hdr : ∀ q : Nat, Trcr (wr.drewN q) g m A c os row' stk' now' (.slice Ar row'.length cr) (.slice As stk'.length cs) ∧ Trd w (wr.drewN q) g vr vs (.slice Ar row'.length cr) (.slice As stk'.length cs) := fun q => ⟨⟨hTt.out.1.drewN q, hTt.out.2.1.below (Below.refl wr.heap.size wr |> fun b => (below_drewN b q).mono (Nat.le_of_lt hTt.out.1.lt)), hTt.out.2.2.1, hTt.out.2.2.2⟩, hDt.out.1.drewN q, hDt.out.2.1, hDt.out.2.2⟩
    have hDr := Lib.hid hdr
    clear hdr
    by_cases hw : now'.wt = 0
    · have hb : decide (0 < now'.wt) = false := decide_eq_false (by omega)
      rw [hw] at hcg
      go_wp2_with fail
      go_quiet (fail)
      go_wp2_with fail
      go_ret
      exact ⟨row', stk', now', _, _, by rw [hb]; rfl, (hDr.out _).1, hIt.out, (hDr.out _).2, htt.out, .inr hw⟩
    · have hb : decide (0 < now'.wt) = true := decide_eq_true (by omega)
      have hw' : 0 < now'.wt := by omega
      by_cases hlt : now'.pos < m
      · obtain ⟨gs, off, s, rfl, hgs, hs, hat⟩ := hTt.out.2.1.at_ hlt
        obtain ⟨c0, c1, c2, c3', c4, c5, c6⟩ := hat.open_
        have hok := List.all_eq_true.1 hOK s (List.mem_of_getElem? hs)
        have hS := Lib.hid hs
        have hIs := Lib.hid (fun wx => isDraw_any s wx)
        have hk0 : (0 : Int) ≤ (now'.pos : Int) := Int.natCast_nonneg _
        have hk1 : (now'.pos : Int) < (m : Int) := by omega
        clear hs
        go_wp2_with fail
        go_quiet (fail)
        go_wp2_with fail
        obtain ⟨hT2, hD2⟩ := hDr.out nq
        have hat2 : StAt (World.drewN wr nq) gs (off + now'.pos * 7) s := hat.keep (fun p hp => rfl)
        generalize World.drewN wr nq = WQ at hT2 hD2 hat2 ⊢
        clear hat hDr hTt hDt hcg c0 c1 c2 c3' c4 c5 c6
        have hgl := hT2.1.lt
        have hcg := hT2.1.cell
        obtain ⟨c0, c1, c2, c3', c4, c5, c6⟩ := hat2.open_
        have hTw := Lib.hid hT2
        have hDw := Lib.hid hD2
        have hAw := Lib.hid hat2
        clear hT2 hD2 hat2
        have e0 : WQ.cell? ⟨g, 0, none⟩ = some (.slice (some ⟨gs, off, none⟩) m c) := hcg 0
        have e3 : WQ.cell? ⟨g, 3, none⟩ = some (.int .i64 now'.pos) := hcg 3
        clear hcg
        have n0 := World.new_ne WQ _ e0
        have n3 := World.new_ne WQ _ e3
        have m0 := World.new_ne WQ _ c0
        have m1 := World.new_ne WQ _ c1
        have m2 := World.new_ne WQ _ c2
        have m3 := World.new_ne WQ _ c3'
        have m4 := World.new_ne WQ _ c4
        have m5 := World.new_ne WQ _ c5
        have m6 := World.new_ne WQ _ c6
        go_region_held3 (fun wx => wx.cell? ⟨g, 0, none⟩ = some (.slice (some ⟨gs, off, none⟩) m c) ∧ wx.cell? ⟨g, 3, none⟩ = some (.int .i64 now'.pos) ∧ wx.cell? ⟨gs, off + now'.pos * 7, none⟩ = some (.int .i64 s.k) ∧ wx.cell? ⟨gs, off + now'.pos * 7 + 1, none⟩ = some (.int .i64 s.a) ∧ wx.cell? ⟨gs, off + now'.pos * 7 + 2, none⟩ = some (.int .i64 s.b) ∧ wx.cell? ⟨gs, off + now'.pos * 7 + 3, none⟩ = some (.int .i64 s.c) ∧ wx.cell? ⟨gs, off + now'.pos * 7 + 4, none⟩ = some (.int .i64 s.u) ∧ wx.cell? ⟨gs, off + now'.pos * 7 + 5, none⟩ = some (.int .i64 s.v) ∧ wx.cell? ⟨gs, off + now'.pos * 7 + 6, none⟩ = some (.int .i64 s.x)) (go_keep) (fail)
        clear n0 n3 m0 m1 m2 m3 m4 m5 m6 e0 e3 c0 c1 c2 c3' c4 c5 c6
        go_wp2_with fail
        refine (hIs.out _).mono ?_
        rintro e w3 ⟨rfl, hb3⟩
        have hB3 : Below WQ.heap.size WQ w3 := (((Below.refl _ _).alloc (Nat.le_refl _) _).drew).trans (hb3.mono (by simp))
        have hG3 := Has.kept (w := (WQ.alloc (.cells #[.int .i64 s.k, .int .i64 s.a, .int .i64 s.b, .int .i64 s.c, .int .i64 s.u, .int .i64 s.v, .int .i64 s.x] 83)).drew) (Has.new WQ 83 #[.int .i64 s.k, .int .i64 s.a, .int .i64 s.b, .int .i64 s.c, .int .i64 s.u, .int .i64 s.v, .int .i64 s.x]) hb3
        have hT3 := hTw.out.below hB3
        have hD3 := Lib.hid (hDw.out.below hB3)
        generalize hGG : WQ.heap.size = G at hG3 ⊢
        have hGl : G < w3.heap.size := hG3.lt
        clear hb3 hB3 hTw hDw hAw hGG
        have hcg := hT3.1.cell
        have hfg := hT3.1.frozen
        have hcs := hG3.cell
        have hT3' := Lib.hid hT3
        have hG3' := Lib.hid hG3
        clear hT3 hG3
        cases hd : s.draws
        · have hst := Lib.hid (hI'2.out.own (s := s) hok)
          have htd := Lib.hid (todo_own (row := row') (stk := stk') hS.out hd (by omega : now'.wt ≠ 0))
          clear hd
          go_wp2_with fail
          go_region_law (first | (go_simp; go_at_call 68; refine (stepRun_any s now' 0 _ hok hI'2.out.fit (by omega) (by decide)).mono ?_; rintro e w4 ⟨rfl, hb4⟩; have hcg4 := (Has.kept (by exact hT3'.out.1) hb4).cell; have hfg4 := (Has.kept (by exact hT3'.out.1) hb4).frozen))
          all_goals
            have hb4' : Below w3.heap.size w3 w4 := ((Below.refl _ _).drew).trans hb4
            have hTD := Lib.hid (And.intro ((hT3'.out.below hb4').put_now (Rn.step s now' 0)) ((((hD3.out.below hb4').put 3 (.int .i64 (Rn.step s now' 0).pos)).put 4 (.int .i64 (Rn.step s now' 0).st)).put 5 (.int .i64 (Rn.step s now' 0).wt)))
            have hpl := Rn.pos_lt s now' 0
            clear hb4 hb4' hcg4 hfg4
            go_wp2
            go_roundg (m - (Rn.step s now' 0).pos)
            case measure => omega
            case rel => exact ⟨row', stk', Rn.step s now' 0, _, _, by omega, hTD.out.1, hst.out, hTD.out.2, htt.out.trans htd.out⟩
        · have hst := Lib.hid (hI'2.out.draw hS.out hok hd (by omega : now'.wt ≠ 0))
          have htd := Lib.hid (todo_draw (row := row') (stk := stk') hI'2.out.len hS.out hd (by omega : now'.wt ≠ 0))
          have hrl : row'.length ≤ 12 := by have := hI'2.out.pos; omega
          have hsl : stk'.length ≤ 12 := by have := hI'2.out.len; omega
          obtain ⟨i0, hi0, hz0, hz1', hz2'⟩ := info_parts info_int
          obtain ⟨j0, hj0, jz0, jz1, jz2⟩ := info_parts info_run
          clear hd
          have hor := Lib.hid ((hT3'.out.2.2.1).alloc (.cells #[.int .i64 0] 3))
          have hnw := Lib.hid (new_one w3 (.int .i64 0) 3)
          have hgl3 : g < w3.heap.size := hT3'.out.1.lt
          go_wp2_with (at_builtin; refine wpList_append_lies _ rfl (.tmp 40) (.tmp 41) 28 rfl (g + 1) 3 i0 _ 1 8 Try.underlying28 hi0 hz0 hz1' hz2' rfl (by decide) (.slice Ar row'.length cr) row'.length (ints row') rfl (by exact hor.out) ⟨w3.heap.size, 0, none⟩ 1 1 [.int .i64 0] rfl rfl (by exact hnw.out) (by simp [Value.oneCell']) (by omega) (by unfold maxLen; omega) (by omega) (by simp; omega) (w3.heap.size + 1) (by simp) ?_; intro gr cr2 w4 hown4 hgrow4 hat4 hlt4; have hK4 := grown_but hgrow4; have hA4 := (hT3'.out.but hK4 (fun i hi e => by have := (hT3'.out.row_gt e).1; omega)).1; have hcg4 := hA4.cell; have hfg4 := hA4.frozen)
          have hT5 := hT3'.out.push_row hK4 hown4
          have hD5 := Lib.hid (hD3.out.push_row (v' := .slice (some ⟨gr, 0, none⟩) (row'.length + 1) cr2) hK4 (fun k hk => by
            have hk' : gr = k := by simpa [Value.ownBlock] using hk
            subst hk'
            rcases hat4 with e | e
            · exact .inl e
            · exact .inr (by omega)))
          have hG5 : Has (w4.setCell ⟨g, 1, none⟩ (.slice (some ⟨gr, 0, none⟩) (row'.length + 1) cr2)) G 83 _ := (hG3'.out.but hK4 (fun e => by
            obtain ⟨c1, h1⟩ := owns_has hT3'.out.2.2.1 e
            exact has_ne h1 hG3'.out (by decide) rfl)).far (p := ⟨g, 1, none⟩) (fun e => has_ne hG3'.out hT3'.out.1 (by decide) e) _
          clear hK4 hA4 hcg4 hfg4 hown4 hgrow4 hat4 hlt4 hor hnw hcg hfg hcs
          generalize w4.setCell ⟨g, 1, none⟩ (.slice (some ⟨gr, 0, none⟩) (row'.length + 1) cr2) = W5 at hT5 hD5 hG5 ⊢
          have hcg := hT5.1.cell
          have hT5' := Lib.hid hT5
          have hG5' := Lib.hid hG5
          have hgl5 : g < W5.heap.size := hT5.1.lt
          have hos := Lib.hid (World.ownsRow.alloc hT5.2.2.2 (.cells #[.int .i64 now'.pos, .int .i64 now'.st, .int .i64 now'.wt] 66))
          have hnr := Lib.hid (new_run W5 now')
          clear hT5 hG5
          go_region_law (first | (refine step_append_lies _ rfl (.tmp 49) (.tmp 54) 64 rfl (g + 1) 66 j0 _ 3 24 Try.underlying64 hj0 jz0 jz1 jz2 rfl (by decide) (.slice As stk'.length cs) stk'.length (rnflat stk') (by simp [Act.eval]) (by exact hos.out) ⟨W5.heap.size, 0, none⟩ 1 1 now'.cells (by simp [Act.eval]) rfl (by exact hnr.out) (by simp [Rn.cells, Value.oneCell']) (by omega) (by unfold maxLen; omega) (by omega) (by simp; omega) (W5.heap.size + 1) (by simp) ?_; intro gs2 cs2 w6 hown6 hgrow6 hat6 hlt6; have hK6 : KeptBut W5 w6 (fun i => (Value.slice As stk'.length cs).ownBlock = some i) := grown_but_d (by exact hgrow6); have hA6 := (hT5'.out.but hK6 (fun i hi e => by have := (hT5'.out.stk_gt e).1; omega)).1; have hcg6 := hA6.cell; have hfg6 := hA6.frozen))
          all_goals
            have hT7 := hT5'.out.push_stk hK6 hown6
            have hD7 := Lib.hid (hD5.out.push_stk (v' := .slice (some ⟨gs2, 0, none⟩) (stk'.length + 1) cs2) hK6 (fun k hk => by
              have hk' : gs2 = k := by simpa [Value.ownBlock] using hk
              subst hk'
              rcases hat6 with e | e
              · exact .inl e
              · exact .inr (by omega)))
            have hG7 : Has (w6.setCell ⟨g, 2, none⟩ (.slice (some ⟨gs2, 0, none⟩) (stk'.length + 1) cs2)) G 83 _ := (hG5'.out.but hK6 (fun e => by
              obtain ⟨c1, h1⟩ := owns_has hT5'.out.2.2.2 e
              exact has_ne h1 hG5'.out (by decide) rfl)).far (p := ⟨g, 2, none⟩) (fun e => has_ne hG5'.out hT5'.out.1 (by decide) e) _
            clear hK6 hA6 hcg6 hfg6 hown6 hgrow6 hat6 hlt6 hos hnr hcg
            generalize w6.setCell ⟨g, 2, none⟩ (.slice (some ⟨gs2, 0, none⟩) (stk'.length + 1) cs2) = W7 at hT7 hD7 hG7 ⊢
            have hcg := hT7.1.cell
            have hcs := hG7.cell
            have hT7' := Lib.hid hT7
            clear hT7 hG7 hT5' hG5' hD5 hT3' hG3' hD3
            go_wp2_with fail
            go_region_law (first | (go_simp; go_at_call 68; refine (stepRun_any s now' 0 _ hok hI'2.out.fit (by omega) (by decide)).mono ?_; rintro e w8 ⟨rfl, hb8⟩; have hcg8 := (Has.kept (by exact hT7'.out.1) hb8).cell; have hfg8 := (Has.kept (by exact hT7'.out.1) hb8).frozen))
            all_goals
              have hb8' : Below W7.heap.size W7 w8 := ((Below.refl _ _).drew).trans hb8
              have hTD := Lib.hid (And.intro ((hT7'.out.below hb8').put_now (Rn.step s now' 0)) ((((hD7.out.below hb8').put 3 (.int .i64 (Rn.step s now' 0).pos)).put 4 (.int .i64 (Rn.step s now' 0).st)).put 5 (.int .i64 (Rn.step s now' 0).wt)))
              have hpl := Rn.pos_lt s now' 0
              clear hb8 hb8' hcg8 hfg8
              go_wp2
              go_roundg (m - (Rn.step s now' 0).pos)
              case measure => omega
              case rel => exact ⟨row' ++ [0], stk' ++ [now'], Rn.step s now' 0, _, _, by omega, hTD.out.1, hst.out, hTD.out.2, htt.out.trans htd.out⟩
      · have hk0 : ¬ ((now'.pos : Int) < (m : Int)) := by omega
        go_wp2_with fail
        go_quiet (fail)
        go_wp2_with fail
        go_ret
        exact ⟨row', stk', now', _, _, by rw [hb]; rfl, (hDr.out _).1, hIt.out, (hDr.out _).2, htt.out, .inl (by rw [hM]; omega)⟩
end Go.Proofs.Ytjokiminlplbcaa
