/- The program's tracer goes on to the end of a run. The program's tracer counts up. The program's tracer goes to the next trace that has a weight. -/
import Derived.Test.YtbjpodgmmpchjaaTk
import Derived.Test.YtbjpodgmmpchjaaRt
import Derived.Deep.AppendLies
import Derived.Deep.RegionLaw
import Derived.StillTailTactics
import Derived.Deep.LoopGhost
import Derived.Deep.RegionHeld3
namespace Go.Proofs.Ytbjpodgmmpchjaa
set_option maxRecDepth 100000
set_option linter.unusedVariables false
open Go.RowKit


set_option maxHeartbeats 2000000 in
theorem runOn_any (os : List St) (m : Nat) (hM : os.length = m) (hlen : m ≤ 12) (hOK : os.all St.ok = true) (g c : Nat) (A : Option Addr) (row : List Int) (stk : List Rn) (now : Rn) (vr vs : Value) (w : World) (h : Trcr w g m A c os row stk now vr vs) (hi : Inv os row stk now) :
    Calls Try.prog 98 #[.pointer (some ⟨g, 0, none⟩)] w fun e w' => ∃ (row' : List Int) (stk' : List Rn) (now' : Rn) (vr' vs' : Value), e = .returned (.bool (decide (0 < now'.wt))) ∧ Trcr w' g m A c os row' stk' now' vr' vs' ∧ Inv os row' stk' now' ∧ Trd w w' g vr vs vr' vs' ∧ todo os row stk now = todo os row' stk' now' ∧ (os.length ≤ now'.pos ∨ now'.wt = 0) := by
  have hT := Lib.hid h
  have hI := Lib.hid hi
  clear h hi
  go_enter Try.func98, Try.ntmps98
  go_wp2_with fail
  go_loopg [] m (fun gn wr => ∃ (row' : List Int) (stk' : List Rn) (now' : Rn) (vr' vs' : Value), m ≤ now'.pos + gn ∧ Trcr wr g m A c os row' stk' now' vr' vs' ∧ Inv os row' stk' now' ∧ Trd w wr g vr vs vr' vs' ∧ todo os row stk now = todo os row' stk' now')
  case atStart => exact ⟨row, stk, now, vr, vs, by omega, hT.out, hI.out, ⟨KeptBut.refl _ _, fun k hk => .inl hk, fun k hk => .inl hk⟩, rfl⟩
  case round =>
    obtain ⟨row', stk', now', vr', vs', hgn, hT', hI', hD', htd⟩ := hrel
    obtain ⟨hA, hL, hR, hS⟩ := hT'
    obtain ⟨Ar, cr, hvr, _, _⟩ := IOwn.form hR
    obtain ⟨As, cs, hvs, _, _⟩ := owns_form hS
    subst hvr hvs
    have hcg := hA.cell
    have hTt := Lib.hid (show Trcr wr g m A c os row' stk' now' (.slice Ar row'.length cr) (.slice As stk'.length cs) from ⟨hA, hL, hR, hS⟩)
    have hIt := Lib.hid hI'
    have hI'2 := Lib.hid hI'
    have hDt := Lib.hid hD'
    have htt := Lib.hid htd
    have hwp := hI'.fit.2.2.1
    clear hL hR hS hI' hD' htd
    have hdr : ∀ q : Nat, Trcr (wr.drewN q) g m A c os row' stk' now' (.slice Ar row'.length cr) (.slice As stk'.length cs) ∧ Trd w (wr.drewN q) g vr vs (.slice Ar row'.length cr) (.slice As stk'.length cs) := fun q => ⟨⟨hTt.out.1.drewN q, hTt.out.2.1.below (Below.refl wr.heap.size wr |> fun b => (below_drewN b q).mono (Nat.le_of_lt hTt.out.1.lt)), hTt.out.2.2.1, hTt.out.2.2.2⟩, hDt.out.1.drewN q, hDt.out.2.1, hDt.out.2.2⟩
    have hDr := Lib.hid hdr
    clear hdr
    by_cases hw : now'.wt = 0
    · have hb : decide (0 < now'.wt) = false := decide_eq_false (by omega)
      rw [hw] at hcg
      go_wp2_with fail
      go_quiet (fail)
      go_wp2_with fail
      go_ret
      exact ⟨row', stk', now', _, _, by rw [hb]; rfl, (hDr.out _).1, hIt.out, (hDr.out _).2, htt.out, .inr hw⟩
    · have hb : decide (0 < now'.wt) = true := decide_eq_true (by omega)
      have hw' : 0 < now'.wt := by omega
      by_cases hlt : now'.pos < m
      · obtain ⟨gs, off, s, rfl, hgs, hs, hat⟩ := hTt.out.2.1.at_ hlt
        obtain ⟨c0, c1, c2, c3', c4, c5, c6⟩ := hat.open_
        have hok := List.all_eq_true.1 hOK s (List.mem_of_getElem? hs)
        have hS := Lib.hid hs
        have hIs := Lib.hid (fun wx => isDraw_any s wx)
        have hk0 : (0 : Int) ≤ (now'.pos : Int) := Int.natCast_nonneg _
        have hk1 : (now'.pos : Int) < (m : Int) := by omega
        clear hs
        go_wp2_with fail
        go_quiet (fail)
        go_wp2_with fail
        obtain ⟨hT2, hD2⟩ := hDr.out nq
        have hat2 : StAt (World.drewN wr nq) gs (off + now'.pos * 7) s := hat.keep (fun p hp => rfl)
        generalize World.drewN wr nq = WQ at hT2 hD2 hat2 ⊢
        clear hat hDr hTt hDt hcg c0 c1 c2 c3' c4 c5 c6
        have hgl := hT2.1.lt
        have hcg := hT2.1.cell
        obtain ⟨c0, c1, c2, c3', c4, c5, c6⟩ := hat2.open_
        have hTw := Lib.hid hT2
        have hDw := Lib.hid hD2
        have hAw := Lib.hid hat2
        clear hT2 hD2 hat2
        have e0 : WQ.cell? ⟨g, 0, none⟩ = some (.slice (some ⟨gs, off, none⟩) m c) := hcg 0
        have e3 : WQ.cell? ⟨g, 3, none⟩ = some (.int .i64 now'.pos) := hcg 3
        clear hcg
        have n0 := World.new_ne WQ _ e0
        have n3 := World.new_ne WQ _ e3
        have m0 := World.new_ne WQ _ c0
        have m1 := World.new_ne WQ _ c1
        have m2 := World.new_ne WQ _ c2
        have m3 := World.new_ne WQ _ c3'
        have m4 := World.new_ne WQ _ c4
        have m5 := World.new_ne WQ _ c5
        have m6 := World.new_ne WQ _ c6
        go_region_held3 (fun wx => wx.cell? ⟨g, 0, none⟩ = some (.slice (some ⟨gs, off, none⟩) m c) ∧ wx.cell? ⟨g, 3, none⟩ = some (.int .i64 now'.pos) ∧ wx.cell? ⟨gs, off + now'.pos * 7, none⟩ = some (.int .i64 s.k) ∧ wx.cell? ⟨gs, off + now'.pos * 7 + 1, none⟩ = some (.int .i64 s.a) ∧ wx.cell? ⟨gs, off + now'.pos * 7 + 2, none⟩ = some (.int .i64 s.b) ∧ wx.cell? ⟨gs, off + now'.pos * 7 + 3, none⟩ = some (.int .i64 s.c) ∧ wx.cell? ⟨gs, off + now'.pos * 7 + 4, none⟩ = some (.int .i64 s.u) ∧ wx.cell? ⟨gs, off + now'.pos * 7 + 5, none⟩ = some (.int .i64 s.v) ∧ wx.cell? ⟨gs, off + now'.pos * 7 + 6, none⟩ = some (.int .i64 s.x)) (go_keep) (fail)
        clear n0 n3 m0 m1 m2 m3 m4 m5 m6 e0 e3 c0 c1 c2 c3' c4 c5 c6
        go_wp2_with fail
        refine (hIs.out _).mono ?_
        rintro e w3 ⟨rfl, hb3⟩
        have hB3 : Below WQ.heap.size WQ w3 := (((Below.refl _ _).alloc (Nat.le_refl _) _).drew).trans (hb3.mono (by simp))
        have hG3 := Has.kept (w := (WQ.alloc (.cells #[.int .i64 s.k, .int .i64 s.a, .int .i64 s.b, .int .i64 s.c, .int .i64 s.u, .int .i64 s.v, .int .i64 s.x] 64)).drew) (Has.new WQ 64 #[.int .i64 s.k, .int .i64 s.a, .int .i64 s.b, .int .i64 s.c, .int .i64 s.u, .int .i64 s.v, .int .i64 s.x]) hb3
        have hT3 := hTw.out.below hB3
        have hD3 := Lib.hid (hDw.out.below hB3)
        generalize hGG : WQ.heap.size = G at hG3 ⊢
        have hGl : G < w3.heap.size := hG3.lt
        clear hb3 hB3 hTw hDw hAw hGG
        have hcg := hT3.1.cell
        have hfg := hT3.1.frozen
        have hcs := hG3.cell
        have hT3' := Lib.hid hT3
        have hG3' := Lib.hid hG3
        clear hT3 hG3
        cases hd : s.draws
        · have hst := Lib.hid (hI'2.out.own (s := s) hok)
          have htd := Lib.hid (todo_own (row := row') (stk := stk') hS.out hd (by omega : now'.wt ≠ 0))
          clear hd
          go_wp2_with fail
          go_region_law (first | (go_simp; go_at_call 74; refine (stepRun_any s now' 0 _ hok hI'2.out.fit (by omega) (by decide)).mono ?_; rintro e w4 ⟨rfl, hb4⟩; have hcg4 := (Has.kept (by exact hT3'.out.1) hb4).cell; have hfg4 := (Has.kept (by exact hT3'.out.1) hb4).frozen))
          all_goals
            have hb4' : Below w3.heap.size w3 w4 := ((Below.refl _ _).drew).trans hb4
            have hTD := Lib.hid (And.intro ((hT3'.out.below hb4').put_now (Rn.step s now' 0)) ((((hD3.out.below hb4').put 3 (.int .i64 (Rn.step s now' 0).pos)).put 4 (.int .i64 (Rn.step s now' 0).st)).put 5 (.int .i64 (Rn.step s now' 0).wt)))
            have hpl := Rn.pos_lt s now' 0
            clear hb4 hb4' hcg4 hfg4
            go_wp2
            go_roundg (m - (Rn.step s now' 0).pos)
            case measure => omega
            case rel => exact ⟨row', stk', Rn.step s now' 0, _, _, by omega, hTD.out.1, hst.out, hTD.out.2, htt.out.trans htd.out⟩
        · have hst := Lib.hid (hI'2.out.draw hS.out hok hd (by omega : now'.wt ≠ 0))
          have htd := Lib.hid (todo_draw (row := row') (stk := stk') hI'2.out.len hS.out hd (by omega : now'.wt ≠ 0))
          have hrl : row'.length ≤ 12 := by have := hI'2.out.pos; omega
          have hsl : stk'.length ≤ 12 := by have := hI'2.out.len; omega
          obtain ⟨i0, hi0, hz0, hz1', hz2'⟩ := info_parts info_int
          obtain ⟨j0, hj0, jz0, jz1, jz2⟩ := info_parts info_run
          clear hd
          have hor := Lib.hid ((hT3'.out.2.2.1).alloc (.cells #[.int .i64 0] 3))
          have hnw := Lib.hid (new_one w3 (.int .i64 0) 3)
          have hgl3 : g < w3.heap.size := hT3'.out.1.lt
          go_wp2_with (at_builtin; refine wpList_append_lies _ rfl (.tmp 40) (.tmp 41) 24 rfl (g + 1) 3 i0 _ 1 8 Try.underlying24 hi0 hz0 hz1' hz2' rfl (by decide) (.slice Ar row'.length cr) row'.length (ints row') rfl (by exact hor.out) ⟨w3.heap.size, 0, none⟩ 1 1 [.int .i64 0] rfl rfl (by exact hnw.out) (by simp [Value.oneCell']) (by omega) (by unfold maxLen; omega) (by omega) (by simp; omega) (w3.heap.size + 1) (by simp) ?_; intro gr cr2 w4 hown4 hgrow4 hat4 hlt4; have hK4 := grown_but hgrow4; have hA4 := (hT3'.out.but hK4 (fun i hi e => by have := (hT3'.out.row_gt e).1; omega)).1; have hcg4 := hA4.cell; have hfg4 := hA4.frozen)
          have hT5 := hT3'.out.push_row hK4 hown4
          have hD5 := Lib.hid (hD3.out.push_row (v' := .slice (some ⟨gr, 0, none⟩) (row'.length + 1) cr2) hK4 (fun k hk => by
            have hk' : gr = k := by simpa [Value.ownBlock] using hk
            subst hk'
            rcases hat4 with e | e
            · exact .inl e
            · exact .inr (by omega)))
          have hG5 : Has (w4.setCell ⟨g, 1, none⟩ (.slice (some ⟨gr, 0, none⟩) (row'.length + 1) cr2)) G 64 _ := (hG3'.out.but hK4 (fun e => by
            obtain ⟨c1, h1⟩ := owns_has hT3'.out.2.2.1 e
            exact has_ne h1 hG3'.out (by decide) rfl)).far (p := ⟨g, 1, none⟩) (fun e => has_ne hG3'.out hT3'.out.1 (by decide) e) _
          clear hK4 hA4 hcg4 hfg4 hown4 hgrow4 hat4 hlt4 hor hnw hcg hfg hcs
          generalize w4.setCell ⟨g, 1, none⟩ (.slice (some ⟨gr, 0, none⟩) (row'.length + 1) cr2) = W5 at hT5 hD5 hG5 ⊢
          have hcg := hT5.1.cell
          have hT5' := Lib.hid hT5
          have hG5' := Lib.hid hG5
          have hgl5 : g < W5.heap.size := hT5.1.lt
          have hos := Lib.hid (World.ownsRow.alloc hT5.2.2.2 (.cells #[.int .i64 now'.pos, .int .i64 now'.st, .int .i64 now'.wt] 73))
          have hnr := Lib.hid (new_run W5 now')
          clear hT5 hG5
          go_region_law (first | (refine step_append_lies _ rfl (.tmp 49) (.tmp 54) 75 rfl (g + 1) 73 j0 _ 3 24 Try.underlying75 hj0 jz0 jz1 jz2 rfl (by decide) (.slice As stk'.length cs) stk'.length (rnflat stk') (by simp [Act.eval]) (by exact hos.out) ⟨W5.heap.size, 0, none⟩ 1 1 now'.cells (by simp [Act.eval]) rfl (by exact hnr.out) (by simp [Rn.cells, Value.oneCell']) (by omega) (by unfold maxLen; omega) (by omega) (by simp; omega) (W5.heap.size + 1) (by simp) ?_; intro gs2 cs2 w6 hown6 hgrow6 hat6 hlt6; have hK6 : KeptBut W5 w6 (fun i => (Value.slice As stk'.length cs).ownBlock = some i) := grown_but_d (by exact hgrow6); have hA6 := (hT5'.out.but hK6 (fun i hi e => by have := (hT5'.out.stk_gt e).1; omega)).1; have hcg6 := hA6.cell; have hfg6 := hA6.frozen))
          all_goals
            have hT7 := hT5'.out.push_stk hK6 hown6
            have hD7 := Lib.hid (hD5.out.push_stk (v' := .slice (some ⟨gs2, 0, none⟩) (stk'.length + 1) cs2) hK6 (fun k hk => by
              have hk' : gs2 = k := by simpa [Value.ownBlock] using hk
              subst hk'
              rcases hat6 with e | e
              · exact .inl e
              · exact .inr (by omega)))
            have hG7 : Has (w6.setCell ⟨g, 2, none⟩ (.slice (some ⟨gs2, 0, none⟩) (stk'.length + 1) cs2)) G 64 _ := (hG5'.out.but hK6 (fun e => by
              obtain ⟨c1, h1⟩ := owns_has hT5'.out.2.2.2 e
              exact has_ne h1 hG5'.out (by decide) rfl)).far (p := ⟨g, 2, none⟩) (fun e => has_ne hG5'.out hT5'.out.1 (by decide) e) _
            clear hK6 hA6 hcg6 hfg6 hown6 hgrow6 hat6 hlt6 hos hnr hcg
            generalize w6.setCell ⟨g, 2, none⟩ (.slice (some ⟨gs2, 0, none⟩) (stk'.length + 1) cs2) = W7 at hT7 hD7 hG7 ⊢
            have hcg := hT7.1.cell
            have hcs := hG7.cell
            have hT7' := Lib.hid hT7
            clear hT7 hG7 hT5' hG5' hD5 hT3' hG3' hD3
            go_wp2_with fail
            go_region_law (first | (go_simp; go_at_call 74; refine (stepRun_any s now' 0 _ hok hI'2.out.fit (by omega) (by decide)).mono ?_; rintro e w8 ⟨rfl, hb8⟩; have hcg8 := (Has.kept (by exact hT7'.out.1) hb8).cell; have hfg8 := (Has.kept (by exact hT7'.out.1) hb8).frozen))
            all_goals
              have hb8' : Below W7.heap.size W7 w8 := ((Below.refl _ _).drew).trans hb8
              have hTD := Lib.hid (And.intro ((hT7'.out.below hb8').put_now (Rn.step s now' 0)) ((((hD7.out.below hb8').put 3 (.int .i64 (Rn.step s now' 0).pos)).put 4 (.int .i64 (Rn.step s now' 0).st)).put 5 (.int .i64 (Rn.step s now' 0).wt)))
              have hpl := Rn.pos_lt s now' 0
              clear hb8 hb8' hcg8 hfg8
              go_wp2
              go_roundg (m - (Rn.step s now' 0).pos)
              case measure => omega
              case rel => exact ⟨row' ++ [0], stk' ++ [now'], Rn.step s now' 0, _, _, by omega, hTD.out.1, hst.out, hTD.out.2, htt.out.trans htd.out⟩
      · have hk0 : ¬ ((now'.pos : Int) < (m : Int)) := by omega
        go_wp2_with fail
        go_quiet (fail)
        go_wp2_with fail
        go_ret
        exact ⟨row', stk', now', _, _, by rw [hb]; rfl, (hDr.out _).1, hIt.out, (hDr.out _).2, htt.out, .inl (by rw [hM]; omega)⟩
end Go.Proofs.Ytbjpodgmmpchjaa

namespace Go.Proofs.Ytbjpodgmmpchjaa
set_option maxRecDepth 100000
set_option linter.unusedVariables false
open Go.RowKit

/-- How counting up ends. -/
def Upd (os : List St) (m : Nat) (g c : Nat) (A : Option Addr) (row : List Int) (stk : List Rn) (now : Rn) (vr vs : Value) (w : World) (e : Ending) (w' : World) : Prop :=
  (e = .returned (.bool false) ∧ rest os row stk row.length = [] ∧ Trcr w' g m A c os row stk now vr vs ∧ Trd w w' g vr vs vr vs) ∨
  (∃ (row' : List Int) (stk' : List Rn) (now' : Rn) (vr' vs' : Value), e = .returned (.bool true) ∧ rest os row stk row.length = todo os row' stk' now' ∧ Trcr w' g m A c os row' stk' now' vr' vs' ∧ Inv os row' stk' now' ∧ Trd w w' g vr vs vr' vs')

set_option maxHeartbeats 2000000 in
theorem countUp_any (os : List St) (m : Nat) (hM : os.length = m) (hlen : m ≤ 12) (g c : Nat) (A : Option Addr) (row : List Int) (stk : List Rn) (now : Rn) (vr vs : Value) (w : World) (h : Trcr w g m A c os row stk now vr vs) (hi : Inv os row stk now) :
    Calls Try.prog 99 #[.pointer (some ⟨g, 0, none⟩)] w (Upd os m g c A row stk now vr vs w) := by
  obtain ⟨Ar, cr, hvr, hrc, hrm⟩ := IOwn.form h.2.2.1
  obtain ⟨As, cs, hvs, hsc, hsm⟩ := owns_form h.2.2.2
  subst hvr hvs
  have hrl : row.length ≤ 30 := by have := hi.len_le; omega
  have hls := Lib.hid hi.len
  rw [← hi.len] at h hsc ⊢
  generalize hn : row.length = n at hrl hrc h hsc ⊢
  have hcg := h.1.cell
  have hfg := h.1.frozen
  have hT := Lib.hid h
  have hI := Lib.hid hi
  have hN := Lib.hid hn
  have hO := Lib.hid (show w.ownsRow (g + 1) 3 1 (.slice Ar n cr) n (ints row) from by rw [← hn] at h ⊢; exact h.2.2.1)
  have hm1 : cr ≤ 9223372036854775807 := by unfold maxLen at hrm; omega
  have hm2 : cs ≤ 9223372036854775807 := by unfold maxLen at hsm; omega
  have hm0 : m ≤ 9223372036854775807 := by omega
  clear h hi hn hrm hsm
  go_enter Try.func99, Try.ntmps99
  go_wp2_with fail
  go_loop [3] (fun v => ∃ l : Int, v = .int .i64 l ∧ -1 ≤ l ∧ l < n ∧ rest os row stk n = rest os row stk (l + 1).toNat) (fun v => (intOf v + 1).toNat)
  case atStart => exact ⟨(n : Int) - 1, rfl, by omega, by omega, by rw [show ((n : Int) - 1 + 1).toNat = n by omega]⟩
  case round =>
    obtain ⟨l, rfl, hl1, hl2, hrs⟩ := hrel
    have hR := Lib.hid hrs
    clear hrs
    by_cases hl0 : 0 ≤ l
    · obtain ⟨j, rfl⟩ : ∃ j : Nat, l = j := ⟨l.toNat, by omega⟩
      have hjn : j < n := by omega
      obtain ⟨b, cur, rfl, hb, hhb, _, _, hcz, hcell⟩ := owns_open hO.out (show 0 < n by omega)
      obtain ⟨d, hd⟩ : ∃ d, row[j]? = some d := ⟨_, List.getElem?_eq_getElem (by rw [hN.out]; exact hjn)⟩
      have c0 : w.cell? ⟨b, j, none⟩ = some (.int .i64 d) := by rw [hcell j (by omega)]; exact ints_get hd
      have f0 := hhb.frozen j
      have hB := Lib.hid hhb
      have hne1 : ¬ b = g := by omega
      have hne2 : ¬ g = b := by omega
      have hne3 : b ≠ g := by omega
      clear hcell hhb
      have hD := Lib.hid hd
      have hR' := Lib.hid (show rest os row stk n = rest os row stk (j + 1) by rw [hR.out, show ((j : Int) + 1).toNat = j + 1 by omega])
      have hdv := hI.out.val d (List.mem_of_getElem? hd)
      clear hd hR
      by_cases hd2 : d = 2
      · subst hd2
        have hRd := Lib.hid (rest_done (os := os) (stk := stk) hD.out)
        go_wp2_with fail
        go_round
        case rel => exact ⟨(j : Int) - 1, rfl, by omega, by omega, by rw [hR'.out, hRd.out, show ((j : Int) - 1 + 1).toNat = j by omega]⟩
        case measure => (simp [intOf]; try omega)
      · have hdb : (d == 2) = false := by simpa using hd2
        go_wp2_with fail
        obtain ⟨r, hr⟩ : ∃ r, stk[j]? = some r := ⟨_, List.getElem?_eq_getElem (by have := hls.out; have := hN.out; omega)⟩
        obtain ⟨hfit, hrw, hjr, s, hs, hdr, hok⟩ := hI.out.at_ j r hr
        have hT9 := hT.out.cut (x := d + 1) hN.out (hls.out.symm.trans hN.out) hjn
        have hD9 := Lib.hid (Trd.cut (j := j) (x := d + 1) (show Trd w w g (.slice (some ⟨b, 0, none⟩) n cr) (.slice As n cs) (.slice (some ⟨b, 0, none⟩) n cr) (.slice As n cs) from ⟨KeptBut.refl _ _, fun k hk => .inl hk, fun k hk => .inl hk⟩))
        have hup := Lib.hid (rest_up hD.out (show 0 ≤ d ∧ d < 2 by omega) hr hs)
        have hIup := Lib.hid (hI.out.up hD.out (by omega) hr hs)
        generalize hW9 : ((w.setCell ⟨g, 1, none⟩ (.slice (some ⟨b, 0, none⟩) (j + 1) cr)).setCell ⟨g, 2, none⟩ (.slice As (j + 1) cs)).setCell ⟨b, j, none⟩ (.int .i64 (d + 1)) = W9 at hT9 hD9 ⊢
        have hs9 : W9.ownsRow (g + 1) 73 3 (.slice As (j + 1) cs) (j + 1) (rnflat (stk.take (j + 1))) := by
          have := hT9.2.2.2
          rwa [show (stk.take (j + 1)).length = j + 1 by rw [List.length_take, ← hls.out, hN.out]; omega] at this
        obtain ⟨bs, cur2, rfl, hbs, hhs, _, _, hsz, hscell⟩ := owns_open hs9 (Nat.succ_pos j)
        have hrt : (stk.take (j + 1))[j]? = some r := by rw [List.getElem?_take, if_pos (Nat.lt_succ_self j)]; exact hr
        have k0 : W9.cell? ⟨bs, j * 3, none⟩ = some (.int .i64 r.pos) := (hscell (j * 3) (by omega)).trans (rnflat_at (q := 0) hrt rfl)
        have k1 : W9.cell? ⟨bs, j * 3 + 1, none⟩ = some (.int .i64 r.st) := (hscell (j * 3 + 1) (by omega)).trans (rnflat_at (q := 1) hrt rfl)
        have k2 : W9.cell? ⟨bs, j * 3 + 2, none⟩ = some (.int .i64 r.wt) := (hscell (j * 3 + 2) (by omega)).trans (rnflat_at (q := 2) hrt rfl)
        have hrm : r.pos < m := by have := (List.getElem?_eq_some_iff.1 hs).1; omega
        obtain ⟨gs, off, s', rfl, hgs, hs', hat⟩ := hT9.2.1.at_ hrm
        obtain rfl : s' = s := Option.some.inj (hs'.symm.trans hs)
        obtain ⟨c0', c1', c2', c3', c4', c5', c6'⟩ := hat.open_
        have g0 : W9.cell? ⟨g, 0, none⟩ = some (.slice (some ⟨gs, off, none⟩) m c) := hT9.1.cell 0
        have g1 : W9.cell? ⟨g, 1, none⟩ = some (.slice (some ⟨b, 0, none⟩) (j + 1) cr) := hT9.1.cell 1
        have g2 : W9.cell? ⟨g, 2, none⟩ = some (.slice (some ⟨bs, 0, none⟩) (j + 1) cs) := hT9.1.cell 2
        have b0 : W9.cell? ⟨b, j, none⟩ = some (.int .i64 (d + 1)) := by
          obtain ⟨b', cur3, e, _, hh3, _, _, _, hc3⟩ := owns_open (w := W9) (xs := ints (row.take j ++ [d + 1])) (n := j + 1) (by
            have := hT9.2.2.1
            unfold IOwn at this
            rwa [show (row.take j ++ [d + 1]).length = j + 1 by rw [List.length_append, List.length_singleton, List.length_take, hN.out]; omega] at this) (Nat.succ_pos j)
          injection e with e
          injection e with e _ _
          subst e
          rw [hc3 j (by omega)]
          refine ints_get ?_
          rw [List.getElem?_append_right (by rw [List.length_take, hN.out]; omega)]
          rw [List.length_take, hN.out, Nat.min_eq_left (by omega), Nat.sub_self]
          rfl
        have hg9 : g < W9.heap.size := hT9.1.lt
        have hb9 : b < W9.heap.size := (hT9.row_gt (k := b) rfl).2
        have hbs9 : bs < W9.heap.size := hhs.lt
        have hSk := Lib.hid (show ∀ wx : World, Below W9.heap.size W9 wx → wx.cell? ⟨g, 0, none⟩ = some (.slice (some ⟨gs, off, none⟩) m c) ∧ wx.cell? ⟨g, 1, none⟩ = some (.slice (some ⟨b, 0, none⟩) (j + 1) cr) ∧ wx.cell? ⟨g, 2, none⟩ = some (.slice (some ⟨bs, 0, none⟩) (j + 1) cs) ∧ wx.cell? ⟨b, j, none⟩ = some (.int .i64 (d + 1)) ∧ wx.cell? ⟨bs, j * 3, none⟩ = some (.int .i64 r.pos) ∧ wx.cell? ⟨bs, j * 3 + 1, none⟩ = some (.int .i64 r.st) ∧ wx.cell? ⟨bs, j * 3 + 2, none⟩ = some (.int .i64 r.wt) ∧ wx.cell? ⟨gs, off + r.pos * 7, none⟩ = some (.int .i64 s'.k) ∧ wx.cell? ⟨gs, off + r.pos * 7 + 1, none⟩ = some (.int .i64 s'.a) ∧ wx.cell? ⟨gs, off + r.pos * 7 + 2, none⟩ = some (.int .i64 s'.b) ∧ wx.cell? ⟨gs, off + r.pos * 7 + 3, none⟩ = some (.int .i64 s'.c) ∧ wx.cell? ⟨gs, off + r.pos * 7 + 4, none⟩ = some (.int .i64 s'.u) ∧ wx.cell? ⟨gs, off + r.pos * 7 + 5, none⟩ = some (.int .i64 s'.v) ∧ wx.cell? ⟨gs, off + r.pos * 7 + 6, none⟩ = some (.int .i64 s'.x) from fun wx hw => ⟨(hw.cell (p := ⟨g, 0, none⟩) hg9).trans g0, (hw.cell (p := ⟨g, 1, none⟩) hg9).trans g1, (hw.cell (p := ⟨g, 2, none⟩) hg9).trans g2, (hw.cell (p := ⟨b, j, none⟩) hb9).trans b0, (hw.cell (p := ⟨bs, _, none⟩) hbs9).trans k0, (hw.cell (p := ⟨bs, _, none⟩) hbs9).trans k1, (hw.cell (p := ⟨bs, _, none⟩) hbs9).trans k2, (hw.cell (p := ⟨gs, _, none⟩) (Nat.lt_trans hgs hg9)).trans c0', (hw.cell (p := ⟨gs, _, none⟩) (Nat.lt_trans hgs hg9)).trans c1', (hw.cell (p := ⟨gs, _, none⟩) (Nat.lt_trans hgs hg9)).trans c2', (hw.cell (p := ⟨gs, _, none⟩) (Nat.lt_trans hgs hg9)).trans c3', (hw.cell (p := ⟨gs, _, none⟩) (Nat.lt_trans hgs hg9)).trans c4', (hw.cell (p := ⟨gs, _, none⟩) (Nat.lt_trans hgs hg9)).trans c5', (hw.cell (p := ⟨gs, _, none⟩) (Nat.lt_trans hgs hg9)).trans c6'⟩)
        have hbg : bs ≠ g := by omega
        have hgsg : gs ≠ g := by omega
        have hj3 : (0 : Int) ≤ (j : Int) := by omega
        have hp3 : (0 : Int) ≤ (r.pos : Int) := by omega
        have hp4 : (r.pos : Int) < (m : Int) := by omega
        have hT9' := Lib.hid hT9
        have hFit := Lib.hid hfit
        clear hT9 g0 g1 g2 b0 k0 k1 k2 c0' c1' c2' c3' c4' c5' c6' hat hscell hhs hs9 hrt hs hs' hr hdr hfit hfg c0 f0 hW9 hcg hdb hne1 hne2
        generalize hjq : j + 1 = q at hSk hT9' hD9 ⊢
        have hj4 : (j : Int) < (q : Int) := by omega
        have hJQ := Lib.hid hjq
        clear hjq
        have hSt := Lib.hid (show ∀ (wx : World) (ux uy uz : Value), (wx.cell? ⟨g, 0, none⟩ = some (.slice (some ⟨gs, off, none⟩) m c) ∧ wx.cell? ⟨g, 1, none⟩ = some (.slice (some ⟨b, 0, none⟩) q cr) ∧ wx.cell? ⟨g, 2, none⟩ = some (.slice (some ⟨bs, 0, none⟩) q cs) ∧ wx.cell? ⟨b, j, none⟩ = some (.int .i64 (d + 1)) ∧ wx.cell? ⟨bs, j * 3, none⟩ = some (.int .i64 r.pos) ∧ wx.cell? ⟨bs, j * 3 + 1, none⟩ = some (.int .i64 r.st) ∧ wx.cell? ⟨bs, j * 3 + 2, none⟩ = some (.int .i64 r.wt) ∧ wx.cell? ⟨gs, off + r.pos * 7, none⟩ = some (.int .i64 s'.k) ∧ wx.cell? ⟨gs, off + r.pos * 7 + 1, none⟩ = some (.int .i64 s'.a) ∧ wx.cell? ⟨gs, off + r.pos * 7 + 2, none⟩ = some (.int .i64 s'.b) ∧ wx.cell? ⟨gs, off + r.pos * 7 + 3, none⟩ = some (.int .i64 s'.c) ∧ wx.cell? ⟨gs, off + r.pos * 7 + 4, none⟩ = some (.int .i64 s'.u) ∧ wx.cell? ⟨gs, off + r.pos * 7 + 5, none⟩ = some (.int .i64 s'.v) ∧ wx.cell? ⟨gs, off + r.pos * 7 + 6, none⟩ = some (.int .i64 s'.x)) → ((((wx.setCell ⟨g, 3, none⟩ ux).setCell ⟨g, 4, none⟩ uy).setCell ⟨g, 5, none⟩ uz).cell? ⟨g, 0, none⟩ = some (.slice (some ⟨gs, off, none⟩) m c) ∧ (((wx.setCell ⟨g, 3, none⟩ ux).setCell ⟨g, 4, none⟩ uy).setCell ⟨g, 5, none⟩ uz).cell? ⟨g, 1, none⟩ = some (.slice (some ⟨b, 0, none⟩) q cr) ∧ (((wx.setCell ⟨g, 3, none⟩ ux).setCell ⟨g, 4, none⟩ uy).setCell ⟨g, 5, none⟩ uz).cell? ⟨g, 2, none⟩ = some (.slice (some ⟨bs, 0, none⟩) q cs) ∧ (((wx.setCell ⟨g, 3, none⟩ ux).setCell ⟨g, 4, none⟩ uy).setCell ⟨g, 5, none⟩ uz).cell? ⟨b, j, none⟩ = some (.int .i64 (d + 1)) ∧ (((wx.setCell ⟨g, 3, none⟩ ux).setCell ⟨g, 4, none⟩ uy).setCell ⟨g, 5, none⟩ uz).cell? ⟨bs, j * 3, none⟩ = some (.int .i64 r.pos) ∧ (((wx.setCell ⟨g, 3, none⟩ ux).setCell ⟨g, 4, none⟩ uy).setCell ⟨g, 5, none⟩ uz).cell? ⟨bs, j * 3 + 1, none⟩ = some (.int .i64 r.st) ∧ (((wx.setCell ⟨g, 3, none⟩ ux).setCell ⟨g, 4, none⟩ uy).setCell ⟨g, 5, none⟩ uz).cell? ⟨bs, j * 3 + 2, none⟩ = some (.int .i64 r.wt) ∧ (((wx.setCell ⟨g, 3, none⟩ ux).setCell ⟨g, 4, none⟩ uy).setCell ⟨g, 5, none⟩ uz).cell? ⟨gs, off + r.pos * 7, none⟩ = some (.int .i64 s'.k) ∧ (((wx.setCell ⟨g, 3, none⟩ ux).setCell ⟨g, 4, none⟩ uy).setCell ⟨g, 5, none⟩ uz).cell? ⟨gs, off + r.pos * 7 + 1, none⟩ = some (.int .i64 s'.a) ∧ (((wx.setCell ⟨g, 3, none⟩ ux).setCell ⟨g, 4, none⟩ uy).setCell ⟨g, 5, none⟩ uz).cell? ⟨gs, off + r.pos * 7 + 2, none⟩ = some (.int .i64 s'.b) ∧ (((wx.setCell ⟨g, 3, none⟩ ux).setCell ⟨g, 4, none⟩ uy).setCell ⟨g, 5, none⟩ uz).cell? ⟨gs, off + r.pos * 7 + 3, none⟩ = some (.int .i64 s'.c) ∧ (((wx.setCell ⟨g, 3, none⟩ ux).setCell ⟨g, 4, none⟩ uy).setCell ⟨g, 5, none⟩ uz).cell? ⟨gs, off + r.pos * 7 + 4, none⟩ = some (.int .i64 s'.u) ∧ (((wx.setCell ⟨g, 3, none⟩ ux).setCell ⟨g, 4, none⟩ uy).setCell ⟨g, 5, none⟩ uz).cell? ⟨gs, off + r.pos * 7 + 5, none⟩ = some (.int .i64 s'.v) ∧ (((wx.setCell ⟨g, 3, none⟩ ux).setCell ⟨g, 4, none⟩ uy).setCell ⟨g, 5, none⟩ uz).cell? ⟨gs, off + r.pos * 7 + 6, none⟩ = some (.int .i64 s'.x)) from fun wx ux uy uz ⟨a0, a1, a2, a3, a4, a5, a6, a7, a8, a9, a10, a11, a12, a13⟩ => ⟨far3 (.inr ⟨by simp, by simp, by simp⟩) a0, far3 (.inr ⟨by simp, by simp, by simp⟩) a1, far3 (.inr ⟨by simp, by simp, by simp⟩) a2, far3 (.inl hne3) a3, far3 (.inl hbg) a4, far3 (.inl hbg) a5, far3 (.inl hbg) a6, far3 (.inl hgsg) a7, far3 (.inl hgsg) a8, far3 (.inl hgsg) a9, far3 (.inl hgsg) a10, far3 (.inl hgsg) a11, far3 (.inl hgsg) a12, far3 (.inl hgsg) a13⟩)
        go_region_held3 (fun wx => wx.cell? ⟨g, 0, none⟩ = some (.slice (some ⟨gs, off, none⟩) m c) ∧ wx.cell? ⟨g, 1, none⟩ = some (.slice (some ⟨b, 0, none⟩) q cr) ∧ wx.cell? ⟨g, 2, none⟩ = some (.slice (some ⟨bs, 0, none⟩) q cs) ∧ wx.cell? ⟨b, j, none⟩ = some (.int .i64 (d + 1)) ∧ wx.cell? ⟨bs, j * 3, none⟩ = some (.int .i64 r.pos) ∧ wx.cell? ⟨bs, j * 3 + 1, none⟩ = some (.int .i64 r.st) ∧ wx.cell? ⟨bs, j * 3 + 2, none⟩ = some (.int .i64 r.wt) ∧ wx.cell? ⟨gs, off + r.pos * 7, none⟩ = some (.int .i64 s'.k) ∧ wx.cell? ⟨gs, off + r.pos * 7 + 1, none⟩ = some (.int .i64 s'.a) ∧ wx.cell? ⟨gs, off + r.pos * 7 + 2, none⟩ = some (.int .i64 s'.b) ∧ wx.cell? ⟨gs, off + r.pos * 7 + 3, none⟩ = some (.int .i64 s'.c) ∧ wx.cell? ⟨gs, off + r.pos * 7 + 4, none⟩ = some (.int .i64 s'.u) ∧ wx.cell? ⟨gs, off + r.pos * 7 + 5, none⟩ = some (.int .i64 s'.v) ∧ wx.cell? ⟨gs, off + r.pos * 7 + 6, none⟩ = some (.int .i64 s'.x)) (first | exact hSk.out _ (Below.refl _ _) | exact hSk.out _ ((Below.refl _ _).drew) | exact hSk.out _ (((Below.refl _ _).drew).trans (by assumption)) | exact hSt.out _ _ _ _ (by assumption) | go_keep) ((go_at_call 74; refine (stepRun_any s' r (d + 1) _ hok hFit.out (by omega) (by omega)).mono ?_; rintro e w10 ⟨rfl, hb10⟩; have hcg10 := (Has.kept (by exact hT9'.out.1) hb10).cell; have hfg10 := (Has.kept (by exact hT9'.out.1) hb10).frozen))
        have hb10' : Below W9.heap.size W9 w10 := ((Below.refl _ _).drew).trans hb10
        have hTD := Lib.hid (And.intro ((hT9'.out.below hb10').put_now (Rn.step s' r (d + 1))) ((((hD9.out.below hb10').put 3 (.int .i64 (Rn.step s' r (d + 1)).pos)).put 4 (.int .i64 (Rn.step s' r (d + 1)).st)).put 5 (.int .i64 (Rn.step s' r (d + 1)).wt)))
        clear hb10 hb10' hcg10 hfg10
        go_wp2
        go_ret
        have hq := hJQ.out
        subst hq
        exact .inr ⟨_, _, _, _, _, rfl, by rw [hN.out, hR'.out]; exact hup.out, hTD.out.1, hIup.out, hTD.out.2⟩
    · obtain rfl : l = -1 := by omega
      have hE := Lib.hid (show rest os row stk row.length = [] by rw [hN.out, hR.out]; rfl)
      go_wp2_with fail
      go_ret
      refine .inl ⟨rfl, hE.out, ?_, KeptBut.refl _ _, fun k hk => .inl hk, fun k hk => .inl hk⟩
      exact hT.out
end Go.Proofs.Ytbjpodgmmpchjaa

namespace Go.Proofs.Ytbjpodgmmpchjaa
set_option maxRecDepth 100000
set_option linter.unusedVariables false
open Go.RowKit

/-- How the way to a trace with a weight ends; ls are the runs that are still to come. -/
def Wtd (os : List St) (m : Nat) (g c : Nat) (A : Option Addr) (ls : List Leaf) (vr vs : Value) (w : World) (e : Ending) (w' : World) : Prop :=
  ∃ (row' : List Int) (stk' : List Rn) (now' : Rn) (vr' vs' : Value), Trcr w' g m A c os row' stk' now' vr' vs' ∧ Inv os row' stk' now' ∧ Trd w w' g vr vs vr' vs' ∧
    ((e = .returned (.bool true) ∧ 0 < now'.wt ∧ filt ls = (row', now'.st, now'.wt) :: filt (rest os row' stk' row'.length)) ∨ (e = .returned (.bool false) ∧ filt ls = []))

set_option maxHeartbeats 1000000 in
theorem toWeight_any (os : List St) (m : Nat) (hM : os.length = m) (hlen : m ≤ 12) (hOK : os.all St.ok = true) (g c : Nat) (A : Option Addr) (row : List Int) (stk : List Rn) (now : Rn) (vr vs : Value) (w : World) (h : Trcr w g m A c os row stk now vr vs) (hi : Inv os row stk now) :
    Calls Try.prog 69 #[.pointer (some ⟨g, 0, none⟩)] w (Wtd os m g c A (todo os row stk now) vr vs w) := by
  have hT := Lib.hid h
  have hI := Lib.hid hi
  clear h hi
  go_enter Try.func69, Try.ntmps69
  go_wp2_with fail
  go_loopg [] ((todo os row stk now).length) (fun gn wr => ∃ (row' : List Int) (stk' : List Rn) (now' : Rn) (vr' vs' : Value), Trcr wr g m A c os row' stk' now' vr' vs' ∧ Inv os row' stk' now' ∧ Trd w wr g vr vs vr' vs' ∧ (todo os row' stk' now').length ≤ gn ∧ filt (todo os row stk now) = filt (todo os row' stk' now'))
  case atStart => exact ⟨row, stk, now, vr, vs, hT.out, hI.out, ⟨KeptBut.refl _ _, fun k hk => .inl hk, fun k hk => .inl hk⟩, Nat.le_refl _, rfl⟩
  case round =>
    obtain ⟨row', stk', now', vr', vs', hT', hI', hD', hgn, hft⟩ := hrel
    have cR := Lib.hid (runOn_any os m hM hlen hOK g c A row' stk' now' vr' vs' wr hT' hI')
    have hD1 := Lib.hid hD'
    have hF := Lib.hid hft
    clear hT' hI' hD' hft
    go_wp2_with fail
    refine (cR.out).mono ?_
    rintro e w1 ⟨row1, stk1, now1, vr1, vs1, he, hT1, hI1, hD2, htd, hend⟩
    have hleaf := Lib.hid (todo_leaf (row := row1) (stk := stk1) hend)
    have hDD := Lib.hid (hD1.out.trans hD2)
    have hTd := Lib.hid htd
    have cU := Lib.hid (countUp_any os m hM hlen g c A row1 stk1 now1 vr1 vs1 w1 hT1 hI1)
    have hT1' := Lib.hid hT1
    have hI1' := Lib.hid hI1
    have hw0 := hI1.fit.2.2.1
    have hgn' := Lib.hid hgn
    clear hT1 hI1 hD2 htd hend hgn
    by_cases hw : 0 < now1.wt
    · have hR := Lib.hid (show filt (todo os row stk now) = (row1, now1.st, now1.wt) :: filt (rest os row1 stk1 row1.length) by
        rw [hF.out, hTd.out, hleaf.out]
        exact filt_yes (by show now1.wt ≠ 0; omega))
      rw [decide_eq_true hw] at he
      subst he
      go_wp2_with fail
      go_ret
      exact ⟨row1, stk1, now1, vr1, vs1, hT1'.out, hI1'.out, hDD.out, .inl ⟨rfl, hw, hR.out⟩⟩
    · have hz : now1.wt = 0 := by omega
      have hlt := Lib.hid (show (rest os row1 stk1 row1.length).length < (todo os row' stk' now').length by
        rw [hTd.out, hleaf.out]; exact Nat.lt_succ_self _)
      have hR := Lib.hid (show filt (todo os row stk now) = filt (rest os row1 stk1 row1.length) by
        rw [hF.out, hTd.out, hleaf.out]
        exact filt_no hz)
      clear hz
      rw [decide_eq_false hw] at he
      subst he
      go_wp2_with fail
      refine (cU.out).mono ?_
      rintro e w2 (⟨rfl, hnil, hT2, hD2⟩ | ⟨row2, stk2, now2, vr2, vs2, rfl, hrs, hT2, hI2, hD2⟩)
      · have hE := Lib.hid (And.intro hnil (And.intro hT2 hD2))
        clear hnil hT2 hD2
        go_wp2_with fail
        go_ret
        exact ⟨row1, stk1, now1, vr1, vs1, hE.out.2.1, hI1'.out, hDD.out.trans hE.out.2.2, .inr ⟨rfl, by rw [hR.out, hE.out.1]; rfl⟩⟩
      · have hE := Lib.hid (And.intro hrs (And.intro hT2 (And.intro hI2 hD2)))
        clear hrs hT2 hI2 hD2
        go_wp2_with fail
        go_roundg ((todo os row2 stk2 now2).length)
        case measure =>
          have h1 := hlt.out
          rw [hE.out.1] at h1
          have h2 := hgn'.out
          omega
        case rel => exact ⟨row2, stk2, now2, vr2, vs2, hE.out.2.1, hE.out.2.2.1, hDD.out.trans hE.out.2.2.2, Nat.le_refl _, by rw [hR.out, hE.out.1]⟩

theorem toNext_any (os : List St) (m : Nat) (hM : os.length = m) (hlen : m ≤ 12) (hOK : os.all St.ok = true) (g c : Nat) (A : Option Addr) (row : List Int) (stk : List Rn) (now : Rn) (vr vs : Value) (w : World) (h : Trcr w g m A c os row stk now vr vs) (hi : Inv os row stk now) :
    Calls Try.prog 70 #[.pointer (some ⟨g, 0, none⟩)] w (Wtd os m g c A (rest os row stk row.length) vr vs w) := by
  have hI := Lib.hid hi
  have cU := Lib.hid (countUp_any os m hM hlen g c A row stk now vr vs w h hi)
  clear h hi
  go_enter Try.func70, Try.ntmps70
  go_wp2_with fail
  refine (cU.out).mono ?_
  rintro e w2 (⟨rfl, hnil, hT2, hD2⟩ | ⟨row2, stk2, now2, vr2, vs2, rfl, hrs, hT2, hI2, hD2⟩)
  · have hE := Lib.hid (And.intro hnil (And.intro hT2 hD2))
    clear hnil hT2 hD2
    go_wp2_with fail
    go_ret
    exact ⟨row, stk, now, vr, vs, hE.out.2.1, hI.out, hE.out.2.2, .inr ⟨rfl, by rw [hE.out.1]; rfl⟩⟩
  · have hE := Lib.hid (And.intro hrs (And.intro hT2 (And.intro hI2 hD2)))
    have cW := Lib.hid (toWeight_any os m hM hlen hOK g c A row2 stk2 now2 vr2 vs2 w2 hT2 hI2)
    clear hrs hT2 hI2 hD2
    go_wp2_with fail
    refine (cW.out).mono ?_
    rintro e w3 ⟨row3, stk3, now3, vr3, vs3, hT3, hI3, hD3, hr⟩
    have hX := Lib.hid (And.intro hT3 (And.intro hI3 (hE.out.2.2.2.trans hD3)))
    clear hT3 hI3 hD3
    rcases hr with ⟨rfl, hw, hf⟩ | ⟨rfl, hf⟩
    · have hf' := Lib.hid hf
      clear hf
      go_wp2_with fail
      go_ret
      exact ⟨row3, stk3, now3, vr3, vs3, hX.out.1, hX.out.2.1, hX.out.2.2, .inl ⟨rfl, hw, by rw [hE.out.1]; exact hf'.out⟩⟩
    · have hf' := Lib.hid hf
      clear hf
      go_wp2_with fail
      go_ret
      exact ⟨row3, stk3, now3, vr3, vs3, hX.out.1, hX.out.2.1, hX.out.2.2, .inr ⟨rfl, by rw [hE.out.1]; exact hf'.out⟩⟩
end Go.Proofs.Ytbjpodgmmpchjaa
