/- The program's tracer counts up. -/
import Derived.Test.YtjokiminlplbcaaTrk
import Derived.Test.YtjokiminlplbcaaRti
import Derived.Deep.AppendLies
import Derived.Deep.RegionLaw
import Derived.StillTailTactics
import Derived.Deep.LoopGhost
import Derived.Deep.RegionHeld3
namespace Go.Proofs.Ytjokiminlplbcaa
set_option maxRecDepth 100000
set_option linter.unusedVariables false
open Go.RowKit

/-- How counting up ends. -/
def Upd (os : List St) (m : Nat) (g c : Nat) (A : Option Addr) (row : List Int) (stk : List Rn) (now : Rn) (vr vs : Value) (w : World) (e : Ending) (w' : World) : Prop :=
  (e = .returned (.bool false) ∧ rest os row stk row.length = [] ∧ Trcr w' g m A c os row stk now vr vs ∧ Trd w w' g vr vs vr vs) ∨
  (∃ (row' : List Int) (stk' : List Rn) (now' : Rn) (vr' vs' : Value), e = .returned (.bool true) ∧ rest os row stk row.length = todo os row' stk' now' ∧ Trcr w' g m A c os row' stk' now' vr' vs' ∧ Inv os row' stk' now' ∧ Trd w w' g vr vs vr' vs')

set_option maxHeartbeats 2000000 in
theorem countUp_any (os : List St) (m : Nat) (hM : os.length = m) (hlen : m ≤ 12) (g c : Nat) (A : Option Addr) (row : List Int) (stk : List Rn) (now : Rn) (vr vs : Value) (w : World) (h : Trcr w g m A c os row stk now vr vs) (hi : Inv os row stk now) :
    Calls Try.prog 92 #[.pointer (some ⟨g, 0, none⟩)] w (Upd os m g c A row stk now vr vs w) := by
  obtain ⟨Ar, cr, hvr, hrc, hrm⟩ := IOwn.form h.2.2.1
  obtain ⟨As, cs, hvs, hsc, hsm⟩ := owns_form h.2.2.2
  subst hvr hvs
  have hrl : row.length ≤ 30 := by have := hi.len_le; omega
  have hls := Lib.hid hi.len
  rw [← hi.len] at h hsc ⊢
  generalize hn : row.length = n at hrl hrc h hsc ⊢
  have hcg := h.1.cell
  have hfg := h.1.frozen
  have hT := Lib.hid h
  have hI := Lib.hid hi
  have hN := Lib.hid hn
  have hO := Lib.hid (show w.ownsRow (g + 1) 3 1 (.slice Ar n cr) n (ints row) from by rw [← hn] at h ⊢; exact h.2.2.1)
  have hm1 : cr ≤ 9223372036854775807 := by unfold maxLen at hrm; omega
  have hm2 : cs ≤ 9223372036854775807 := by unfold maxLen at hsm; omega
  have hm0 : m ≤ 9223372036854775807 := by omega
  clear h hi hn hrm hsm
  go_enter Try.func92, Try.ntmps92
  go_wp2_with fail
  go_loop [3] (fun v => ∃ l : Int, v = .int .i64 l ∧ -1 ≤ l ∧ l < n ∧ rest os row stk n = rest os row stk (l + 1).toNat) (fun v => (intOf v + 1).toNat)
  case atStart => exact ⟨(n : Int) - 1, rfl, by omega, by omega, by rw [show ((n : Int) - 1 + 1).toNat = n by omega]⟩
  case round =>
    obtain ⟨l, rfl, hl1, hl2, hrs⟩ := hrel
    have hR := Lib.hid hrs
    clear hrs
    by_cases hl0 : 0 ≤ l
    · obtain ⟨j, rfl⟩ : ∃ j : Nat, l = j := ⟨l.toNat, by omega⟩
      have hjn : j < n := by omega
      obtain ⟨b, cur, rfl, hb, hhb, _, _, hcz, hcell⟩ := owns_open hO.out (show 0 < n by omega)
      obtain ⟨d, hd⟩ : ∃ d, row[j]? = some d := ⟨_, List.getElem?_eq_getElem (by rw [hN.out]; exact hjn)⟩
      have c0 : w.cell? ⟨b, j, none⟩ = some (.int .i64 d) := by rw [hcell j (by omega)]; exact ints_get hd
      have f0 := hhb.frozen j
      have hB := Lib.hid hhb
      have hne1 : ¬ b = g := by omega
      have hne2 : ¬ g = b := by omega
      have hne3 : b ≠ g := by omega
      clear hcell hhb
      have hD := Lib.hid hd
      have hR' := Lib.hid (show rest os row stk n = rest os row stk (j + 1) by rw [hR.out, show ((j : Int) + 1).toNat = j + 1 by omega])
      have hdv := hI.out.val d (List.mem_of_getElem? hd)
      clear hd hR
      by_cases hd2 : d = 2
      · subst hd2
        have hRd := Lib.hid (rest_done (os := os) (stk := stk) hD.out)
        go_wp2_with fail
        go_round
        case rel => exact ⟨(j : Int) - 1, rfl, by omega, by omega, by rw [hR'.out, hRd.out, show ((j : Int) - 1 + 1).toNat = j by omega]⟩
        case measure => (simp [intOf]; try omega)
      · have hdb : (d == 2) = false := by simpa using hd2
        go_wp2_with fail
        obtain ⟨r, hr⟩ : ∃ r, stk[j]? = some r := ⟨_, List.getElem?_eq_getElem (by have := hls.out; have := hN.out; omega)⟩
        obtain ⟨hfit, hrw, hjr, s, hs, hdr, hok⟩ := hI.out.at_ j r hr
        have hT9 := hT.out.cut (x := d + 1) hN.out (hls.out.symm.trans hN.out) hjn
        have hD9 := Lib.hid (Trd.cut (j := j) (x := d + 1) (show Trd w w g (.slice (some ⟨b, 0, none⟩) n cr) (.slice As n cs) (.slice (some ⟨b, 0, none⟩) n cr) (.slice As n cs) from ⟨KeptBut.refl _ _, fun k hk => .inl hk, fun k hk => .inl hk⟩))
        have hup := Lib.hid (rest_up hD.out (show 0 ≤ d ∧ d < 2 by omega) hr hs)
        have hIup := Lib.hid (hI.out.up hD.out (by omega) hr hs)
        generalize hW9 : ((w.setCell ⟨g, 1, none⟩ (.slice (some ⟨b, 0, none⟩) (j + 1) cr)).setCell ⟨g, 2, none⟩ (.slice As (j + 1) cs)).setCell ⟨b, j, none⟩ (.int .i64 (d + 1)) = W9 at hT9 hD9 ⊢
        have hs9 : W9.ownsRow (g + 1) 66 3 (.slice As (j + 1) cs) (j + 1) (rnflat (stk.take (j + 1))) := by
          have := hT9.2.2.2
          rwa [show (stk.take (j + 1)).length = j + 1 by rw [List.length_take, ← hls.out, hN.out]; omega] at this
        obtain ⟨bs, cur2, rfl, hbs, hhs, _, _, hsz, hscell⟩ := owns_open hs9 (Nat.succ_pos j)
        have hrt : (stk.take (j + 1))[j]? = some r := by rw [List.getElem?_take, if_pos (Nat.lt_succ_self j)]; exact hr
        have k0 : W9.cell? ⟨bs, j * 3, none⟩ = some (.int .i64 r.pos) := (hscell (j * 3) (by omega)).trans (rnflat_at (q := 0) hrt rfl)
        have k1 : W9.cell? ⟨bs, j * 3 + 1, none⟩ = some (.int .i64 r.st) := (hscell (j * 3 + 1) (by omega)).trans (rnflat_at (q := 1) hrt rfl)
        have k2 : W9.cell? ⟨bs, j * 3 + 2, none⟩ = some (.int .i64 r.wt) := (hscell (j * 3 + 2) (by omega)).trans (rnflat_at (q := 2) hrt rfl)
        have hrm : r.pos < m := by have := (List.getElem?_eq_some_iff.1 hs).1; omega
        obtain ⟨gs, off, s', rfl, hgs, hs', hat⟩ := hT9.2.1.at_ hrm
        obtain rfl : s' = s := Option.some.inj (hs'.symm.trans hs)
        obtain ⟨c0', c1', c2', c3', c4', c5', c6'⟩ := hat.open_
        have g0 : W9.cell? ⟨g, 0, none⟩ = some (.slice (some ⟨gs, off, none⟩) m c) := hT9.1.cell 0
        have g1 : W9.cell? ⟨g, 1, none⟩ = some (.slice (some ⟨b, 0, none⟩) (j + 1) cr) := hT9.1.cell 1
        have g2 : W9.cell? ⟨g, 2, none⟩ = some (.slice (some ⟨bs, 0, none⟩) (j + 1) cs) := hT9.1.cell 2
        have b0 : W9.cell? ⟨b, j, none⟩ = some (.int .i64 (d + 1)) := by
          obtain ⟨b', cur3, e, _, hh3, _, _, _, hc3⟩ := owns_open (w := W9) (xs := ints (row.take j ++ [d + 1])) (n := j + 1) (by
            have := hT9.2.2.1
            unfold IOwn at this
            rwa [show (row.take j ++ [d + 1]).length = j + 1 by rw [List.length_append, List.length_singleton, List.length_take, hN.out]; omega] at this) (Nat.succ_pos j)
          injection e with e
          injection e with e _ _
          subst e
          rw [hc3 j (by omega)]
          refine ints_get ?_
          rw [List.getElem?_append_right (by rw [List.length_take, hN.out]; omega)]
          rw [List.length_take, hN.out, Nat.min_eq_left (by omega), Nat.sub_self]
          rfl
        have hg9 : g < W9.heap.size := hT9.1.lt
        have hb9 : b < W9.heap.size := (hT9.row_gt (k := b) rfl).2
        have hbs9 : bs < W9.heap.size := hhs.lt
        have hSk := Lib.hid (show ∀ wx : World, Below W9.heap.size W9 wx → wx.cell? ⟨g, 0, none⟩ = some (.slice (some ⟨gs, off, none⟩) m c) ∧ wx.cell? ⟨g, 1, none⟩ = some (.slice (some ⟨b, 0, none⟩) (j + 1) cr) ∧ wx.cell? ⟨g, 2, none⟩ = some (.slice (some ⟨bs, 0, none⟩) (j + 1) cs) ∧ wx.cell? ⟨b, j, none⟩ = some (.int .i64 (d + 1)) ∧ wx.cell? ⟨bs, j * 3, none⟩ = some (.int .i64 r.pos) ∧ wx.cell? ⟨bs, j * 3 + 1, none⟩ = some (.int .i64 r.st) ∧ wx.cell? ⟨bs, j * 3 + 2, none⟩ = some (.int .i64 r.wt) ∧ wx.cell? ⟨gs, off + r.pos * 7, none⟩ = some (.int .i64 s'.k) ∧ wx.cell? ⟨gs, off + r.pos * 7 + 1, none⟩ = some (.int .i64 s'.a) ∧ wx.cell? ⟨gs, off + r.pos * 7 + 2, none⟩ = some (.int .i64 s'.b) ∧ wx.cell? ⟨gs, off + r.pos * 7 + 3, none⟩ = some (.int .i64 s'.c) ∧ wx.cell? ⟨gs, off + r.pos * 7 + 4, none⟩ = some (.int .i64 s'.u) ∧ wx.cell? ⟨gs, off + r.pos * 7 + 5, none⟩ = some (.int .i64 s'.v) ∧ wx.cell? ⟨gs, off + r.pos * 7 + 6, none⟩ = some (.int .i64 s'.x) from fun wx hw => ⟨(hw.cell (p := ⟨g, 0, none⟩) hg9).trans g0, (hw.cell (p := ⟨g, 1, none⟩) hg9).trans g1, (hw.cell (p := ⟨g, 2, none⟩) hg9).trans g2, (hw.cell (p := ⟨b, j, none⟩) hb9).trans b0, (hw.cell (p := ⟨bs, _, none⟩) hbs9).trans k0, (hw.cell (p := ⟨bs, _, none⟩) hbs9).trans k1, (hw.cell (p := ⟨bs, _, none⟩) hbs9).trans k2, (hw.cell (p := ⟨gs, _, none⟩) (Nat.lt_trans hgs hg9)).trans c0', (hw.cell (p := ⟨gs, _, none⟩) (Nat.lt_trans hgs hg9)).trans c1', (hw.cell (p := ⟨gs, _, none⟩) (Nat.lt_trans hgs hg9)).trans c2', (hw.cell (p := ⟨gs, _, none⟩) (Nat.lt_trans hgs hg9)).trans c3', (hw.cell (p := ⟨gs, _, none⟩) (Nat.lt_trans hgs hg9)).trans c4', (hw.cell (p := ⟨gs, _, none⟩) (Nat.lt_trans hgs hg9)).trans c5', (hw.cell (p := ⟨gs, _, none⟩) (Nat.lt_trans hgs hg9)).trans c6'⟩)
        have hbg : bs ≠ g := by omega
        have hgsg : gs ≠ g := by omega
        have hj3 : (0 : Int) ≤ (j : Int) := by omega
        have hp3 : (0 : Int) ≤ (r.pos : Int) := by omega
        have hp4 : (r.pos : Int) < (m : Int) := by omega
        have hT9' := Lib.hid hT9
        have hFit := Lib.hid hfit
        clear hT9 g0 g1 g2 b0 k0 k1 k2 c0' c1' c2' c3' c4' c5' c6' hat hscell hhs hs9 hrt hs hs' hr hdr hfit hfg c0 f0 hW9 hcg hdb hne1 hne2
        generalize hjq : j + 1 = q at hSk hT9' hD9 ⊢
        have hj4 : (j : Int) < (q : Int) := by omega
        have hJQ := Lib.hid hjq
        clear hjq
        have hSt := Lib.hid (show ∀ (wx : World) (ux uy uz : Value), (wx.cell? ⟨g, 0, none⟩ = some (.slice (some ⟨gs, off, none⟩) m c) ∧ wx.cell? ⟨g, 1, none⟩ = some (.slice (some ⟨b, 0, none⟩) q cr) ∧ wx.cell? ⟨g, 2, none⟩ = some (.slice (some ⟨bs, 0, none⟩) q cs) ∧ wx.cell? ⟨b, j, none⟩ = some (.int .i64 (d + 1)) ∧ wx.cell? ⟨bs, j * 3, none⟩ = some (.int .i64 r.pos) ∧ wx.cell? ⟨bs, j * 3 + 1, none⟩ = some (.int .i64 r.st) ∧ wx.cell? ⟨bs, j * 3 + 2, none⟩ = some (.int .i64 r.wt) ∧ wx.cell? ⟨gs, off + r.pos * 7, none⟩ = some (.int .i64 s'.k) ∧ wx.cell? ⟨gs, off + r.pos * 7 + 1, none⟩ = some (.int .i64 s'.a) ∧ wx.cell? ⟨gs, off + r.pos * 7 + 2, none⟩ = some (.int .i64 s'.b) ∧ wx.cell? ⟨gs, off + r.pos * 7 + 3, none⟩ = some (.int .i64 s'.c) ∧ wx.cell? ⟨gs, off + r.pos * 7 + 4, none⟩ = some (.int .i64 s'.u) ∧ wx.cell? ⟨gs, off + r.pos * 7 + 5, none⟩ = some (.int .i64 s'.v) ∧ wx.cell? ⟨gs, off + r.pos * 7 + 6, none⟩ = some (.int .i64 s'.x)) → ((((wx.setCell ⟨g, 3, none⟩ ux).setCell ⟨g, 4, none⟩ uy).setCell ⟨g, 5, none⟩ uz).cell? ⟨g, 0, none⟩ = some (.slice (some ⟨gs, off, none⟩) m c) ∧ (((wx.setCell ⟨g, 3, none⟩ ux).setCell ⟨g, 4, none⟩ uy).setCell ⟨g, 5, none⟩ uz).cell? ⟨g, 1, none⟩ = some (.slice (some ⟨b, 0, none⟩) q cr) ∧ (((wx.setCell ⟨g, 3, none⟩ ux).setCell ⟨g, 4, none⟩ uy).setCell ⟨g, 5, none⟩ uz).cell? ⟨g, 2, none⟩ = some (.slice (some ⟨bs, 0, none⟩) q cs) ∧ (((wx.setCell ⟨g, 3, none⟩ ux).setCell ⟨g, 4, none⟩ uy).setCell ⟨g, 5, none⟩ uz).cell? ⟨b, j, none⟩ = some (.int .i64 (d + 1)) ∧ (((wx.setCell ⟨g, 3, none⟩ ux).setCell ⟨g, 4, none⟩ uy).setCell ⟨g, 5, none⟩ uz).cell? ⟨bs, j * 3, none⟩ = some (.int .i64 r.pos) ∧ (((wx.setCell ⟨g, 3, none⟩ ux).setCell ⟨g, 4, none⟩ uy).setCell ⟨g, 5, none⟩ uz).cell? ⟨bs, j * 3 + 1, none⟩ = some (.int .i64 r.st) ∧ (((wx.setCell ⟨g, 3, none⟩ ux).setCell ⟨g, 4, none⟩ uy).setCell ⟨g, 5, none⟩ uz).cell? ⟨bs, j * 3 + 2, none⟩ = some (.int .i64 r.wt) ∧ (((wx.setCell ⟨g, 3, none⟩ ux).setCell ⟨g, 4, none⟩ uy).setCell ⟨g, 5, none⟩ uz).cell? ⟨gs, off + r.pos * 7, none⟩ = some (.int .i64 s'.k) ∧ (((wx.setCell ⟨g, 3, none⟩ ux).setCell ⟨g, 4, none⟩ uy).setCell ⟨g, 5, none⟩ uz).cell? ⟨gs, off + r.pos * 7 + 1, none⟩ = some (.int .i64 s'.a) ∧ (((wx.setCell ⟨g, 3, none⟩ ux).setCell ⟨g, 4, none⟩ uy).setCell ⟨g, 5, none⟩ uz).cell? ⟨gs, off + r.pos * 7 + 2, none⟩ = some (.int .i64 s'.b) ∧ (((wx.setCell ⟨g, 3, none⟩ ux).setCell ⟨g, 4, none⟩ uy).setCell ⟨g, 5, none⟩ uz).cell? ⟨gs, off + r.pos * 7 + 3, none⟩ = some (.int .i64 s'.c) ∧ (((wx.setCell ⟨g, 3, none⟩ ux).setCell ⟨g, 4, none⟩ uy).setCell ⟨g, 5, none⟩ uz).cell? ⟨gs, off + r.pos * 7 + 4, none⟩ = some (.int .i64 s'.u) ∧ (((wx.setCell ⟨g, 3, none⟩ ux).setCell ⟨g, 4, none⟩ uy).setCell ⟨g, 5, none⟩ uz).cell? ⟨gs, off + r.pos * 7 + 5, none⟩ = some (.int .i64 s'.v) ∧ (((wx.setCell ⟨g, 3, none⟩ ux).setCell ⟨g, 4, none⟩ uy).setCell ⟨g, 5, none⟩ uz).cell? ⟨gs, off + r.pos * 7 + 6, none⟩ = some (.int .i64 s'.x)) from fun wx ux uy uz ⟨a0, a1, a2, a3, a4, a5, a6, a7, a8, a9, a10, a11, a12, a13⟩ => ⟨far3 (.inr ⟨by simp, by simp, by simp⟩) a0, far3 (.inr ⟨by simp, by simp, by simp⟩) a1, far3 (.inr ⟨by simp, by simp, by simp⟩) a2, far3 (.inl hne3) a3, far3 (.inl hbg) a4, far3 (.inl hbg) a5, far3 (.inl hbg) a6, far3 (.inl hgsg) a7, far3 (.inl hgsg) a8, far3 (.inl hgsg) a9, far3 (.inl hgsg) a10, far3 (.inl hgsg) a11, far3 (.inl hgsg) a12, far3 (.inl hgsg) a13⟩)
        go_region_held3 (fun wx => wx.cell? ⟨g, 0, none⟩ = some (.slice (some ⟨gs, off, none⟩) m c) ∧ wx.cell? ⟨g, 1, none⟩ = some (.slice (some ⟨b, 0, none⟩) q cr) ∧ wx.cell? ⟨g, 2, none⟩ = some (.slice (some ⟨bs, 0, none⟩) q cs) ∧ wx.cell? ⟨b, j, none⟩ = some (.int .i64 (d + 1)) ∧ wx.cell? ⟨bs, j * 3, none⟩ = some (.int .i64 r.pos) ∧ wx.cell? ⟨bs, j * 3 + 1, none⟩ = some (.int .i64 r.st) ∧ wx.cell? ⟨bs, j * 3 + 2, none⟩ = some (.int .i64 r.wt) ∧ wx.cell? ⟨gs, off + r.pos * 7, none⟩ = some (.int .i64 s'.k) ∧ wx.cell? ⟨gs, off + r.pos * 7 + 1, none⟩ = some (.int .i64 s'.a) ∧ wx.cell? ⟨gs, off + r.pos * 7 + 2, none⟩ = some (.int .i64 s'.b) ∧ wx.cell? ⟨gs, off + r.pos * 7 + 3, none⟩ = some (.int .i64 s'.c) ∧ wx.cell? ⟨gs, off + r.pos * 7 + 4, none⟩ = some (.int .i64 s'.u) ∧ wx.cell? ⟨gs, off + r.pos * 7 + 5, none⟩ = some (.int .i64 s'.v) ∧ wx.cell? ⟨gs, off + r.pos * 7 + 6, none⟩ = some (.int .i64 s'.x)) (first | exact hSk.out _ (Below.refl _ _) | exact hSk.out _ ((Below.refl _ _).drew) | exact hSk.out _ (((Below.refl _ _).drew).trans (by assumption)) | exact hSt.out _ _ _ _ (by assumption) | go_keep) ((go_at_call 68; refine (stepRun_any s' r (d + 1) _ hok hFit.out (by omega) (by omega)).mono ?_; rintro e w10 ⟨rfl, hb10⟩; have hcg10 := (Has.kept (by exact hT9'.out.1) hb10).cell; have hfg10 := (Has.kept (by exact hT9'.out.1) hb10).frozen))
        have hb10' : Below W9.heap.size W9 w10 := ((Below.refl _ _).drew).trans hb10
        have hTD := Lib.hid (And.intro ((hT9'.out.below hb10').put_now (Rn.step s' r (d + 1))) ((((hD9.out.below hb10').put 3 (.int .i64 (Rn.step s' r (d + 1)).pos)).put 4 (.int .i64 (Rn.step s' r (d + 1)).st)).put 5 (.int .i64 (Rn.step s' r (d + 1)).wt)))
        clear hb10 hb10' hcg10 hfg10
        go_wp2
        go_ret
        have hq := hJQ.out
        subst hq
        exact .inr ⟨_, _, _, _, _, rfl, by rw [hN.out, hR'.out]; exact hup.out, hTD.out.1, hIup.out, hTD.out.2⟩
    · obtain rfl : l = -1 := by omega
      have hE := Lib.hid (show rest os row stk row.length = [] by rw [hN.out, hR.out]; rfl)
      go_wp2_with fail
      go_ret
      refine .inl ⟨rfl, hE.out, ?_, KeptBut.refl _ _, fun k hk => .inl hk, fun k hk => .inl hk⟩
      exact hT.out
end Go.Proofs.Ytjokiminlplbcaa
