/- Diagrams: the program's cellFor. -/
import Derived.Test.YtghkpmafocacoaaOb
namespace Go.Proofs.Ytghkpmafocacoaa
set_option maxRecDepth 100000
set_option linter.unusedVariables false
open Go.RowKit

/-- How a call ends that puts cells there. -/
def Wvd (w : World) (B G : Nat) (T : TypeId) (pre : List Value) (v : Value) (R : List Ce × Nat) (e : Ending) (w' : World) : Prop :=
  ∃ v' sl', e = .returned (.int .i64 (R.2 : Nat)) ∧ Wv w' B G T pre v' sl' R.1 ∧ Wf2 w w' G v v'
theorem wv_ne {w : World} {B G k : Nat} {T : TypeId} {pre : List Value} {v : Value} {sl : List Int} {ds : List Ce} (h : Wv w B G T pre v sl ds) (hT : T ≠ 47) (hk : v.ownBlock = some k) : G ≠ k := by
  obtain ⟨cur, hc⟩ := owns_has h.own hk
  exact has_ne h.has hc hT
set_option maxHeartbeats 4000000 in
theorem cellFor_any (B G o : Nat) (T : TypeId) (pre : List Value) (v : Value) (sl : List Int) (ds : List Ce) (c : Ce) (w : World) (h : Wv w B G T pre v sl ds) (ho : pre.length = o) (hT : T ≠ 47) (hl : ds.length ≤ 250) :
    Calls Try.prog 167 #[.pointer (some ⟨G, o, none⟩), .agg #[.int .i64 c.v, .int .i64 c.n, .int .i64 c.a, .int .i64 c.b, .int .i64 c.c]] w (Wvd w B G T pre v (cput ds c)) := by
  have eqC := eqCe
  obtain ⟨i0, hi0, hz0, hz1', hz2'⟩ := info_parts info_cell
  have hh := Lib.hid h
  have cS := Lib.hid (fun wx => slotOf_any c wx)
  have hb0 : Below w.heap.size w (w.alloc (.cells #[.int .i64 c.v, .int .i64 c.n, .int .i64 c.a, .int .i64 c.b, .int .i64 c.c] 47)) := (Below.refl _ _).alloc (Nat.le_refl _) _
  have hW := Lib.hid (Has.new w 47 #[.int .i64 c.v, .int .i64 c.n, .int .i64 c.a, .int .i64 c.b, .int .i64 c.c])
  have hB := Lib.hid hb0
  clear h hb0
  go_enter Try.func167, Try.ntmps167
  go_wp2_with fail
  refine (cS.out _).mono ?_
  rintro e w1 ⟨rfl, hb1⟩
  have hW1 := Lib.hid (hW.out.kept hb1)
  have hB1 := Lib.hid (hB.out.trans (hb1.mono hB.out.size))
  have hh1 := Lib.hid (hh.out.below hB1.out)
  have hBx : w.heap.size ≤ w1.heap.size := hB1.out.size
  clear hb1 hW hB cS
  generalize hq : w.heap.size = q at hW1 hB1 hBx ⊢
  go_wp2_with fail
  have hsz : slotC c < 251 := Nat.mod_lt _ (by decide)
  have hfr := Lib.hid (fun d (hp : ∀ d', d' < d → 0 < sl.getD ((slotC c + d') % 251) 0) => hh.out.tab.free hl hp)
  have hhit := Lib.hid (fun j (hj : j < 251) h0 hc => hh.out.tab.hit (j := j) hj (c := c) h0 hc)
  have hadd := Lib.hid (fun d hd hp h0 => hh.out.tab.add (d := d) hd (c := c) hp h0)
  have hbd := Lib.hid hh.out.tab.bd
  have hlen := Lib.hid hh.out.tab.len
  have hpast := Lib.hid (fun d => @Past.next ds sl (slotC c) c d)
  clear hh
  generalize slotC c = p at *
  go_loopg [5] 251 (fun gn i wr => ∃ d m j : Nat, gn = 251 - d ∧ d < 251 ∧ i = .int .i64 (j : Int) ∧ j = (p + d) % 251 ∧ Past ds sl p c d ∧ wr = w1.drewN m)
  case atStart => exact ⟨0, 0, p, rfl, by decide, rfl, by rw [Nat.add_zero, Nat.mod_eq_of_lt hsz], fun d' hd' => absurd hd' (Nat.not_lt_zero _), rfl⟩
  case round =>
    obtain ⟨d, m, j, hgn, hd, rfl, hj, hp, hw⟩ := hrel
    have hgk : gk = 251 - d := hgn
    clear hgn
    have hP := Lib.hid hp
    have hbr : Below w1.heap.size w1 wr := by rw [hw]; exact below_drewN (Below.refl _ _) _
    have hWr := Lib.hid hw
    clear hp hw
    have hhr := Lib.hid (hh1.out.below hbr)
    have hBr := Lib.hid (hW1.out.kept hbr)
    have hBb := Lib.hid hbr
    have hzr := hbr.size
    have hj1 : j < 251 := by omega
    obtain ⟨jn, hjn⟩ : ∃ jn, jn = (p + (d + 1)) % 251 := ⟨_, rfl⟩
    have hnx : (((j : Int) + 1).tmod 251) = (jn : Int) := by
      rw [Int.tmod_eq_emod_of_nonneg (by omega)]
      omega
    have hnw : IntKind.i64.wrap (jn : Int) = (jn : Int) := by rw [IntKind.wrap_i64]; omega
    have hjnh := Lib.hid hjn
    clear hjn
    have hb0 := hbd.out j hj1
    obtain ⟨A, cp, hv, hcp1, hcp2⟩ := hhr.out.own.form
    have e0 := (hhr.out.has.cell o).trans (wvC_head ho v sl)
    have e1 := (hhr.out.has.cell (o + 1 + j)).trans (wvC_slot ho v (by rw [hlen.out]; exact hj1))
    rw [hv] at e0
    have hvh := Lib.hid hv
    clear hv
    have hxc := hBr.out.cell
    have hjj := Lib.hid hj
    clear hj
    by_cases hx : 0 < sl.getD j 0
    · obtain ⟨k, hk⟩ : ∃ k : Nat, sl.getD j 0 = (k : Int) + 1 := ⟨(sl.getD j 0 - 1).toNat, by omega⟩
      have hkl : k < ds.length := by omega
      have hkk : (sl.getD j 0 - 1).toNat = k := by omega
      have hlst : CLst wr wr.heap.size A ds.length ds := COwn.lst (by rw [← hvh.out]; exact hhr.out.own)
      obtain ⟨g, off, rfl, hg, hat⟩ := hlst.gt_ hkl
      obtain ⟨f0, f1, f2, f3, f4⟩ := hat.open_
      have hk0 : (0 : Int) ≤ (k : Int) := by omega
      have hk1 : (k : Int) < (ds.length : Int) := by omega
      have hkw : IntKind.i64.wrap (k : Int) = k := by rw [IntKind.wrap_i64]; omega
      have hN := Lib.hid (fun hc => hpast.out d hP.out (by rw [← hjj.out]; exact hx) (by rw [← hjj.out, hkk]; exact hc))
      have hHt := Lib.hid (fun hc => hhit.out j hj1 hx (by rw [hkk]; exact hc))
      have hkh := Lib.hid hkk
      rw [hk] at e1
      have hkp : decide ((0 : Int) < (k : Int) + 1) = true := decide_eq_true (by omega)
      generalize gt ds k = t at *
      have hj0 : (0 : Int) ≤ (j : Int) := by omega
      have hj2 : (j : Int) < 251 := by omega
      clear hx hk hkk hb0 hat hlst hbr
      cases hcc : ceq t c
      · have hN2 := Lib.hid (hN.out (ceq_not hcc))
        have hM := hfr.out (d + 1) (fun d' hd' => (hN2.out d' hd').1)
        clear hN hHt
        go_wp2_with fail
        go_quiet (fail)
        go_wp2_with fail
        go_roundg (251 - (d + 1))
        case measure => omega
        case rel => exact ⟨d + 1, m + nq, jn, rfl, hM, rfl, hjnh.out, hN2.out, by rw [hWr.out, World.drewN_drewN]⟩
      · have hR := Lib.hid (show cput ds c = (ds, k) from (hHt.out (ceq_iff.1 hcc)).1.trans (by rw [hkh.out]))
        clear hN hHt
        go_wp2_with fail
        go_quiet (fail)
        go_wp2_with fail
        go_ret
        exact ⟨v, sl, ret_int (by rw [hR.out]), by rw [hR.out]; exact hhr.out.below (below_drewN (Below.refl _ _) _), Wf2.of_below (by rw [hq]; exact below_drewN (hB1.out.trans (hBb.out.mono hBx)) _) _ _⟩
    · have hx0 : sl.getD j 0 = 0 := by omega
      have hA := Lib.hid (hadd.out d hd hP.out (by rw [← hjj.out]; exact hx))
      rw [hx0] at e1
      have hne : ∀ k, v.ownBlock = some k → G ≠ k := fun k hk => wv_ne hhr.out hT hk
      have hf0 := hhr.out.has.frozen
      have hown := Lib.hid hhr.out.own
      have hnewq : ∀ j u, c.cells[j]? = some u → (wr.alloc (.cells #[.int .i64 c.v, .int .i64 c.n, .int .i64 c.a, .int .i64 c.b, .int .i64 c.c] 47)).cell? ((⟨wr.heap.size, 0, none⟩ : Addr).add j) = some u := World.news_of_block (Has.new wr 47 #[.int .i64 c.v, .int .i64 c.n, .int .i64 c.a, .int .i64 c.b, .int .i64 c.c])
      have hnq := Lib.hid hnewq
      have hOa := Lib.hid (World.ownsRow.alloc (show wr.ownsRow B 47 5 (.slice A ds.length cp) ds.length (cflat ds) by have := hown.out; rw [hvh.out] at this; exact this) (.cells #[.int .i64 c.v, .int .i64 c.n, .int .i64 c.a, .int .i64 c.b, .int .i64 c.c] 47))
      have hne2 := Lib.hid (fun k (hk : (Value.slice A ds.length cp).ownBlock = some k) => hne k (by rw [hvh.out]; exact hk))
      have hBle := hhr.out.le
      have hGlt := hhr.out.has.lt
      clear hx hx0 hb0 hbr hxc hnewq hne
      have hxc := hBr.out.cell
      go_wp2_with fail
      go_region_law (first | (refine step_append_lies _ rfl (.tmp 40) (.tmp 42) 25 rfl B 47 i0 _ 5 40 Try.underlying25 hi0 hz0 hz1' hz2' rfl (by decide) (.slice A ds.length cp) ds.length (cflat ds) (by simp [Act.eval]) (by exact hOa.out) ⟨wr.heap.size, 0, none⟩ 1 1 c.cells (by simp [Act.eval]) rfl (by exact hnq.out) (by simp [Ce.cells, Value.oneCell']) (by omega) (by unfold maxLen; omega) (by omega) (by simp; omega) (wr.heap.size + 1) (by simp) ?_; intro gq cq w8 hown8 hgrow8 hat8 hlt8; have hK8 : KeptBut wr w8 (fun i => (Value.slice A ds.length cp).ownBlock = some i) := KeptBut.trans (KeptBut.alloc (KeptBut.refl wr (fun i => (Value.slice A ds.length cp).ownBlock = some i)) (.cells #[.int .i64 c.v, .int .i64 c.n, .int .i64 c.a, .int .i64 c.b, .int .i64 c.c] 47)) ⟨hgrow8.os, hgrow8.tape, hgrow8.output, hgrow8.size, fun i hi hn => hgrow8.block i hi (fun e => hn e.symm)⟩ (fun _ _ e => e); have hG8 := Has.but (by exact hhr.out.has) hK8 (fun e => hne2.out _ e rfl); have hc8 := (hG8.cell o).trans (wvC_head ho v sl); have hf8 := hG8.frozen))
      all_goals
        have hgG : gq ≠ G := by
          rcases hat8 with e | e
          · exact fun q => hne2.out _ e q.symm
          · omega
        have hG9 := hG8.put o (.slice (some ⟨gq, 0, none⟩) (ds.length + 1) cq)
        rw [wvC_putv ho] at hG9
        have hK9 : KeptBut w8 (w8.setCell ⟨G, o, none⟩ (.slice (some ⟨gq, 0, none⟩) (ds.length + 1) cq)) (fun i => i = G) := KeptBut.put (S := fun i => i = G) (p := ⟨G, o, none⟩) (KeptBut.refl w8 (fun i => i = G)) (fun _ => rfl) (.slice (some ⟨gq, 0, none⟩) (ds.length + 1) cq)
        have hO9 : COwn (w8.setCell ⟨G, o, none⟩ (.slice (some ⟨gq, 0, none⟩) (ds.length + 1) cq)) B (.slice (some ⟨gq, 0, none⟩) (ds.length + 1) cq) (ds ++ [c]) := by
          have h1 := owns_but hown8 hK9 (fun k e q => hgG (by injection e with e; exact e.trans q))
          unfold COwn
          rw [List.length_append, List.length_singleton, cflat_append]
          simpa [cflat] using h1
        have hF9 : Wf2 wr (w8.setCell ⟨G, o, none⟩ (.slice (some ⟨gq, 0, none⟩) (ds.length + 1) cq)) G v (.slice (some ⟨gq, 0, none⟩) (ds.length + 1) cq) := by
          refine ⟨(hK8.mono (T := fun k => k = G ∨ v.ownBlock = some k) (fun i _ e => .inr (by rw [hvh.out]; exact e))).trans hK9 (fun i _ e => .inl e), fun k e => ?_⟩
          obtain rfl : gq = k := by injection e with e
          rcases hat8 with e | e
          · exact .inl (by rw [hvh.out]; exact e)
          · exact .inr (by omega)
        have hG9h := Lib.hid hG9
        have hO9h := Lib.hid hO9
        have hF9h := Lib.hid hF9
        have hB9 : wr.heap.size ≤ (w8.setCell ⟨G, o, none⟩ (.slice (some ⟨gq, 0, none⟩) (ds.length + 1) cq)).heap.size := hF9.but.size
        clear hown8 hgrow8 hat8 hlt8 hK8 hG8 hc8 hf8 hK9 hO9 hF9 hG9 hxc e0 e1
        generalize w8.setCell ⟨G, o, none⟩ (.slice (some ⟨gq, 0, none⟩) (ds.length + 1) cq) = w9 at hG9h hO9h hF9h hB9 ⊢
        have e0 := (hG9h.out.cell o).trans (wvC_head ho _ sl)
        have e1 := (hG9h.out.cell (o + 1 + j)).trans (wvC_slot ho _ (by rw [hlen.out]; exact hj1))
        have hf9 := hG9h.out.frozen
        have hj0 : (0 : Int) ≤ (j : Int) := by omega
        have hj2 : (j : Int) < 251 := by omega
        go_wp2_with fail
        go_still_tail 10, (by kernel_rfl)
        change wpList _ _ _ _ _ w9.drew
        go_wp2_with fail
        go_ret
        have hA2 : cput ds c = (ds ++ [c], ds.length) ∧ Tab slotC (ds ++ [c]) (sl.set j ((ds.length : Int) + 1)) := by rw [hjj.out]; exact hA.out
        have hG10 := hG9h.out.put (o + 1 + j) (.int .i64 ((ds.length : Int) + 1))
        rw [wvC_puts ho _ (by rw [hlen.out]; exact hj1)] at hG10
        have hK10 : KeptBut w9 (w9.setCell ⟨G, o + 1 + j, none⟩ (.int .i64 ((ds.length : Int) + 1))) (fun i => i = G) := KeptBut.put (S := fun i => i = G) (p := ⟨G, o + 1 + j, none⟩) (KeptBut.refl w9 (fun i => i = G)) (fun _ => rfl) (.int .i64 ((ds.length : Int) + 1))
        have hO10 : COwn (w9.setCell ⟨G, o + 1 + j, none⟩ (.int .i64 ((ds.length : Int) + 1))) B (.slice (some ⟨gq, 0, none⟩) (ds.length + 1) cq) (ds ++ [c]) := owns_but hO9h.out hK10 (fun k e q => hgG (by injection e with e; exact e.trans q))
        have hW10 : Wv (w9.setCell ⟨G, o + 1 + j, none⟩ (.int .i64 ((ds.length : Int) + 1))) B G T pre (.slice (some ⟨gq, 0, none⟩) (ds.length + 1) cq) (sl.set j ((ds.length : Int) + 1)) (ds ++ [c]) := ⟨hG10, hO10, hA2.2, Nat.le_trans (Nat.le_trans hBle hB9) hK10.size⟩
        have hF10 : Wf2 w9 (w9.setCell ⟨G, o + 1 + j, none⟩ (.int .i64 ((ds.length : Int) + 1))) G (.slice (some ⟨gq, 0, none⟩) (ds.length + 1) cq) (.slice (some ⟨gq, 0, none⟩) (ds.length + 1) cq) := ⟨hK10.mono (fun i _ e => .inl e), fun k e => .inl e⟩
        exact ⟨_, _, ret_int (by rw [hA2.1]), by rw [hA2.1]; exact hW10.below ((Below.refl _ _).drew), (Wf2.of_below (by rw [hq]; exact hB1.out.trans (hBb.out.mono hBx)) G v).trans (hF9h.out.trans (hF10.trans (Wf2.of_below ((Below.refl _ _).drew) _ _)))⟩
end Go.Proofs.Ytghkpmafocacoaa
