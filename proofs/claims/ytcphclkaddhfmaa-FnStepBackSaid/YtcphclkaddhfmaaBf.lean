/- Three states' numbers, and a whole row, changed from what is behind a statement to what is ahead of it: the program's takeThree and takeBack. -/
import Derived.Test.YtcphclkaddhfmaaBe
namespace Go.Proofs.Ytcphclkaddhfmaa
set_option maxRecDepth 100000
set_option linter.unusedVariables false
open Go.RowKit

theorem Bkp.wide {w : World} {base g gl gr gk m c i1 i2 : Nat} {A : Option Addr} {os : List St} {led : Nat → Int → Bool} {G : Int → Int} {R : Nat → Int → Int} {kb : Nat → Nat} (h : Bkp w base g gl gr gk m A c os led G R i1 kb) (hi : i1 ≤ i2) : Bkp w base g gl gr gk m A c os led G R i2 kb := by
  obtain ⟨h1, h2, h3, h5, ⟨ks, h7, h8, h9⟩, h10, h11, h12⟩ := h
  exact ⟨h1, h2, h3, h5, ⟨ks, h7, h8, fun j hj => h9 j (by omega)⟩, fun j hj => h10 j (by omega), h11, h12⟩
theorem Bkp.row {w w' : World} {base g gl gr gk m c i1 : Nat} {A : Option Addr} {os : List St} {led : Nat → Int → Bool} {G G' : Int → Int} {R : Nat → Int → Int} {kb : Nat → Nat} (h : Bkp w base g gl gr gk m A c os led G R i1 kb) (hk : KeptBut w w' (fun i => i = gr)) {cs' : Array Value} (hc : Has w' gr 3 cs') (hr : RowA cs' G') : Bkp w' base g gl gr gk m A c os led G' R i1 kb := by
  obtain ⟨h1, h2, ⟨cl, h3, h4⟩, ⟨cr, h5, h6⟩, ⟨ks, h7, h8, h9⟩, h10, h11, h12⟩ := h
  refine ⟨h1.but hk (has_ne h1 h5 (Ne.symm tbk_a)), h2.below (hk.below (fun i hi e => by omega) h12), ⟨cl, h3.but hk (has_ne h3 h5 (Ne.symm tbk_b)), h4⟩, ⟨cs', hc, hr⟩, ⟨ks, h7.but hk (has_ne h7 h5 (Ne.symm tbk_c)), h8, h9⟩, fun j h0 hj hs => ?_, h11, Nat.le_trans h12 hk.size⟩
  obtain ⟨hn, cs, hc9, hr9⟩ := h10 j h0 hj hs
  exact ⟨hn, cs, hc9.but hk hn, hr9⟩
theorem Bkp.congr {w : World} {base g gl gr gk m c i1 : Nat} {A : Option Addr} {os : List St} {led : Nat → Int → Bool} {G G' : Int → Int} {R : Nat → Int → Int} {kb : Nat → Nat} (h : Bkp w base g gl gr gk m A c os led G R i1 kb) (e : ∀ st, 0 ≤ st ∧ st ≤ 80 → G st = G' st) : Bkp w base g gl gr gk m A c os led G' R i1 kb := by
  obtain ⟨h1, h2, h3, ⟨cr, h5, h6⟩, h7⟩ := h
  exact ⟨h1, h2, h3, ⟨cr, h5, h6.congr e⟩, h7⟩

theorem worth_in {h : Int → Int} {os : List St} {led : Nat → Int → Bool} {k : Nat} {s : St} {z x : Int} (hs : os[k]? = some s) (hok : s.ok = true) (hc : Cl os led k) (hz : 0 ≤ z ∧ z ≤ 80) (ha : 0 ≤ s.a ∧ s.a ≤ 3) (hz0 : valueAt z s.a = 0) (hx : 0 ≤ x ∧ x ≤ 2) :
    (if led k (withValue z s.a x) = true then wsum (Xw (mix (Rw h os led (k + 1)) (Rw h os led k) s.a z) (Rw h os led) (k + 1)) (prt os.length s ⟨k, withValue z s.a x, 1⟩) else 0) = Rw h os led k (withValue z s.a x) := by
  have hl := (List.getElem?_eq_some_iff.1 hs).1
  have hw := with_bd hz ha hx
  have hzz : withValue (withValue z s.a x) s.a 0 = z := by
    rw [with_with hz ha hx (by decide)]
    have := with_self hz ha
    rwa [hz0] at this
  generalize withValue z s.a x = st at hw hzz
  have hR : Rw h os led k st = if led k st = true then valAt h os k st else 0 := if_neg (by omega)
  rw [hR]
  split
  · rename_i hled
    rw [← worth_led (h := h) hs hw hc hled]
    refine wsum_congr fun r hr => ?_
    congr 1
    obtain ⟨d, hd, rfl⟩ := mem_prt hr
    have hmy := many_le s
    unfold Xw
    split
    · rfl
    · rename_i h9
      have hp : (clp os.length (Rn.step s ⟨k, st, 1⟩ d)).pos = k + 1 := by
        have h9' : ¬ (k + 1 < min (k + 1 + s.jump st) os.length) := h9
        show min (k + 1 + s.jump st) os.length = k + 1
        omega
      rw [hp]
      have e1 := next_three (s := s) (x := (d : Int)) hok hw (by omega)
      show mix _ _ _ z (s.next st d) = _
      unfold mix
      rw [if_neg (by rw [e1, hzz]; omega)]
      rfl
  · rfl

theorem info_three : (Try.prog.info? 45).map (fun i => (i.zero, i.size)) = some (some (.agg #[.int .i64 0, .int .i64 0, .int .i64 0]), 3) := by kernel_rfl
theorem index_three {sn : Array Value} {u : Value} {q : Nat} (h : sn[q]? = some u) (hq : q < 3) (w : World) : (Instr.index 45 (.agg sn) (.int .i64 q)).run Try.prog w = .ok u w := by
  have hu := Try.underlying45
  have hc : (0 : Int) ≤ (q : Int) ∧ (q : Int) < 3 := by omega
  simp [Instr.index, run_underlying hu, asIntOf, go_sem, part, h, hc]
  intro h9
  omega

def Takd (w : World) (base g gl gr gk m : Nat) (A : Option Addr) (c : Nat) (os : List St) (led : Nat → Int → Bool) (G' : Int → Int) (R : Nat → Int → Int) (i1 : Nat) (kb : Nat → Nat) (e : Ending) (w' : World) : Prop :=
  e = .returned (.tuple #[]) ∧ Bkp w' base g gl gr gk m A c os led G' R i1 kb ∧ KeptBut w w' (fun i => i = gr)

set_option maxHeartbeats 1000000 in
theorem takeThree_any (w : World) (base g gl gr gy m : Nat) (A : Option Addr) (c : Nat) (os : List St) (led : Nat → Int → Bool) (hv : Int → Int) (kb : Nat → Nat) (s : St) (k z i1 : Nat) (h : Bkp w base g gl gr gy m A c os led (mix (Rw hv os led (k + 1)) (Rw hv os led k) s.a z) (Rw hv os led) i1 kb) (hi : i1 ≤ k + 1) (hm : m ≤ 12) (hM : os.length = m) (hk : k < m) (hs : os[k]? = some s) (hok : s.ok = true) (ha : 0 ≤ s.a ∧ s.a ≤ 3) (hc : Cl os led k) (hz : z < 81) (hz0 : valueAt z s.a = 0)
    (hR : ∀ j st, 0 ≤ st ∧ st ≤ 80 → k < j → 0 ≤ Rw hv os led j st ∧ Rw hv os led j st ≤ 100000000000000000) :
    Calls Try.prog 110 #[.pointer (some ⟨g, 0, none⟩), .int .i64 k, .int .i64 z, .int .i64 s.a] w (Takd w base g gl gr gy m A c os led (mix (Rw hv os led (k + 1)) (Rw hv os led k) s.a ((z : Int) + 1)) (Rw hv os led) i1 kb) := by
  have hzb : (0 : Int) ≤ (z : Int) ∧ (z : Int) ≤ 80 := by omega
  have hwv : ∀ x : Nat, x < 3 → 0 ≤ withValue z s.a x ∧ withValue z s.a x ≤ 80 := fun x hx => with_bd hzb ha (by omega)
  have hR0 : ∀ x : Nat, x < 3 → ∀ q : Nat, withValue z s.a x = (q : Int) → ∀ d : Nat, d < s.many → 0 ≤ mix (Rw hv os led (k + 1)) (Rw hv os led k) s.a z (s.next q d) ∧ mix (Rw hv os led (k + 1)) (Rw hv os led k) s.a z (s.next q d) ≤ 100000000000000000 := fun x hx q hq d hd => by
    have hmy := many_le s
    have hqb := hwv x hx
    rw [hq] at hqb
    have hzz : withValue (q : Int) s.a 0 = z := by
      rw [← hq, with_with hzb ha (by omega) (by decide)]
      have := with_self hzb ha
      rwa [hz0] at this
    have e1 := next_three (s := s) (x := (d : Int)) hok hqb (by omega)
    have e2 : mix (Rw hv os led (k + 1)) (Rw hv os led k) s.a z (s.next q d) = Rw hv os led (k + 1) (s.next q d) := if_neg (by rw [e1, hzz]; omega)
    rw [e2]
    exact hR (k + 1) _ (next_bd hok hqb (by omega)) (by omega)
  have cI := Lib.hid (fun wx (hb : Below w.heap.size w wx) (x : Nat) (hx : x < 3) (q : Nat) (hq : withValue z s.a x = (q : Int)) => show Calls Try.prog 120 #[.pointer (some ⟨g, 0, none⟩), .int .i64 k, .int .i64 q] wx (fun e w' => e = .returned (.int .i64 (Rw hv os led k q)) ∧ Below wx.heap.size wx w') from
    (worthIn_any wx base g gl gr gy m A c os led _ _ kb s k q ((h.wide hi).below hb) hm hM hk hs hok (by have := hwv x hx; omega) (hR0 x hx q hq) hR).mono fun e w' h9 => by
      rw [← hM, ← hq, worth_in hs hok hc hzb ha hz0 (by omega), hq] at h9
      exact h9)
  have cW := Lib.hid (fun x wx => WithValue_any z s.a x wx)
  have hH := Lib.hid h
  have hWv := Lib.hid hwv
  have hzc : (#[.int .i64 0, .int .i64 0, .int .i64 0] : Array Value).size = 3 := rfl
  have hT0 := Lib.hid (Has.new w 45 #[.int .i64 0, .int .i64 0, .int .i64 0])
  have hB0 := Lib.hid ((Below.refl w.heap.size w).alloc (Nat.le_refl _) (.cells #[.int .i64 0, .int .i64 0, .int .i64 0] 45))
  have hz3 := hz0
  clear h hs hok hc hz0 hR hR0 hwv hM hi
  go_enter Try.func110, Try.ntmps110
  go_wp2_with fail
  obtain ⟨T, hT⟩ : ∃ T, w.heap.size = T := ⟨_, rfl⟩
  rw [hT] at hT0 ⊢
  have hTT := Lib.hid hT
  clear hT
  generalize (#[.int .i64 0, .int .i64 0, .int .i64 0] : Array Value) = zc at hzc hT0 hB0 ⊢
  generalize w.alloc (.cells zc 45) = W at hT0 hB0 ⊢
  go_loopg [12] 3 (fun gn v wr => ∃ (x : Nat) (cs : Array Value), x ≤ 3 ∧ gn = 3 - x ∧ v = .int .i64 x ∧ Has wr T 45 cs ∧ cs.size = 3 ∧ (∀ i : Nat, i < x → cs[i]? = some (.int .i64 (Rw hv os led k (withValue z s.a i)))) ∧ Below w.heap.size w wr)
  case atStart => exact ⟨0, zc, by omega, rfl, rfl, hT0.out, hzc, fun i hi => by omega, hB0.out⟩
  case round =>
    clear hT0 hB0
    obtain ⟨x, cs, hx, hgn, rfl, hTc, hcz, hct, hB⟩ := hrel
    have hgk : gk = 3 - x := hgn
    clear hgn
    by_cases hx3 : x < 3
    · have hwb := hWv.out x hx3
      obtain ⟨q, hq⟩ : ∃ q : Nat, withValue z s.a x = (q : Int) := ⟨(withValue z s.a x).toNat, by omega⟩
      have cWx := Lib.hid (fun wx => cW.out x wx)
      have cIx := Lib.hid (fun wx hb => cI.out wx hb x hx3 q hq)
      rw [hq] at cWx
      have hqq := Lib.hid hq
      have hx0 : (0 : Int) ≤ (x : Int) := by omega
      have hx1 : (x : Int) < 3 := by omega
      have hct' := Lib.hid hct
      have hB' := Lib.hid hB
      have hT' := Lib.hid hTc
      obtain ⟨u, hu⟩ := hTc.size_cell (x := x) (by omega)
      have hTl := hTc.lt
      clear hct hB hTc hq hwb
      go_wp2_with (first
        | (go_at_call 114; refine (cWx.out _).mono ?_; rintro e w' ⟨rfl, rfl⟩)
        | (go_at_call 120; refine (cIx.out _ (by first | exact hB'.out | exact hB'.out.drew)).mono ?_; rintro e w3 ⟨rfl, hb3⟩; have hT3 := hT'.out.kept hb3; have hf3 := hT3.frozen; have hcu3 := hT3.cell x; obtain ⟨u3, hu3⟩ := hT3.size_cell (x := x) (by omega)))
      have hTn := Lib.hid (hT3.put x (.int .i64 (Rw hv os led k q)))
      have hBn := Lib.hid ((hB'.out.trans (hb3.mono hB'.out.size)).setCell (p := ⟨T, x, none⟩) (by show w.heap.size ≤ T; have := hTT.out; omega) (.int .i64 (Rw hv os led k q)))
      have hcn := Lib.hid (show ∀ i : Nat, i < x + 1 → (cs.setIfInBounds x (.int .i64 (Rw hv os led k q)))[i]? = some (.int .i64 (Rw hv os led k (withValue z s.a i))) from fun i hi => by
        rw [Array.getElem?_setIfInBounds]
        by_cases hix : x = i
        · subst hix
          rw [if_pos rfl, if_pos (by omega), hqq.out]
        · rw [if_neg hix]; exact hct'.out i (by omega))
      clear hb3 hT3 hf3 hcu3 hu3 hu hTl
      go_roundg (3 - (x + 1))
      case measure => omega
      case rel => exact ⟨x + 1, _, by omega, rfl, by go_num, hTn.out, by simpa using hcz, hcn.out, hBn.out⟩
    · obtain rfl : x = 3 := by omega
      have hH1 := Lib.hid (hH.out.below hB)
      have hK1 := Lib.hid (KeptBut.of_below hB (fun i => i = gr))
      have hR := Lib.hid (has_range (o := 0) (vs := cs.toList) hTc (fun j v hv => by rw [Nat.zero_add]; simpa using hv))
      have hZ := Lib.hid (show (Try.prog.info? 45).map (·.size) = some cs.toList.length from by rw [(zero_of_info (P := Try.prog) info_three).2, Array.length_toList, hcz])
      have hct' := Lib.hid hct
      clear hTc hct hB
      go_wp2_with (first | (refine wpList_load_mid rfl 45 (.tmp 8) rfl T 0 (by rfl) cs.toList _ hR.out Try.underlying45 rfl hZ.out ?_))
      clear hR hZ
      go_loopg [26] 3 (fun gn v wr => ∃ (x : Nat), x ≤ 3 ∧ gn = 3 - x ∧ v = .int .i64 x ∧ Bkp wr base g gl gr gy m A c os led (mix3 (Rw hv os led (k + 1)) (Rw hv os led k) s.a z x) (Rw hv os led) i1 kb ∧ KeptBut w wr (fun i => i = gr))
      case atStart => exact ⟨0, by omega, rfl, rfl, hH1.out.congr (fun st hst => (mix3_start ha hst).symm), hK1.out⟩
      case round =>
        clear hH1 hK1
        obtain ⟨y, hy, hgn, rfl, hBk, hKt⟩ := hrel
        obtain ⟨gk2, rfl⟩ : ∃ x, x = gk := ⟨_, rfl⟩
        obtain ⟨w2, rfl⟩ : ∃ x, x = wr := ⟨_, rfl⟩
        have hgk2 : gk2 = 3 - y := hgn
        clear hgn
        by_cases hy3 : y < 3
        · have hwb := hWv.out y hy3
          obtain ⟨q, hq⟩ : ∃ q : Nat, withValue z s.a y = (q : Int) := ⟨(withValue z s.a y).toNat, by omega⟩
          have hq81 : q < 81 := by omega
          have hq0 : (0 : Int) ≤ (q : Int) := by omega
          have hq1 : (q : Int) < 81 := by omega
          have hix := fun wx => index_three (hct'.out y hy3) hy3 wx
          have cWx := Lib.hid (fun wx => cW.out y wx)
          obtain ⟨cr, hcr, hra⟩ := hBk.2.2.2.1
          have hrn := hra.step3 ha hzb hz3 hy3
          rw [hq] at cWx hix hrn
          rw [Int.toNat_natCast] at hrn
          have hgc := hBk.1.cell
          obtain ⟨u, hu⟩ := hcr.size_cell (x := q) (by rw [hra.1]; exact hq81)
          have hfz := hcr.frozen q
          have hy0 : (0 : Int) ≤ (y : Int) := by omega
          have hy1 : (y : Int) < 3 := by omega
          have hKn : KeptBut w2 ((w2.setCell ⟨gr, q, none⟩ (.int .i64 (Rw hv os led k q))).drew) (fun i => i = gr) := KeptBut.drewN (KeptBut.put (KeptBut.refl w2 (fun i => i = gr)) (p := ⟨gr, q, none⟩) (fun _ => rfl) _) 1
          have hBn := Lib.hid (hBk.row hKn (hcr.put q (.int .i64 (Rw hv os led k q))) hrn)
          have hKn' := Lib.hid (KeptBut.trans hKt hKn (fun i _ e => e))
          clear hBk hKt hcr hra hrn hKn hq hwb
          go_wp2_with fail
          go_still_tail 10, (by kernel_rfl)
          still_call ((cWx.out w2.drew).mono fun e w9 h9 => ⟨h9.1, h9.2.symm⟩)
          repeat still_step
          refine wpStill_nil ?_
          change wpList _ _ _ _ _ w2.drew
          go_wp2_with fail
          go_roundg (3 - (y + 1))
          case measure => omega
          case rel => exact ⟨y + 1, by omega, rfl, by go_num, hBn.out, hKn'.out⟩
        · obtain rfl : y = 3 := by omega
          have hBn := Lib.hid (hBk.congr (fun st hst => mix3_done (R0 := Rw hv os led (k + 1)) (R1 := Rw hv os led k) (z := z) ha hst))
          have hKn := Lib.hid hKt
          clear hBk hKt
          go_wp2_with fail
          go_end0
          exact ⟨rfl, hBn.out, hKn.out⟩

set_option maxHeartbeats 1000000 in
theorem takeBack_any (w : World) (base g gl gr gy m : Nat) (A : Option Addr) (c : Nat) (os : List St) (led : Nat → Int → Bool) (hv : Int → Int) (kb : Nat → Nat) (s : St) (k i1 : Nat) (h : Bkp w base g gl gr gy m A c os led (Rw hv os led (k + 1)) (Rw hv os led) i1 kb) (hi : i1 ≤ k + 1) (hm : m ≤ 12) (hM : os.length = m) (hk : k < m) (hs : os[k]? = some s) (hok : s.ok = true) (ha : 0 ≤ s.a ∧ s.a ≤ 3) (hc : Cl os led k)
    (hR : ∀ j st, 0 ≤ st ∧ st ≤ 80 → k < j → 0 ≤ Rw hv os led j st ∧ Rw hv os led j st ≤ 100000000000000000) :
    Calls Try.prog 89 #[.pointer (some ⟨g, 0, none⟩), .int .i64 k] w (Takd w base g gl gr gy m A c os led (Rw hv os led k) (Rw hv os led) i1 kb) := by
  obtain ⟨gs, off, s', rfl, hgs, hs', hat⟩ := h.2.1.at_ hk
  obtain rfl : s' = s := Option.some.inj (hs'.symm.trans hs)
  obtain ⟨c0, c1, c2, c3, c4, c5, c6⟩ := hat.open_
  have cT := Lib.hid (fun wx (z : Nat) (hb : Bkp wx base g gl gr gy m (some ⟨gs, off, none⟩) c os led (mix (Rw hv os led (k + 1)) (Rw hv os led k) s'.a z) (Rw hv os led) i1 kb) (hz : z < 81) (hz0 : valueAt z s'.a = 0) => takeThree_any wx base g gl gr gy m (some ⟨gs, off, none⟩) c os led hv kb s' k z i1 hb hi hm hM hk hs hok ha hc hz hz0 hR)
  have hH := Lib.hid h
  have hgc := h.1.cell
  have hk0 : (0 : Int) ≤ (k : Int) := by omega
  have hk1 : (k : Int) < (m : Int) := by omega
  clear h hs hs' hat hc hR hM hi c0 c2 c3 c4 c5 c6
  go_enter Try.func89, Try.ntmps89
  go_wp2_with fail
  clear c1 hgc
  go_loopg [19] 81 (fun gn v wr => ∃ (z : Nat), z ≤ 81 ∧ gn = 81 - z ∧ v = .int .i64 z ∧ Bkp wr base g gl gr gy m (some ⟨gs, off, none⟩) c os led (mix (Rw hv os led (k + 1)) (Rw hv os led k) s'.a z) (Rw hv os led) i1 kb ∧ KeptBut w wr (fun i => i = gr))
  case atStart => exact ⟨0, by omega, rfl, rfl, hH.out.congr (fun st hst => (mix_start ha hst).symm), KeptBut.refl _ _⟩
  case round =>
    obtain ⟨z, hz, hgn, rfl, hB, hK⟩ := hrel
    have hgk : gk = 81 - z := hgn
    have hB' := Lib.hid hB
    have hK' := Lib.hid hK
    clear hgn hB hK
    by_cases hz81 : z < 81
    · have hz0 : (0 : Int) ≤ (z : Int) := by omega
      have hz1 : (z : Int) < 81 := by omega
      have cV := Lib.hid (fun wx => ValueAt_any z s'.a wx)
      by_cases hv0 : valueAt z s'.a = 0
      · rw [hv0] at cV
        have cTz := Lib.hid (cT.out wr z hB'.out hz81 hv0)
        clear hv0
        go_wp2_with (first
          | (go_at_call 46; refine (cV.out _).mono ?_; rintro e w' ⟨rfl, rfl⟩)
          | (go_at_call 110; refine (cTz.out).mono ?_; rintro e w3 ⟨rfl, hB3, hK3⟩))
        have hBn := Lib.hid hB3
        have hKn := Lib.hid (KeptBut.trans hK'.out hK3 (fun i _ e => e))
        clear hB3 hK3
        go_roundg (81 - (z + 1))
        case measure => omega
        case rel => exact ⟨z + 1, by omega, rfl, by go_num, by simpa using hBn.out, hKn.out⟩
      · have hvb : (valueAt z s'.a == 0) = false := by simpa using hv0
        have hBn := Lib.hid (hB'.out.congr (G' := mix (Rw hv os led (k + 1)) (Rw hv os led k) s'.a ((z : Int) + 1)) (fun st hst => (mix_pass ha hst hv0).symm))
        clear hv0
        generalize valueAt z s'.a = vv at cV hvb
        go_wp2_with (first
          | (go_at_call 46; refine (cV.out _).mono ?_; rintro e w' ⟨rfl, rfl⟩))
        go_roundg (81 - (z + 1))
        case measure => omega
        case rel => exact ⟨z + 1, by omega, rfl, by go_num, by simpa using hBn.out, hK'.out⟩
    · obtain rfl : z = 81 := by omega
      have hBn := Lib.hid (hB'.out.congr (fun st hst => mix_done (R0 := Rw hv os led (k + 1)) (R1 := Rw hv os led k) ha hst))
      go_wp2_with fail
      go_end0
      exact ⟨rfl, hBn.out, hK'.out⟩
end Go.Proofs.Ytcphclkaddhfmaa
