/- Three states' numbers, and a whole row, changed from what is behind a statement to what is ahead of it: the program's takeThree and takeBack. -/
import Derived.Test.YtbndonfpdioibaaBe
import Derived.Test.YtbndonfpdioibaaNm
import Derived.Deep.RegionLaw
namespace Go.Proofs.Ytbndonfpdioibaa
set_option maxRecDepth 100000
set_option linter.unusedVariables false
open Go.RowKit

theorem Bkp.wide {w : World} {base g gl gr gk m c i1 i2 : Nat} {A : Option Addr} {os : List St} {led : Nat → Int → Bool} {G : Int → Int} {R : Nat → Int → Int} {kb : Nat → Nat} (h : Bkp w base g gl gr gk m A c os led G R i1 kb) (hi : i1 ≤ i2) : Bkp w base g gl gr gk m A c os led G R i2 kb := by
  obtain ⟨h1, h2, h3, h5, ⟨ks, h7, h8, h9⟩, h10, h11, h12⟩ := h
  exact ⟨h1, h2, h3, h5, ⟨ks, h7, h8, fun j hj => h9 j (by omega)⟩, fun j hj => h10 j (by omega), h11, h12⟩
theorem Bkp.row {w w' : World} {base g gl gr gk m c i1 : Nat} {A : Option Addr} {os : List St} {led : Nat → Int → Bool} {G G' : Int → Int} {R : Nat → Int → Int} {kb : Nat → Nat} (h : Bkp w base g gl gr gk m A c os led G R i1 kb) (hk : KeptBut w w' (fun i => i = gr)) {cs' : Array Value} (hc : Has w' gr 3 cs') (hr : RowA cs' G') : Bkp w' base g gl gr gk m A c os led G' R i1 kb := by
  obtain ⟨h1, h2, ⟨cl, h3, h4⟩, ⟨cr, h5, h6⟩, ⟨ks, h7, h8, h9⟩, h10, h11, h12⟩ := h
  refine ⟨h1.but hk (has_ne h1 h5 (Ne.symm tbk_a)), h2.below (hk.below (fun i hi e => by omega) h12), ⟨cl, h3.but hk (has_ne h3 h5 (Ne.symm tbk_b)), h4⟩, ⟨cs', hc, hr⟩, ⟨ks, h7.but hk (has_ne h7 h5 (Ne.symm tbk_c)), h8, h9⟩, fun j h0 hj hs => ?_, h11, Nat.le_trans h12 hk.size⟩
  obtain ⟨hn, cs, hc9, hr9⟩ := h10 j h0 hj hs
  exact ⟨hn, cs, hc9.but hk hn, hr9⟩
theorem Bkp.congr {w : World} {base g gl gr gk m c i1 : Nat} {A : Option Addr} {os : List St} {led : Nat → Int → Bool} {G G' : Int → Int} {R : Nat → Int → Int} {kb : Nat → Nat} (h : Bkp w base g gl gr gk m A c os led G R i1 kb) (e : ∀ st, 0 ≤ st ∧ st ≤ 80 → G st = G' st) : Bkp w base g gl gr gk m A c os led G' R i1 kb := by
  obtain ⟨h1, h2, h3, ⟨cr, h5, h6⟩, h7⟩ := h
  exact ⟨h1, h2, h3, ⟨cr, h5, h6.congr e⟩, h7⟩

theorem worth_in {h : Int → Int} {os : List St} {led : Nat → Int → Bool} {k : Nat} {s : St} {z x : Int} (hs : os[k]? = some s) (hok : s.ok = true) (hc : Cl os led k) (hz : 0 ≤ z ∧ z ≤ 80) (ha : 0 ≤ s.a ∧ s.a ≤ 3) (hz0 : valueAt z s.a = 0) (hx : 0 ≤ x ∧ x ≤ 2) :
    (if led k (withValue z s.a x) = true then wsum (Xw (mix (Rw h os led (k + 1)) (Rw h os led k) s.a z) (Rw h os led) (k + 1)) (prt os.length s ⟨k, withValue z s.a x, 1⟩) else 0) = Rw h os led k (withValue z s.a x) := by
  have hl := (List.getElem?_eq_some_iff.1 hs).1
  have hw := with_bd hz ha hx
  have hzz : withValue (withValue z s.a x) s.a 0 = z := by
    rw [with_with hz ha hx (by decide)]
    have := with_self hz ha
    rwa [hz0] at this
  generalize withValue z s.a x = st at hw hzz
  have hR : Rw h os led k st = if led k st = true then valAt h os k st else 0 := if_neg (by omega)
  rw [hR]
  split
  · rename_i hled
    rw [← worth_led (h := h) hs hw hc hled]
    refine wsum_congr fun r hr => ?_
    congr 1
    obtain ⟨d, hd, rfl⟩ := mem_prt hr
    have hmy := many_le s
    unfold Xw
    split
    · rfl
    · rename_i h9
      have hp : (clp os.length (Rn.step s ⟨k, st, 1⟩ d)).pos = k + 1 := by
        have h9' : ¬ (k + 1 < min (k + 1 + s.jump st) os.length) := h9
        show min (k + 1 + s.jump st) os.length = k + 1
        omega
      rw [hp]
      have e1 := next_three (s := s) (x := (d : Int)) hok hw (by omega)
      show mix _ _ _ z (s.next st d) = _
      unfold mix
      rw [if_neg (by rw [e1, hzz]; omega)]
      rfl
  · rfl

theorem info_three : (Try.prog.info? 76).map (fun i => (i.zero, i.size)) = some (some (.agg #[.int .i64 0, .int .i64 0, .int .i64 0]), 3) := by kernel_rfl
theorem index_three {sn : Array Value} {u : Value} {q : Nat} (h : sn[q]? = some u) (hq : q < 3) (w : World) : (Instr.index 76 (.agg sn) (.int .i64 q)).run Try.prog w = .ok u w := by
  have hu := Try.underlying76
  have hc : (0 : Int) ≤ (q : Int) ∧ (q : Int) < 3 := by omega
  simp [Instr.index, run_underlying hu, asIntOf, go_sem, part, h, hc]
  intro h9
  omega

def Takd (w : World) (base g gl gr gk m : Nat) (A : Option Addr) (c : Nat) (os : List St) (led : Nat → Int → Bool) (G' : Int → Int) (R : Nat → Int → Int) (i1 : Nat) (kb : Nat → Nat) (e : Ending) (w' : World) : Prop :=
  e = .returned (.tuple #[]) ∧ Bkp w' base g gl gr gk m A c os led G' R i1 kb ∧ KeptBut w w' (fun i => i = gr)

set_option maxHeartbeats 1000000 in
theorem takeThree_any (w : World) (base g gl gr gy m : Nat) (A : Option Addr) (c : Nat) (os : List St) (led : Nat → Int → Bool) (hv : Int → Int) (kb : Nat → Nat) (s : St) (k z i1 : Nat) (h : Bkp w base g gl gr gy m A c os led (mix (Rw hv os led (k + 1)) (Rw hv os led k) s.a z) (Rw hv os led) i1 kb) (hi : i1 ≤ k + 1) (hm : m ≤ 12) (hM : os.length = m) (hk : k < m) (hs : os[k]? = some s) (hok : s.ok = true) (ha : 0 ≤ s.a ∧ s.a ≤ 3) (hc : Cl os led k) (hz : z < 81) (hz0 : valueAt z s.a = 0)
    (hR : ∀ j st, 0 ≤ st ∧ st ≤ 80 → k < j → 0 ≤ Rw hv os led j st ∧ Rw hv os led j st ≤ 100000000000000000) :
    Calls Try.prog 168 #[.pointer (some ⟨g, 0, none⟩), .int .i64 k, .int .i64 z, .int .i64 s.a] w (Takd w base g gl gr gy m A c os led (mix (Rw hv os led (k + 1)) (Rw hv os led k) s.a ((z : Int) + 1)) (Rw hv os led) i1 kb) := by
  have hzb : (0 : Int) ≤ (z : Int) ∧ (z : Int) ≤ 80 := by omega
  have hwv : ∀ x : Nat, x < 3 → 0 ≤ withValue z s.a x ∧ withValue z s.a x ≤ 80 := fun x hx => with_bd hzb ha (by omega)
  have hR0 : ∀ x : Nat, x < 3 → ∀ q : Nat, withValue z s.a x = (q : Int) → ∀ d : Nat, d < s.many → 0 ≤ mix (Rw hv os led (k + 1)) (Rw hv os led k) s.a z (s.next q d) ∧ mix (Rw hv os led (k + 1)) (Rw hv os led k) s.a z (s.next q d) ≤ 100000000000000000 := fun x hx q hq d hd => by
    have hmy := many_le s
    have hqb := hwv x hx
    rw [hq] at hqb
    have hzz : withValue (q : Int) s.a 0 = z := by
      rw [← hq, with_with hzb ha (by omega) (by decide)]
      have := with_self hzb ha
      rwa [hz0] at this
    have e1 := next_three (s := s) (x := (d : Int)) hok hqb (by omega)
    have e2 : mix (Rw hv os led (k + 1)) (Rw hv os led k) s.a z (s.next q d) = Rw hv os led (k + 1) (s.next q d) := if_neg (by rw [e1, hzz]; omega)
    rw [e2]
    exact hR (k + 1) _ (next_bd hok hqb (by omega)) (by omega)
  have cI := Lib.hid (fun wx (hb : Below w.heap.size w wx) (x : Nat) (hx : x < 3) (q : Nat) (hq : withValue z s.a x = (q : Int)) => show Calls Try.prog 185 #[.pointer (some ⟨g, 0, none⟩), .int .i64 k, .int .i64 q] wx (fun e w' => e = .returned (.int .i64 (Rw hv os led k q)) ∧ Below wx.heap.size wx w') from
    (worthIn_any wx base g gl gr gy m A c os led _ _ kb s k q ((h.wide hi).below hb) hm hM hk hs hok (by have := hwv x hx; omega) (hR0 x hx q hq) hR).mono fun e w' h9 => by
      rw [← hM, ← hq, worth_in hs hok hc hzb ha hz0 (by omega), hq] at h9
      exact h9)
  have cW := Lib.hid (fun x wx => WithValue_any z s.a x wx)
  have hH := Lib.hid h
  have hWv := Lib.hid hwv
  have hzc : (#[.int .i64 0, .int .i64 0, .int .i64 0] : Array Value).size = 3 := rfl
  have hT0 := Lib.hid (Has.new w 76 #[.int .i64 0, .int .i64 0, .int .i64 0])
  have hB0 := Lib.hid ((Below.refl w.heap.size w).alloc (Nat.le_refl _) (.cells #[.int .i64 0, .int .i64 0, .int .i64 0] 76))
  have hz3 := hz0
  clear h hs hok hc hz0 hR hR0 hwv hM hi
  go_enter Try.func168, Try.ntmps168
  go_wp2_with fail
  obtain ⟨T, hT⟩ : ∃ T, w.heap.size = T := ⟨_, rfl⟩
  rw [hT] at hT0 ⊢
  have hTT := Lib.hid hT
  clear hT
  generalize (#[.int .i64 0, .int .i64 0, .int .i64 0] : Array Value) = zc at hzc hT0 hB0 ⊢
  generalize w.alloc (.cells zc 76) = W at hT0 hB0 ⊢
  go_loopg [12] 3 (fun gn v wr => ∃ (x : Nat) (cs : Array Value), x ≤ 3 ∧ gn = 3 - x ∧ v = .int .i64 x ∧ Has wr T 76 cs ∧ cs.size = 3 ∧ (∀ i : Nat, i < x → cs[i]? = some (.int .i64 (Rw hv os led k (withValue z s.a i)))) ∧ Below w.heap.size w wr)
  case atStart => exact ⟨0, zc, by omega, rfl, rfl, hT0.out, hzc, fun i hi => by omega, hB0.out⟩
  case round =>
    clear hT0 hB0
    obtain ⟨x, cs, hx, hgn, rfl, hTc, hcz, hct, hB⟩ := hrel
    have hgk : gk = 3 - x := hgn
    clear hgn
    by_cases hx3 : x < 3
    · have hwb := hWv.out x hx3
      obtain ⟨q, hq⟩ : ∃ q : Nat, withValue z s.a x = (q : Int) := ⟨(withValue z s.a x).toNat, by omega⟩
      have cWx := Lib.hid (fun wx => cW.out x wx)
      have cIx := Lib.hid (fun wx hb => cI.out wx hb x hx3 q hq)
      rw [hq] at cWx
      have hqq := Lib.hid hq
      have hx0 : (0 : Int) ≤ (x : Int) := by omega
      have hx1 : (x : Int) < 3 := by omega
      have hct' := Lib.hid hct
      have hB' := Lib.hid hB
      have hT' := Lib.hid hTc
      obtain ⟨u, hu⟩ := hTc.size_cell (x := x) (by omega)
      have hTl := hTc.lt
      clear hct hB hTc hq hwb
      go_wp2_with (first
        | (go_at_call 150; refine (cWx.out _).mono ?_; rintro e w' ⟨rfl, rfl⟩)
        | (go_at_call 185; refine (cIx.out _ (by first | exact hB'.out | exact hB'.out.drew)).mono ?_; rintro e w3 ⟨rfl, hb3⟩; have hT3 := hT'.out.kept hb3; have hf3 := hT3.frozen; have hcu3 := hT3.cell x; obtain ⟨u3, hu3⟩ := hT3.size_cell (x := x) (by omega)))
      have hTn := Lib.hid (hT3.put x (.int .i64 (Rw hv os led k q)))
      have hBn := Lib.hid ((hB'.out.trans (hb3.mono hB'.out.size)).setCell (p := ⟨T, x, none⟩) (by show w.heap.size ≤ T; have := hTT.out; omega) (.int .i64 (Rw hv os led k q)))
      have hcn := Lib.hid (show ∀ i : Nat, i < x + 1 → (cs.setIfInBounds x (.int .i64 (Rw hv os led k q)))[i]? = some (.int .i64 (Rw hv os led k (withValue z s.a i))) from fun i hi => by
        rw [Array.getElem?_setIfInBounds]
        by_cases hix : x = i
        · subst hix
          rw [if_pos rfl, if_pos (by omega), hqq.out]
        · rw [if_neg hix]; exact hct'.out i (by omega))
      clear hb3 hT3 hf3 hcu3 hu3 hu hTl
      go_roundg (3 - (x + 1))
      case measure => omega
      case rel => exact ⟨x + 1, _, by omega, rfl, by go_num, hTn.out, by simpa using hcz, hcn.out, hBn.out⟩
    · obtain rfl : x = 3 := by omega
      have hH1 := Lib.hid (hH.out.below hB)
      have hK1 := Lib.hid (KeptBut.of_below hB (fun i => i = gr))
      have hR := Lib.hid (has_range (o := 0) (vs := cs.toList) hTc (fun j v hv => by rw [Nat.zero_add]; simpa using hv))
      have hZ := Lib.hid (show (Try.prog.info? 76).map (·.size) = some cs.toList.length from by rw [(zero_of_info (P := Try.prog) info_three).2, Array.length_toList, hcz])
      have hct' := Lib.hid hct
      clear hTc hct hB
      go_wp2_with (first | (refine wpList_load_mid rfl 76 (.tmp 8) rfl T 0 (by rfl) cs.toList _ hR.out Try.underlying76 rfl hZ.out ?_))
      clear hR hZ
      go_loopg [26] 3 (fun gn v wr => ∃ (x : Nat), x ≤ 3 ∧ gn = 3 - x ∧ v = .int .i64 x ∧ Bkp wr base g gl gr gy m A c os led (mix3 (Rw hv os led (k + 1)) (Rw hv os led k) s.a z x) (Rw hv os led) i1 kb ∧ KeptBut w wr (fun i => i = gr))
      case atStart => exact ⟨0, by omega, rfl, rfl, hH1.out.congr (fun st hst => (mix3_start ha hst).symm), hK1.out⟩
      case round =>
        clear hH1 hK1
        obtain ⟨y, hy, hgn, rfl, hBk, hKt⟩ := hrel
        obtain ⟨gk2, rfl⟩ : ∃ x, x = gk := ⟨_, rfl⟩
        obtain ⟨w2, rfl⟩ : ∃ x, x = wr := ⟨_, rfl⟩
        have hgk2 : gk2 = 3 - y := hgn
        clear hgn
        by_cases hy3 : y < 3
        · have hwb := hWv.out y hy3
          obtain ⟨q, hq⟩ : ∃ q : Nat, withValue z s.a y = (q : Int) := ⟨(withValue z s.a y).toNat, by omega⟩
          have hq81 : q < 81 := by omega
          have hq0 : (0 : Int) ≤ (q : Int) := by omega
          have hq1 : (q : Int) < 81 := by omega
          have hix := fun wx => index_three (hct'.out y hy3) hy3 wx
          have cWx := Lib.hid (fun wx => cW.out y wx)
          obtain ⟨cr, hcr, hra⟩ := hBk.2.2.2.1
          have hrn := hra.step3 ha hzb hz3 hy3
          rw [hq] at cWx hix hrn
          rw [Int.toNat_natCast] at hrn
          have hgc := hBk.1.cell
          obtain ⟨u, hu⟩ := hcr.size_cell (x := q) (by rw [hra.1]; exact hq81)
          have hfz := hcr.frozen q
          have hy0 : (0 : Int) ≤ (y : Int) := by omega
          have hy1 : (y : Int) < 3 := by omega
          have hKn : KeptBut w2 ((w2.setCell ⟨gr, q, none⟩ (.int .i64 (Rw hv os led k q))).drew) (fun i => i = gr) := KeptBut.drewN (KeptBut.put (KeptBut.refl w2 (fun i => i = gr)) (p := ⟨gr, q, none⟩) (fun _ => rfl) _) 1
          have hBn := Lib.hid (hBk.row hKn (hcr.put q (.int .i64 (Rw hv os led k q))) hrn)
          have hKn' := Lib.hid (KeptBut.trans hKt hKn (fun i _ e => e))
          clear hBk hKt hcr hra hrn hKn hq hwb
          go_wp2_with fail
          go_still_tail 10, (by kernel_rfl)
          still_call ((cWx.out w2.drew).mono fun e w9 h9 => ⟨h9.1, h9.2.symm⟩)
          repeat still_step
          refine wpStill_nil ?_
          change wpList _ _ _ _ _ w2.drew
          go_wp2_with fail
          go_roundg (3 - (y + 1))
          case measure => omega
          case rel => exact ⟨y + 1, by omega, rfl, by go_num, hBn.out, hKn'.out⟩
        · obtain rfl : y = 3 := by omega
          have hBn := Lib.hid (hBk.congr (fun st hst => mix3_done (R0 := Rw hv os led (k + 1)) (R1 := Rw hv os led k) (z := z) ha hst))
          have hKn := Lib.hid hKt
          clear hBk hKt
          go_wp2_with fail
          go_end0
          exact ⟨rfl, hBn.out, hKn.out⟩

theorem tbk_d : (24 : TypeId) ≠ 146 := by decide
theorem tbk_e : (24 : TypeId) ≠ 183 := by decide
def rowL (g : Int → Int) : List Int := (List.range 81).map fun (q : Nat) => g q
theorem rowL_length (g : Int → Int) : (rowL g).length = 81 := by simp [rowL]
theorem rowL_at {g : Int → Int} {q : Nat} (h : q < 81) : (rowL g)[q]? = some (g q) := by
  unfold rowL
  rw [List.getElem?_map, List.getElem?_range h]; rfl
theorem rowL_getD {g : Int → Int} {st : Int} (h : 0 ≤ st ∧ st ≤ 80) : (rowL g).getD st.toNat 0 = g st := by
  rw [List.getD_eq_getElem?_getD, rowL_at (by omega)]
  simp
  congr 1
  omega
theorem RowA.list {cs : Array Value} {g : Int → Int} (h : RowA cs g) : cs.toList = ints (rowL g) := by
  apply List.ext_getElem?
  intro q
  by_cases hq : q < 81
  · rw [Array.getElem?_toList, h.2 q hq, ints_get (rowL_at hq)]
  · rw [Array.getElem?_toList, Array.getElem?_eq_none (by rw [h.1]; omega), List.getElem?_eq_none (by rw [ints_length, rowL_length]; omega)]
theorem IOwn.rowA {w : World} {base g : Nat} {ds : List Int} (h : IOwn w base (.slice (some ⟨g, 0, none⟩) 81 81) ds) (hl : ds.length = 81) : ∃ cs, Has w g 3 cs ∧ RowA cs (fun st => ds.getD st.toNat 0) := by
  rcases h.2 with ⟨hv, h0⟩ | ⟨b, cap, cur, hv, hg, hh, h1, h2, h3, h4⟩
  · omega
  · injection hv with e1 _ e3
    injection e1 with e1
    injection e1 with e1 _ _
    subst e1 e3
    refine ⟨cur, hh, by omega, fun q hq => ?_⟩
    have h5 : (ints ds)[q]? = some (.int .i64 (ds[q]'(by omega))) := ints_get (List.getElem?_eq_getElem (by omega))
    rw [← h4, List.getElem?_take, if_pos (by omega)] at h5
    rw [← Array.getElem?_toList, h5]
    simp [List.getD_eq_getElem?_getD, List.getElem?_eq_getElem (show q < ds.length by omega)]
/-- The row is kept for the skips that lead to a place. -/
theorem Bkp.kept {w w' : World} {base g gl gr gy m c k k' n : Nat} {A : Option Addr} {os : List St} {led : Nat → Int → Bool} {G : Int → Int} {R : Nat → Int → Int} {kb : Nat → Nat} {ks cs : Array Value} (h : Bkp w base g gl gr gy m A c os led G R k kb) (hk : KeptBut w w' (fun i => i = gy)) (hkk : k = k' + 1) (hks : Has w gy 24 ks) (hn : Has w' gy 24 (ks.setIfInBounds k (.slice (some ⟨n, 0, none⟩) 81 81))) (hkm : k ≤ m) (hc : Has w' n 3 cs) (hr : RowA cs (R k)) (hng : n ≠ gr) (hgb : base ≤ gy) :
    Bkp w' base g gl gr gy m A c os led G R k' (fun j => if j = k then n else kb j) := by
  obtain ⟨h1, h2, ⟨cl, h3, h4⟩, ⟨cr, h5, h6⟩, ⟨ks', h7, h8, h9⟩, h10, h11, h12⟩ := h
  have e : ks' = ks := by
    unfold Has at h7 hks
    rw [h7] at hks
    injection hks with e
    injection e with e _ _
  subst e
  refine ⟨h1.but hk (has_ne h1 h7 (Ne.symm tbk_d)), h2.below (hk.below (fun i hi e => by omega) h12), ⟨cl, h3.but hk (has_ne h3 h7 (Ne.symm tbk_e)), h4⟩, ⟨cr, h5.but hk (has_ne h5 h7 tbk_c), h6⟩, ⟨_, hn, by simpa using h8, fun j h0 hj hs => ?_⟩, fun j h0 hj hs => ?_, h11, Nat.le_trans h12 hk.size⟩
  · dsimp only
    rw [Array.getElem?_setIfInBounds]
    by_cases hjk : k = j
    · rw [if_pos hjk, if_pos (by omega), if_pos hjk.symm]
    · rw [if_neg hjk, if_neg (Ne.symm hjk)]
      exact h9 j (by omega) hj hs
  · dsimp only
    by_cases hjk : j = k
    · subst hjk
      rw [if_pos rfl]
      exact ⟨hng, cs, hc, hr⟩
    · rw [if_neg hjk]
      obtain ⟨hn9, cs9, hc9, hr9⟩ := h10 j (by omega) hj hs
      exact ⟨hn9, cs9, hc9.but hk (has_ne hc9 h7 tbk_c), hr9⟩
theorem Bkp.unled {w : World} {base g gl gr gy m c k k' : Nat} {A : Option Addr} {os : List St} {led : Nat → Int → Bool} {G : Int → Int} {R : Nat → Int → Int} {kb : Nat → Nat} (h : Bkp w base g gl gr gy m A c os led G R k kb) (hkk : k = k' + 1) (hno : ¬ ∃ i, Leads os k i) : Bkp w base g gl gr gy m A c os led G R k' kb := by
  obtain ⟨h1, h2, h3, h5, ⟨ks, h7, h8, h9⟩, h10, h11, h12⟩ := h
  have key : ∀ j, k' < j → (∃ i, Leads os j i) → k < j := fun j hj hs => by
    by_cases hjk : j = k
    · subst hjk; exact absurd hs hno
    · omega
  exact ⟨h1, h2, h3, h5, ⟨ks, h7, h8, fun j h0 hj hs => h9 j (key j h0 hs) hj hs⟩, fun j h0 hj hs => h10 j (key j h0 hs) hj hs, h11, h12⟩

/-- How a row is taken back. -/
def Takd2 (w : World) (base g gl gr gk m : Nat) (A : Option Addr) (c : Nat) (os : List St) (led : Nat → Int → Bool) (G' : Int → Int) (R : Nat → Int → Int) (i1 : Nat) (e : Ending) (w' : World) : Prop :=
  e = .returned (.tuple #[]) ∧ ∃ kb', Bkp w' base g gl gr gk m A c os led G' R i1 kb' ∧ KeptBut w w' (fun i => i = gr ∨ i = gk)

set_option maxHeartbeats 4000000 in
theorem takeBack_any (w : World) (base g gl gr gy m : Nat) (A : Option Addr) (c : Nat) (os : List St) (led : Nat → Int → Bool) (hv : Int → Int) (kb : Nat → Nat) (s : St) (k : Nat) (h : Bkp w base g gl gr gy m A c os led (Rw hv os led (k + 1)) (Rw hv os led) (k + 1) kb) (hgy : base ≤ gy) (hm : m ≤ 12) (hM : os.length = m) (hokA : ∀ s ∈ os, s.ok = true) (hk : k < m) (hs : os[k]? = some s) (ha : 0 ≤ s.a ∧ s.a ≤ 3) (hc : Cl os led k)
    (hR : ∀ j st, 0 ≤ st ∧ st ≤ 80 → k < j → 0 ≤ Rw hv os led j st ∧ Rw hv os led j st ≤ 100000000000000000) :
    Calls Try.prog 133 #[.pointer (some ⟨g, 0, none⟩), .int .i64 k] w (Takd2 w base g gl gr gy m A c os led (Rw hv os led k) (Rw hv os led) k) := by
  have hok := hokA s (List.mem_of_getElem? hs)
  obtain ⟨gs, off, s', rfl, hgs, hs', hat⟩ := h.2.1.at_ hk
  obtain rfl : s' = s := Option.some.inj (hs'.symm.trans hs)
  have hAt := Lib.hid (show ∀ (wx : World) (kb2 : Nat → Nat) (G : Int → Int) (i : Nat), Bkp wx base g gl gr gy m (some ⟨gs, off, none⟩) c os led G (Rw hv os led) i kb2 → wx.cell? ⟨gs, off + k * 7 + 1, none⟩ = some (.int .i64 s'.a) from fun wx kb2 G i hb => by
    obtain ⟨gs2, off2, s2, e2, _, hs2, hat2⟩ := hb.2.1.at_ hk
    injection e2 with e2
    injection e2 with e2 e3 _
    subst e2 e3
    obtain rfl : s2 = s' := Option.some.inj (hs2.symm.trans hs)
    obtain ⟨_, c1, _⟩ := hat2.open_
    exact c1)
  have cT := Lib.hid (fun wx (kb2 : Nat → Nat) (z : Nat) (hb : Bkp wx base g gl gr gy m (some ⟨gs, off, none⟩) c os led (mix (Rw hv os led (k + 1)) (Rw hv os led k) s'.a z) (Rw hv os led) k kb2) (hz : z < 81) (hz0 : valueAt z s'.a = 0) => takeThree_any wx base g gl gr gy m (some ⟨gs, off, none⟩) c os led hv kb2 s' k z k hb (by omega) hm hM hk hs hok ha hc hz hz0 hR)
  have hH := Lib.hid h
  have hgc := h.1.cell
  have hk0 : (0 : Int) ≤ (k : Int) := by omega
  have hk1 : (k : Int) < (m : Int) := by omega
  have hn0 : (0 : Int) ≤ (k : Int) + 1 := by omega
  have hn1 : (k : Int) + 1 < (m : Int) + 1 := by omega
  have hn2 : k + 1 < m + 1 := by omega
  have hnt : ((k : Int) + 1).toNat = k + 1 := by omega
  have hnw : IntKind.i64.wrap ((k : Int) + 1) = (k : Int) + 1 := IntWalk.i64_in _ (by omega)
  have hSk := isSkippedTo_any (some ⟨gs, off, none⟩) m c os (k + 1) w (h.2.1.more h.2.2.2.2.2.2.2) hm hM hokA
  rw [show (((k + 1 : Nat)) : Int) = (k : Int) + 1 by omega] at hSk
  have hSk' := Lib.hid hSk
  have hkm : k + 1 ≤ m := by omega
  clear h hs hs' hat hc hR hM hSk hokA
  by_cases hL : ∃ i, Leads os (k + 1) i
  · have cS := Lib.hid (hSk'.out.mono (R' := fun e w' => e = .returned (.bool true) ∧ Below w.heap.size w w') (fun e w' h9 => by
      obtain ⟨b, rfl, hb1, hb2, hb3⟩ := h9
      obtain ⟨i, hi⟩ := hL
      exact ⟨by rw [hb1 i hi], hb3⟩))
    clear hSk' hL
    go_enter Try.func133, Try.ntmps133
    go_wp2_with fail
    refine (cS.out).mono ?_
    rintro e w3 ⟨rfl, hb3⟩
    have hB3 := hH.out.below hb3
    have hg3 := hB3.1.cell
    go_wp2_with fail
    have hB3' := Lib.hid hB3
    have hb3' := Lib.hid hb3
    have hg3h := Lib.hid hB3.1
    obtain ⟨cr3, hcr3, hra3⟩ := hB3.2.2.2.1
    obtain ⟨ks3, hks3, hkz3, _⟩ := hB3.2.2.2.2.1
    have hks3' := Lib.hid hks3
    have hO3 := Lib.hid (IOwn.of_has hcr3 hra3.list (rowL_length _) hB3.2.2.2.2.2.2.1 (show 81 ≤ maxLen by decide))
    have cC3 := Lib.hid (copied_any (some ⟨gr, 0, none⟩) 81 81 (rowL (Rw hv os led (k + 1))) w3.drew (show Ils w3.drew w3.drew.heap.size (some ⟨gr, 0, none⟩) 81 (rowL (Rw hv os led (k + 1))) from IOwn.lst hO3.out) (by decide))
    have hks : k + 1 < ks3.size := by omega
    have hgrl := hcr3.lt
    have hgyl := hks3.lt
    clear hb3 hB3 hcr3 hra3 hks3
    go_region_law (first | (go_simp; go_at_call 157; refine (cC3.out).mono ?_; rintro e w5 ⟨rfl, ho5, hb5⟩; have hg5 := (Has.kept (w := w3.drew) (by exact hg3h.out) hb5).cell; have hy5h := Has.kept (w := w3.drew) (by exact hks3'.out) hb5; have hy5 := hy5h.frozen; obtain ⟨u5, hu5⟩ := hy5h.size_cell hks))
    all_goals
      have hb5' : Below w3.heap.size w3 w5 := ((Below.refl _ _).drew).trans hb5
      have ho5' : IOwn w5 w3.heap.size (.slice (some ⟨w3.heap.size, 0, none⟩) 81 81) (rowL (Rw hv os led (k + 1))) := ho5
      obtain ⟨cn, hcn, hrn⟩ := ho5'.rowA (rowL_length _)
      have hKy : KeptBut w3 (w5.setCell ⟨gy, k + 1, none⟩ (.slice (some ⟨w3.heap.size, 0, none⟩) 81 81)) (fun i => i = gy) := KeptBut.put (KeptBut.of_below hb5' (fun i => i = gy)) (p := ⟨gy, k + 1, none⟩) (fun _ => rfl) _
      have hB6 := hB3'.out.kept hKy rfl hks3'.out (hy5h.put (k + 1) (.slice (some ⟨w3.heap.size, 0, none⟩) 81 81)) hkm (hcn.far (p := ⟨gy, k + 1, none⟩) (by show w3.heap.size ≠ gy; omega) (.slice (some ⟨w3.heap.size, 0, none⟩) 81 81)) (hrn.congr (fun st hst => rowL_getD hst)) (by omega) hgy
      have hK6 : KeptBut w (w5.setCell ⟨gy, k + 1, none⟩ (.slice (some ⟨w3.heap.size, 0, none⟩) 81 81)) (fun i => i = gr ∨ i = gy) := KeptBut.trans (KeptBut.of_below hb3'.out (fun i => i = gr ∨ i = gy)) hKy (fun i _ e => .inr e)
      clear hb5 hb5' ho5 ho5' hcn hrn hKy hy5h hy5 hu5 hg5 hg3 hgc
      generalize w5.setCell ⟨gy, k + 1, none⟩ (.slice (some ⟨w3.heap.size, 0, none⟩) 81 81) = W6 at hB6 hK6 ⊢
      have hg6 := hB6.1.cell
      have c1 := hAt.out _ _ _ _ hB6
      have hHs := Lib.hid hB6
      have hKs := Lib.hid hK6
      generalize (fun j => if j = k + 1 then w3.heap.size else kb j) = kb' at hHs hB6
      clear hB6 hK6
      go_wp2_with fail
      clear c1 hg6
      go_loopg [38] 81 (fun gn v wr => ∃ (z : Nat), z ≤ 81 ∧ gn = 81 - z ∧ v = .int .i64 z ∧ Bkp wr base g gl gr gy m (some ⟨gs, off, none⟩) c os led (mix (Rw hv os led (k + 1)) (Rw hv os led k) s'.a z) (Rw hv os led) k kb' ∧ KeptBut w wr (fun i => i = gr ∨ i = gy))
      case atStart => exact ⟨0, by omega, rfl, rfl, hHs.out.congr (fun st hst => (mix_start ha hst).symm), hKs.out⟩
      case round =>
        clear hHs hKs
        obtain ⟨z, hz, hgn, rfl, hB, hK⟩ := hrel
        have hgk : gk = 81 - z := hgn
        have hB' := Lib.hid hB
        have hK' := Lib.hid hK
        clear hgn hB hK
        by_cases hz81 : z < 81
        · have hz0 : (0 : Int) ≤ (z : Int) := by omega
          have hz1 : (z : Int) < 81 := by omega
          have cV := Lib.hid (fun wx => ValueAt_any z s'.a wx)
          by_cases hv0 : valueAt z s'.a = 0
          · rw [hv0] at cV
            have cTz := Lib.hid (cT.out wr kb' z hB'.out hz81 hv0)
            clear hv0
            go_wp2_with (first
              | (go_at_call 114; refine (cV.out _).mono ?_; rintro e w' ⟨rfl, rfl⟩)
              | (go_at_call 168; refine (cTz.out).mono ?_; rintro e w9 ⟨rfl, hB9, hK9⟩))
            have hBn := Lib.hid hB9
            have hKn := Lib.hid (KeptBut.trans hK'.out hK9 (fun i _ e => .inl e))
            clear hB9 hK9
            go_roundg (81 - (z + 1))
            case measure => omega
            case rel => exact ⟨z + 1, by omega, rfl, by go_num, by simpa using hBn.out, hKn.out⟩
          · have hvb : (valueAt z s'.a == 0) = false := by simpa using hv0
            have hBn := Lib.hid (hB'.out.congr (G' := mix (Rw hv os led (k + 1)) (Rw hv os led k) s'.a ((z : Int) + 1)) (fun st hst => (mix_pass ha hst hv0).symm))
            clear hv0
            generalize valueAt z s'.a = vv at cV hvb
            go_wp2_with (first
              | (go_at_call 114; refine (cV.out _).mono ?_; rintro e w' ⟨rfl, rfl⟩))
            go_roundg (81 - (z + 1))
            case measure => omega
            case rel => exact ⟨z + 1, by omega, rfl, by go_num, by simpa using hBn.out, hK'.out⟩
        · obtain rfl : z = 81 := by omega
          have hBn := Lib.hid (hB'.out.congr (fun st hst => mix_done (R0 := Rw hv os led (k + 1)) (R1 := Rw hv os led k) ha hst))
          go_wp2_with fail
          go_end0
          exact ⟨rfl, kb', hBn.out, hK'.out⟩
  · have cS := Lib.hid (hSk'.out.mono (R' := fun e w' => e = .returned (.bool false) ∧ Below w.heap.size w w') (fun e w' h9 => by
      obtain ⟨b, rfl, hb1, hb2, hb3⟩ := h9
      cases b with
      | true => exact absurd (hb2 rfl) hL
      | false => exact ⟨rfl, hb3⟩))
    have hno := Lib.hid hL
    clear hSk' hL
    go_enter Try.func133, Try.ntmps133
    go_wp2_with fail
    refine (cS.out).mono ?_
    rintro e W6 ⟨rfl, hb3⟩
    clear hgc
    have hB6 := (hH.out.below hb3).unled rfl hno.out
    have hg6 := hB6.1.cell
    have c1 := hAt.out _ _ _ _ hB6
    have hHs := Lib.hid hB6
    have hKs := Lib.hid (KeptBut.of_below hb3 (fun i => i = gr ∨ i = gy))
    obtain ⟨kb', rfl⟩ : ∃ x, x = kb := ⟨_, rfl⟩
    clear hB6 hb3
    go_wp2_with fail
    clear c1 hg6
    go_loopg [38] 81 (fun gn v wr => ∃ (z : Nat), z ≤ 81 ∧ gn = 81 - z ∧ v = .int .i64 z ∧ Bkp wr base g gl gr gy m (some ⟨gs, off, none⟩) c os led (mix (Rw hv os led (k + 1)) (Rw hv os led k) s'.a z) (Rw hv os led) k kb' ∧ KeptBut w wr (fun i => i = gr ∨ i = gy))
    case atStart => exact ⟨0, by omega, rfl, rfl, hHs.out.congr (fun st hst => (mix_start ha hst).symm), hKs.out⟩
    case round =>
      clear hHs hKs
      obtain ⟨z, hz, hgn, rfl, hB, hK⟩ := hrel
      have hgk : gk = 81 - z := hgn
      have hB' := Lib.hid hB
      have hK' := Lib.hid hK
      clear hgn hB hK
      by_cases hz81 : z < 81
      · have hz0 : (0 : Int) ≤ (z : Int) := by omega
        have hz1 : (z : Int) < 81 := by omega
        have cV := Lib.hid (fun wx => ValueAt_any z s'.a wx)
        by_cases hv0 : valueAt z s'.a = 0
        · rw [hv0] at cV
          have cTz := Lib.hid (cT.out wr kb' z hB'.out hz81 hv0)
          clear hv0
          go_wp2_with (first
            | (go_at_call 114; refine (cV.out _).mono ?_; rintro e w' ⟨rfl, rfl⟩)
            | (go_at_call 168; refine (cTz.out).mono ?_; rintro e w9 ⟨rfl, hB9, hK9⟩))
          have hBn := Lib.hid hB9
          have hKn := Lib.hid (KeptBut.trans hK'.out hK9 (fun i _ e => .inl e))
          clear hB9 hK9
          go_roundg (81 - (z + 1))
          case measure => omega
          case rel => exact ⟨z + 1, by omega, rfl, by go_num, by simpa using hBn.out, hKn.out⟩
        · have hvb : (valueAt z s'.a == 0) = false := by simpa using hv0
          have hBn := Lib.hid (hB'.out.congr (G' := mix (Rw hv os led (k + 1)) (Rw hv os led k) s'.a ((z : Int) + 1)) (fun st hst => (mix_pass ha hst hv0).symm))
          clear hv0
          generalize valueAt z s'.a = vv at cV hvb
          go_wp2_with (first
            | (go_at_call 114; refine (cV.out _).mono ?_; rintro e w' ⟨rfl, rfl⟩))
          go_roundg (81 - (z + 1))
          case measure => omega
          case rel => exact ⟨z + 1, by omega, rfl, by go_num, by simpa using hBn.out, hK'.out⟩
      · obtain rfl : z = 81 := by omega
        have hBn := Lib.hid (hB'.out.congr (fun st hst => mix_done (R0 := Rw hv os led (k + 1)) (R1 := Rw hv os led k) ha hst))
        go_wp2_with fail
        go_end0
        exact ⟨rfl, kb', hBn.out, hK'.out⟩
end Go.Proofs.Ytbndonfpdioibaa
