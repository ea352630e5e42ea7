/- Slopes of all statements: the program's totalSlopes. -/
import Derived.Test.YtbndonfpdioibaaS6
namespace Go.Proofs.Ytbndonfpdioibaa
set_option maxRecDepth 100000
set_option linter.unusedVariables false
open Go.RowKit

theorem Frs.kept {w w' : World} {base gf m : Nat} {F : Nat → Fr} {vs : Nat → Value} {S : Nat → Prop} (h : Frs w base gf m F vs) (hk : KeptBut w w' S) (hS : ∀ k t cs, Has w k t cs → S k → t ≠ 153 ∧ t ≠ 101) : Frs w' base gf m F vs := by
  obtain ⟨⟨cs, hc, hA⟩, hR, hD⟩ := h
  refine ⟨⟨cs, hc.but hk (fun e => (hS gf _ _ hc e).1 rfl), hA⟩, fun i hi => owns_but (hR i hi) hk (fun k hkk e => ?_), hD⟩
  obtain ⟨c1, g1⟩ := owns_has (hR i hi) hkk
  exact (hS k _ _ g1 e).2 rfl
theorem Has.typ {w : World} {b : Nat} {t t' : TypeId} {cs cs' : Array Value} (h1 : Has w b t cs) (h2 : Has w b t' cs') : t = t' := by
  apply Classical.byContradiction
  intro hne
  exact has_ne h1 h2 hne rfl
theorem Bkp.other {w w' : World} {base g gl gr gk m c i1 b : Nat} {A : Option Addr} {os : List St} {led : Nat → Int → Bool} {G : Int → Int} {R : Nat → Int → Int} {kb : Nat → Nat} {cs : Array Value} (h : Bkp w base g gl gr gk m A c os led G R i1 kb) (hk : KeptBut w w' (fun i => i = b)) (hb : Has w b 76 cs) (hbb : base ≤ b) : Bkp w' base g gl gr gk m A c os led G R i1 kb := by
  obtain ⟨h1, h2, ⟨cl, h3, h4⟩, ⟨cr, h5, h6⟩, ⟨ks, h7, h8, h9⟩, h10, h11, h12⟩ := h
  refine ⟨h1.but hk (has_ne h1 hb (by decide)), h2.below (hk.below (fun i hi e => by omega) h12), ⟨cl, h3.but hk (has_ne h3 hb (by decide)), h4⟩, ⟨cr, h5.but hk (has_ne h5 hb (by decide)), h6⟩, ⟨ks, h7.but hk (has_ne h7 hb (by decide)), h8, h9⟩, fun j h0 hj hs => ?_, h11, Nat.le_trans h12 hk.size⟩
  obtain ⟨hn, cs, hc, hr⟩ := h10 j h0 hj hs
  exact ⟨hn, cs, hc.but hk (has_ne hc hb (by decide)), hr⟩
/-- The slopes of all statements from a place on, in cells. -/
def TslA (cs : Array Value) (os : List St) (m k : Nat) : Prop := cs.size = m * 3 ∧ ∀ i c : Nat, i < m → c < 3 → cs[i * 3 + c]? = some (.int .i64 (if k ≤ i then tsl os i c else 0))
theorem TslA.skip {cs : Array Value} {os : List St} {m k : Nat} (h : TslA cs os m (k + 1)) (h0 : ∀ c, c < 3 → tsl os k c = 0) : TslA cs os m k := by
  refine ⟨h.1, fun i c hi hc => ?_⟩
  rw [h.2 i c hi hc]
  by_cases hik : i = k
  · subst hik
    rw [if_neg (by omega), if_pos (Nat.le_refl _), h0 c hc]
  · by_cases h1 : k + 1 ≤ i
    · rw [if_pos h1, if_pos (by omega)]
    · rw [if_neg h1, if_neg (by omega)]
theorem TslA.step {cs : Array Value} {os : List St} {m k : Nat} (h : TslA cs os m (k + 1)) (hk : k < m) {x y z : Int} (hx : x = tsl os k 0) (hy : y = tsl os k 1) (hz : z = tsl os k 2) :
    TslA (((cs.setIfInBounds (k * 3) (.int .i64 x)).setIfInBounds (k * 3 + 1) (.int .i64 y)).setIfInBounds (k * 3 + 2) (.int .i64 z)) os m k := by
  have hl := h.1
  refine ⟨by simpa using hl, fun i c hi hc => ?_⟩
  rw [Array.getElem?_setIfInBounds, Array.getElem?_setIfInBounds, Array.getElem?_setIfInBounds]
  simp only [Array.size_setIfInBounds]
  by_cases hik : i = k
  · subst hik
    rw [if_pos (Nat.le_refl _)]
    obtain rfl | rfl | rfl : c = 0 ∨ c = 1 ∨ c = 2 := by omega
    · rw [if_neg (by omega), if_neg (by omega), if_pos (by omega), if_pos (by omega), hx]
    · rw [if_neg (by omega), if_pos (by omega), if_pos (by omega), hy]
    · rw [if_pos (by omega), if_pos (by omega), hz]
  · rw [if_neg (by omega), if_neg (by omega), if_neg (by omega), h.2 i c hi hc]
    by_cases h1 : k + 1 ≤ i
    · rw [if_pos h1, if_pos (by omega)]
    · rw [if_neg h1, if_neg (by omega)]
theorem info_three3 : (Try.prog.info? 76).map (fun i => (i.zero, i.size, i.bytes)) = some (some (.agg #[.int .i64 0, .int .i64 0, .int .i64 0]), 3, 24) := by kernel_rfl
theorem three_cells : (Value.agg #[.int .i64 0, .int .i64 0, .int .i64 0]).cells = #[.int .i64 0, .int .i64 0, .int .i64 0] := by kernel_rfl
theorem made_Tsl (os : List St) (m : Nat) : TslA (madeCells (Value.agg #[.int .i64 0, .int .i64 0, .int .i64 0]).cells (m * 3)) os m m := by
  rw [three_cells]
  refine ⟨size_madeCells _ _, fun i c hi hc => ?_⟩
  rw [made_at (by omega) (by decide), if_neg (by omega)]
  have e : (i * 3 + c) % 3 = c := by omega
  show (#[.int .i64 0, .int .i64 0, .int .i64 0] : Array Value)[(i * 3 + c) % 3]? = _
  rw [e]
  obtain rfl | rfl | rfl : c = 0 ∨ c = 1 ∨ c = 2 := by omega
  all_goals rfl
/-- What else holds of the fronts. -/
def XF (os : List St) (m : Nat) (F : Nat → Fr) (i : Nat) (rs : Fr) : Prop := (∀ t, FrOk (F t)) ∧ (∀ t, ∀ p ∈ F t, p.2 ≤ 1000000000000000000) ∧ Gsx 0 one1 os m F i rs
def Totd (w : World) (os : List St) (m : Nat) (e : Ending) (w' : World) : Prop := ∃ cs, e = .returned (.slice (some ⟨w.heap.size, 0, none⟩) m m) ∧ Has w' w.heap.size 76 cs ∧ TslA cs os m 0 ∧ Below w.heap.size w w'
theorem resp_one1 : Resp 0 one1 := fun _ _ _ _ _ => rfl

set_option maxHeartbeats 4000000 in
theorem totalSlopes_any (A : Option Addr) (m c : Nat) (os : List St) (base : Nat) (w : World) (h : w.ownsRow base 78 7 (.slice A m c) m (flat os)) (hbs : base ≤ w.heap.size) (hm : m ≤ 12) (hM : os.length = m) (hok : ∀ s ∈ os, s.ok = true ∧ s.notLoop = true) :
    Calls Try.prog 78 #[.slice A m c] w (Totd w os m) := by
  obtain ⟨i0, hi0, hz0, hz1', hz2'⟩ := info_parts info_three3
  have hmk : ∀ wx : World, (Instr.makeSlice 92 (.int .i64 (m : Int)) (.int .i64 (m : Int))).run Try.prog wx = .ok (.slice (some ⟨wx.heap.size, 0, none⟩) m m) (wx.alloc (.cells (madeCells (Value.agg #[.int .i64 0, .int .i64 0, .int .i64 0]).cells (m * 3)) 76)) := by
    intro wx
    have hr := run_make (P := Try.prog) wx 92 76 i0 _ Try.underlying92 hi0 hz0 .i64 .i64 (m : Int) (m : Int) (by omega) (by omega) (by rw [hz2']; omega) (by omega)
    rw [hz1'] at hr
    rw [show (m : Int).toNat = m by omega] at hr
    exact hr
  have hO := Lib.hid h
  have hLs := Lib.hid (ownS_lst h)
  have hMo := Lib.hid hM
  have hOk := Lib.hid hok
  have hT0 := Lib.hid (made_Tsl os m)
  have hbh := Lib.hid hbs
  generalize madeCells (Value.agg #[.int .i64 0, .int .i64 0, .int .i64 0]).cells (m * 3) = cs0 at hmk hT0
  have hHas := Lib.hid (Has.new w 76 cs0)
  have hB0 := Lib.hid ((Below.refl w.heap.size w).alloc (Nat.le_refl _) (.cells cs0 76))
  have hO1 := Lib.hid (World.ownsRow.alloc h (.cells cs0 76))
  have hz9 : w.heap.size < (w.alloc (.cells cs0 76)).heap.size := by simp
  have hzh := Lib.hid hz9
  clear h hM hok hi0 hz0 hz1' hz2' hbs hz9
  go_enter Try.func78, Try.ntmps78
  go_wp2_with fail
  clear hmk
  obtain ⟨B, hBB⟩ : ∃ B, w.heap.size = B := ⟨_, rfl⟩
  rw [hBB] at hHas ⊢
  generalize w.alloc (.cells cs0 76) = W1 at hHas hB0 hO1 hzh ⊢
  have hBe := Lib.hid hBB
  clear hBB
  have hG0 := Lib.hid (gst_one (asked := 0) hMo.out hm hOk.out (show (0 : Int) ≤ 0 ∧ (0 : Int) ≤ 80 by decide))
  have cF := Lib.hid (frontsOf_gen (XF os m) A m c os 0 base W1 hO1.out (Nat.le_trans hbh.out (Nat.le_of_lt hzh.out)) hm hMo.out hOk.out (by decide)
    ⟨hG0.out.1, hG0.out.2.1, Gsx.start resp_one1 hMo.out hOk.out⟩
    (fun Fk i sz wt rs s hG hi hs hX => by
      have hG2 := hG.step hMo.out hOk.out hi hs
      exact ⟨hG2.1, hG2.2.1, hX.2.2.step resp_one1 hMo.out hOk.out hi ((hG.1 i).1 _ (hG.2.2.2.2.2.1 _ List.mem_cons_self)).1 hs⟩)
    (fun Fk i hi hX => ⟨hX.1, hX.2.1, hX.2.2.next hi⟩))
  refine (cF.out).mono ?_
  rintro e w2 ⟨gf, F, vs, rfl, hgf, hfr, _, _, _, _, hXF, hb2⟩
  have hFr := Lib.hid hfr
  have hXf := Lib.hid (And.intro hXF.1 (And.intro hXF.2.1 (hXF.2.2.done hMo.out)))
  have hH2 := Lib.hid (hHas.out.kept hb2)
  have hB2 := Lib.hid (hB0.out.trans (hb2.mono (Nat.le_of_lt hzh.out)))
  clear hgf hfr hXF hb2 cF hG0 hHas hB0 hO1
  go_wp2_with fail
  refine (allOnes_any _).mono ?_
  rintro e w3 ⟨rfl, ⟨cs3, hc3, hr3⟩, hb3⟩
  have hFr3 := Lib.hid (hFr.out.kept (KeptBut.of_below hb3 (fun _ => False)) (fun _ _ _ _ e => e.elim))
  have hH3 := Lib.hid (hH2.out.kept hb3)
  have hB3 := Lib.hid (hB2.out.trans (hb3.mono hB2.out.size))
  have hO3 := Lib.hid (IOwn.of_has hc3 (show cs3.toList = ints (rowL one1) from RowA.list (g := one1) hr3) (rowL_length _) (Nat.le_refl _) (show 81 ≤ maxLen by decide))
  have hz23 := Lib.hid hb3.size
  have hc3l := Lib.hid hc3.lt
  clear hFr hH2 hc3 hr3 hb3
  go_wp2_with fail
  refine (ledEverywhere_any A m c _ hm).mono ?_
  rintro e w4 ⟨rfl, ⟨cs4, hc4, hl4⟩, hb4⟩
  have hFr4 := Lib.hid (hFr3.out.kept (KeptBut.of_below hb4 (fun _ => False)) (fun _ _ _ _ e => e.elim))
  have hH4 := Lib.hid (hH3.out.kept hb4)
  have hB4 := Lib.hid (hB3.out.trans (hb4.mono hB3.out.size))
  have hL4 := Lib.hid (And.intro hc4 hl4)
  have hI4 := Lib.hid (show Ils w4 w4.heap.size (some ⟨w2.heap.size, 0, none⟩) 81 (rowL one1) from ((ownI_lst (show w3.ownsRow w2.heap.size 3 1 (.slice (some ⟨w2.heap.size, 0, none⟩) 81 81) 81 (ints (rowL one1)) from by have := hO3.out; unfold IOwn at this; rwa [rowL_length] at this)).below hb4).more hb4.size)
  clear hFr3 hH3 hB3 hO3 hc4 hl4 hb4
  go_wp2_with fail
  refine (backwardOf_any A (some ⟨w2.heap.size, 0, none⟩) m c 81 (some ⟨w3.heap.size, 0, none⟩) (m + 1) (m + 1) (rowL one1) _ hI4.out (rowL_length _) hm).mono ?_
  rintro e w5 ⟨gr, gy, cs5, ks5, rfl, hgr, hgy, hc5, hr5, hk5, hks5, hb5⟩
  have hFr5 := Lib.hid (hFr4.out.kept (KeptBut.of_below hb5 (fun _ => False)) (fun _ _ _ _ e => e.elim))
  have hH5 := Lib.hid (hH4.out.kept hb5)
  have hB5 := Lib.hid (hB4.out.trans (hb5.mono hB4.out.size))
  have hL5 := Lib.hid (hL4.out.1.kept hb5)
  have hz4 := Lib.hid hB4.out.size
  have hSz := Lib.hid (show w5.heap.size ≤ w5.heap.size from Nat.le_refl _)
  have hBk := Lib.hid (show Bkp (w5.alloc (.cells #[.slice A m c, .slice (some ⟨w3.heap.size, 0, none⟩) (m + 1) (m + 1), .slice (some ⟨gr, 0, none⟩) 81 81, .slice (some ⟨gy, 0, none⟩) (m + 1) (m + 1)] 146)) B w5.heap.size w3.heap.size gr gy m A c os led1 (Rw one1 os led1 m) (Rw one1 os led1) m (fun _ => 0) from by
    refine ⟨Has.new _ _ _, ?_, ⟨cs4, hL5.out.alloc _, hL4.out.2⟩, ⟨cs5, hc5.alloc _, hr5.congr fun st hst => ?_⟩, ⟨ks5, hk5.alloc _, hks5, fun j h1 h2 => by omega⟩, fun j h1 h2 => by omega, by have := hz4.out; have := hBe.out; omega, by have := hB5.out.size; have := hBe.out; simp; omega⟩
    · have := hLs.out
      rw [hBe.out] at this
      have h9 := hB5.out
      rw [hBe.out] at h9
      exact (this.below h9).below ((Below.refl _ _).alloc (by have := h9.size; rw [hBe.out] at this; exact this) _)
    · show (rowL one1).getD st.toNat 0 = _
      rw [rowL_getD hst, Rw1, valAt_end (by rw [hMo.out]; exact Nat.le_refl _)])
  have hFr6 := Lib.hid (hFr5.out.kept (KeptBut.of_below ((Below.refl w5.heap.size w5).alloc (Nat.le_refl _) (.cells #[.slice A m c, .slice (some ⟨w3.heap.size, 0, none⟩) (m + 1) (m + 1), .slice (some ⟨gr, 0, none⟩) 81 81, .slice (some ⟨gy, 0, none⟩) (m + 1) (m + 1)] 146)) (fun _ => False)) (fun _ _ _ _ e => e.elim))
  have hH6 := Lib.hid (hH5.out.alloc (.cells #[.slice A m c, .slice (some ⟨w3.heap.size, 0, none⟩) (m + 1) (m + 1), .slice (some ⟨gr, 0, none⟩) 81 81, .slice (some ⟨gy, 0, none⟩) (m + 1) (m + 1)] 146))
  have hB6 := Lib.hid (hB5.out.alloc hB5.out.size (.cells #[.slice A m c, .slice (some ⟨w3.heap.size, 0, none⟩) (m + 1) (m + 1), .slice (some ⟨gr, 0, none⟩) 81 81, .slice (some ⟨gy, 0, none⟩) (m + 1) (m + 1)] 146))
  have hgyB := Lib.hid (show B ≤ gy by have := hz4.out; have := hBe.out; omega)
  clear hFr4 hH4 hI4 hgr hgy hc5 hr5 hk5 hks5 hb5 hFr5 hH5 hL5 hL4 hB4 hSz
  have hm0 : (0 : Int) ≤ (m : Int) := by omega
  have hwm : IntKind.i64.wrap ((m : Int) - 1) = (m : Int) - 1 := IntWalk.i64_in _ (by omega)
  go_wp2_with fail
  generalize w5.alloc (.cells #[.slice A m c, .slice (some ⟨w3.heap.size, 0, none⟩) (m + 1) (m + 1), .slice (some ⟨gr, 0, none⟩) 81 81, .slice (some ⟨gy, 0, none⟩) (m + 1) (m + 1)] 146) = W6 at hBk hFr6 hH6 hB6 ⊢
  generalize w5.heap.size = g at hBk ⊢
  generalize w3.heap.size = gl at hBk ⊢
  clear hc3l hz23 hB5 hz4
  go_loopg [6] m (fun gn v wr => ∃ (k : Nat) (kb : Nat → Nat) (cs : Array Value), k ≤ m ∧ gn = k ∧ v = .int .i64 ((k : Int) - 1) ∧ Bkp wr B g gl gr gy m A c os led1 (Rw one1 os led1 k) (Rw one1 os led1) k kb ∧ Frs wr base gf m F vs ∧ Has wr B 76 cs ∧ TslA cs os m k ∧ Below w.heap.size w wr)
  case atStart => exact ⟨m, _, cs0, Nat.le_refl _, rfl, rfl, hBk.out, hFr6.out, hH6.out, hT0.out, hB6.out⟩
  case round =>
    clear hBk hFr6 hH6 hB6 hT0
    obtain ⟨k, kb, cs, hk, hgn, rfl, hK, hF, hH, hT, hB⟩ := hrel
    have hgk : gk = k := hgn
    clear hgn
    by_cases hk0 : k = 0
    · subst hk0
      have hE := Lib.hid (And.intro hH (And.intro hT hB))
      clear hK hF hH hT hB
      have hneg : ¬ ((0 : Int) ≤ ((0 : Nat) : Int) - 1) := by omega
      go_wp2_with fail
      go_ret
      obtain rfl := hBe.out
      exact ⟨cs, rfl, hE.out.1, hE.out.2.1, hE.out.2.2⟩
    · obtain ⟨a, rfl⟩ : ∃ a, k = a + 1 := ⟨k - 1, by omega⟩
      rw [show (((a + 1 : Nat) : Int) - 1) = (a : Int) by omega]
      obtain ⟨s, hs⟩ : ∃ s, os[a]? = some s := ⟨_, List.getElem?_eq_getElem (by rw [hMo.out]; omega)⟩
      obtain ⟨hso, hsl⟩ := hOk.out s (List.mem_of_getElem? hs)
      obtain ⟨gs, off, s', rfl, hgs, hs', hat⟩ := hK.2.1.at_ (show a < m by omega)
      obtain rfl : s' = s := Option.some.inj (hs'.symm.trans hs)
      obtain ⟨c0, c1, c2, c3, c4, c5, c6⟩ := hat.open_
      have hsa : 0 ≤ s'.a ∧ s'.a ≤ 3 := by
        have := ok_rng (k := s'.k) (a := s'.a) (b := s'.b) (c := s'.c) (u := s'.u) (v := s'.v) (x := s'.x) hso
        omega
      have cH := Lib.hid (show ∀ wx, Calls Try.prog 82 #[.agg #[.int .i64 s'.k, .int .i64 s'.a, .int .i64 s'.b, .int .i64 s'.c, .int .i64 s'.u, .int .i64 s'.v, .int .i64 s'.x]] wx fun e w' => e = .returned (.bool s'.hasW) ∧ Below wx.heap.size wx w' from fun wx => hasWeights_any s' wx hso)
      have cT := Lib.hid (fun (wx : World) (kb2 : Nat → Nat) (hb : Bkp wx B g gl gr gy m (some ⟨gs, off, none⟩) c os led1 (Rw one1 os led1 (a + 1)) (Rw one1 os led1) (a + 1) kb2) => takeBack_any wx B g gl gr gy m (some ⟨gs, off, none⟩) c os led1 one1 kb2 s' a hb hgyB.out hm hMo.out (fun s hs => (hOk.out s hs).1) (by omega) hs hsa (cl1 _ _) (fun j sz hsz hj => Rw1_bd hm hMo.out (fun s hs => (hOk.out s hs).1) hsz (by omega)))
      have hSs := Lib.hid hs
      have hKh := Lib.hid hK
      have hFh := Lib.hid hF
      have hHh := Lib.hid hH
      have hTh := Lib.hid hT
      have hBh := Lib.hid hB
      have ha0 : (0 : Int) ≤ (a : Int) := by omega
      have ha1 : (a : Int) < (m : Int) := by omega
      have ha2 : a < m := by omega
      have hwa : IntKind.i64.wrap ((a : Int) - 1) = (a : Int) - 1 := IntWalk.i64_in _ (by omega)
      have hsof := Lib.hid hso
      clear hK hF hH hT hB hs hs' hat hso
      by_cases hw : s'.hasW = true
      · rw [hw] at cH
        go_wp2_with fail
        refine (cH.out _).mono ?_
        rintro e W0 ⟨rfl, hb7⟩
        have hK7 := Lib.hid (hKh.out.below hb7)
        have hF7 := Lib.hid (hFh.out.kept (KeptBut.of_below hb7 (fun _ => False)) (fun _ _ _ _ e => e.elim))
        have hH7 := Lib.hid (hHh.out.kept hb7)
        have hB7 := Lib.hid (hBh.out.trans (hb7.mono hBh.out.size))
        clear hb7 c0 c1 c2 c3 c4 c5 c6 hKh hFh hHh hBh cH
        obtain ⟨Ar, cr, hvr, hnr, _⟩ := owns_form (hF7.out.2.1 a (by omega))
        have hrow := hF7.out.2.1 a (by omega)
        rw [hvr] at hrow
        obtain ⟨csf, hcf, hfa⟩ := hF7.out.1
        have hf0 := (hfa.2 a (by omega)).1
        rw [hvr] at hf0
        obtain ⟨csr, hcr, hra⟩ := hK7.out.2.2.2.1
        have hbd := fun (c : Int) (hc : 0 ≤ c ∧ c ≤ 2) => gro_top hm hMo.out hOk.out hSs.out hw hc
        have hsl := fun (c : Int) (hc : 0 ≤ c ∧ c ≤ 2) => slB_gro (F := F) hSs.out hw hXf.out.2.2 hc
        have cS := Lib.hid (fun (wx : World) (hbx : Below W0.heap.size W0 wx) => slopesBehind_any B base m c a (F a).length cr gr 81 (some ⟨gs, off, none⟩) Ar os s' (F a) (Rw one1 os led1 (a + 1)) csr wx ((hK7.out.2.1).below (hbx.mono (hK7.out.2.2.2.2.2.2.2))) (Nat.le_trans hK7.out.2.2.2.2.2.2.2 hbx.size) hm hMo.out ha2 hSs.out hsof.out hw (owns_but hrow (KeptBut.of_below hbx (fun _ => False)) (fun _ _ h => h)) rfl (hXf.out.1 a) (hXf.out.2.1 a) (hcr.kept hbx) hra (fun x hx => by rw [Rw1]; exact (valAt_bd (h := one1) (H := 1) (fun _ _ _ => by unfold one1; omega) (by decide) (fun s hs => (hOk.out s hs).1) hx).1) (fun c hc => by rw [hsl c hc]; have := (hbd c hc).2; omega))
        rw [hsl 0 (by decide), hsl 1 (by decide), hsl 2 (by decide)] at cS
        have hcF := Lib.hid (fun (wx : World) (hbx : Below W0.heap.size W0 wx) => (show wx.cell? ⟨gf, a * 82, none⟩ = some (.slice Ar (F a).length cr) from ((hcf.kept hbx).cell _).trans hf0))
        have hgc := Lib.hid hK7.out.1
        have hx0 := Lib.hid (show gro 0 one1 os 0 a 0 = tsl os a 0 from by unfold tsl; rw [hSs.out]; dsimp only; rw [if_pos hw]; rfl)
        have hx1 := Lib.hid (show gro 1 one1 os 0 a 0 = tsl os a 1 from by unfold tsl; rw [hSs.out]; dsimp only; rw [if_pos hw]; rfl)
        have hx2 := Lib.hid (show gro 2 one1 os 0 a 0 = tsl os a 2 from by unfold tsl; rw [hSs.out]; dsimp only; rw [if_pos hw]; rfl)
        generalize gro 0 one1 os 0 a 0 = z0 at hx0 cS
        generalize gro 1 one1 os 0 a 0 = z1 at hx1 cS
        generalize gro 2 one1 os 0 a 0 = z2 at hx2 cS
        generalize (F a).length = nf at cS hcF
        have hm9 : (a : Int) < (m : Int) + 1 := by omega
        have hm8 : a < m + 1 := by omega
        clear hbd hsl hcf hfa hf0 hcr hra hrow hvr hnr
        go_wp2_with fail
        refine wp_region_any (by kernel_rfl) ?_
        change wpAny _ _ _ _ _ _ _ (World.drew _)
        refine wpAny_tail (n := 11) (c := 1) (I := fun listed aq wx => listed.size = 13 ∧ ∃ v29 v30 v31 v32 v33 v34 v35 v36 v37 v38 v39 : Value, aq = { tmps := #[.slice (some ⟨gs, off, none⟩) m c, undef, .slice none 0 0, .slice (some ⟨B, 0, none⟩) m m, .slice (some ⟨gf, 0, none⟩) (m + 1) (m + 1), .pointer (some ⟨g, 0, none⟩), .int .i64 ↑a, .slice (some ⟨gs, off, none⟩) m c, .int .i64 ↑m, .slice (some ⟨B, 0, none⟩) m m, .slice (some ⟨gs, off, none⟩) m c, .slice (some ⟨gf, 0, none⟩) (m + 1) (m + 1), .slice (some ⟨gs, off, none⟩) m c, .slice (some ⟨w2.heap.size, 0, none⟩) 81 81, .slice (some ⟨gs, off, none⟩) m c, .slice (some ⟨gl, 0, none⟩) (m + 1) (m + 1), .agg #[.slice (some ⟨gs, off, none⟩) m c, .slice (some ⟨gl, 0, none⟩) (m + 1) (m + 1), .slice (some ⟨gr, 0, none⟩) 81 81, .slice (some ⟨gy, 0, none⟩) (m + 1) (m + 1)], .slice (some ⟨gs, off, none⟩) m c, .int .i64 ↑m, .int .i64 (↑m - 1), .int .i64 ↑a, .bool true, u22, u23, .slice (some ⟨gs, off, none⟩) m c, .int .i64 ↑a, .pointer (some ⟨gs, off + a * 7, none⟩), .agg #[.int .i64 s'.k, .int .i64 s'.a, .int .i64 s'.b, .int .i64 s'.c, .int .i64 s'.u, .int .i64 s'.v, .int .i64 s'.x], .bool true, v29, v30, v31, v32, v33, v34, v35, v36, v37, v38, v39, u40, u41, u42, undef], defers := [] } ∧ (listed.getD 0 false = true → v29 = .slice (some ⟨B, 0, none⟩) m m) ∧ (listed.getD 1 false = true → v30 = .int .i64 ↑a) ∧ (listed.getD 2 false = true → v31 = .slice (some ⟨gs, off, none⟩) m c) ∧ (listed.getD 3 false = true → v32 = .slice (some ⟨gf, 0, none⟩) (m + 1) (m + 1)) ∧ (listed.getD 4 false = true → v33 = .int .i64 ↑a) ∧ (listed.getD 5 false = true → v34 = .pointer (some ⟨gf, a * 82, none⟩)) ∧ (listed.getD 6 false = true → v35 = .pointer (some ⟨gf, a * 82, none⟩)) ∧ (listed.getD 7 false = true → v36 = .slice Ar nf cr) ∧ (listed.getD 8 false = true → v37 = .pointer (some ⟨g, 2, none⟩)) ∧ (listed.getD 9 false = true → v38 = .slice (some ⟨gr, 0, none⟩) 81 81) ∧ (listed.getD 10 false = true → v39 = .agg #[.int .i64 z0, .int .i64 z1, .int .i64 z2]) ∧ Below W0.heap.size W0 wx) rfl (by kernel_rfl) (by kernel_rfl) (by kernel_rfl) ?hs ?hl _ _ _ ?stq rfl (by decide) _ (by decide)
        case stq =>
          refine ⟨rfl, u29, u30, u31, u32, u33, u34, u35, u36, u37, u38, u39, rfl, ?_, ?_, ?_, ?_, ?_, ?_, ?_, ?_, ?_, ?_, ?_, (Below.refl _ _).drew⟩ <;> (intro e; exact absurd e (by decide))
        case hs =>
          rintro listed aq wx ⟨hz, v29, v30, v31, v32, v33, v34, v35, v36, v37, v38, v39, rfl, hII⟩ i hin hi
          obtain ⟨h0, o, ho, hd⟩ := mem_ready.1 hi
          have K0 := Lib.hid hII.1
          have K1 := Lib.hid hII.2.1
          have K2 := Lib.hid hII.2.2.1
          have K3 := Lib.hid hII.2.2.2.1
          have K4 := Lib.hid hII.2.2.2.2.1
          have K5 := Lib.hid hII.2.2.2.2.2.1
          have K6 := Lib.hid hII.2.2.2.2.2.2.1
          have K7 := Lib.hid hII.2.2.2.2.2.2.2.1
          have K8 := Lib.hid hII.2.2.2.2.2.2.2.2.1
          have K9 := Lib.hid hII.2.2.2.2.2.2.2.2.2.1
          have K10 := Lib.hid hII.2.2.2.2.2.2.2.2.2.2.1
          have hB : Below W0.heap.size W0 wx := hII.2.2.2.2.2.2.2.2.2.2.2
          have hne := Lib.hid (fun k (hk : i ≠ k) => @listed_ne listed i k hk)
          have f0 := hcF.out wx hB
          have g0 := (hgc.out.kept hB).cell
          have h0f : listed.getD i false = false := by rw [Array.getD_eq_getD_getElem?, getD_false h0]; rfl
          clear hII hi h0
          rcases (by omega : i = 0 ∨ i = 1 ∨ i = 2 ∨ i = 3 ∨ i = 4 ∨ i = 5 ∨ i = 6 ∨ i = 7 ∨ i = 8 ∨ i = 9 ∨ i = 10) with rfl | rfl | rfl | rfl | rfl | rfl | rfl | rfl | rfl | rfl | rfl
          · cases ho
            refine wpOp_step rfl (fun K hK => ?_)
            go_simp
            refine hK _ _ ⟨by simpa using hz, .slice (some ⟨B, 0, none⟩) m m, v30, v31, v32, v33, v34, v35, v36, v37, v38, v39, rfl, ?_⟩
            exact ⟨fun _ => rfl, fun e => K1.out (hne.out 1 (by decide) e), fun e => K2.out (hne.out 2 (by decide) e), fun e => K3.out (hne.out 3 (by decide) e), fun e => K4.out (hne.out 4 (by decide) e), fun e => K5.out (hne.out 5 (by decide) e), fun e => K6.out (hne.out 6 (by decide) e), fun e => K7.out (hne.out 7 (by decide) e), fun e => K8.out (hne.out 8 (by decide) e), fun e => K9.out (hne.out 9 (by decide) e), fun e => K10.out (hne.out 10 (by decide) e), hB⟩
          · cases ho
            refine wpOp_step rfl (fun K hK => ?_)
            go_simp
            refine hK _ _ ⟨by simpa using hz, v29, .int .i64 ↑a, v31, v32, v33, v34, v35, v36, v37, v38, v39, rfl, ?_⟩
            exact ⟨fun e => K0.out (hne.out 0 (by decide) e), fun _ => rfl, fun e => K2.out (hne.out 2 (by decide) e), fun e => K3.out (hne.out 3 (by decide) e), fun e => K4.out (hne.out 4 (by decide) e), fun e => K5.out (hne.out 5 (by decide) e), fun e => K6.out (hne.out 6 (by decide) e), fun e => K7.out (hne.out 7 (by decide) e), fun e => K8.out (hne.out 8 (by decide) e), fun e => K9.out (hne.out 9 (by decide) e), fun e => K10.out (hne.out 10 (by decide) e), hB⟩
          · cases ho
            refine wpOp_step rfl (fun K hK => ?_)
            go_simp
            refine hK _ _ ⟨by simpa using hz, v29, v30, .slice (some ⟨gs, off, none⟩) m c, v32, v33, v34, v35, v36, v37, v38, v39, rfl, ?_⟩
            exact ⟨fun e => K0.out (hne.out 0 (by decide) e), fun e => K1.out (hne.out 1 (by decide) e), fun _ => rfl, fun e => K3.out (hne.out 3 (by decide) e), fun e => K4.out (hne.out 4 (by decide) e), fun e => K5.out (hne.out 5 (by decide) e), fun e => K6.out (hne.out 6 (by decide) e), fun e => K7.out (hne.out 7 (by decide) e), fun e => K8.out (hne.out 8 (by decide) e), fun e => K9.out (hne.out 9 (by decide) e), fun e => K10.out (hne.out 10 (by decide) e), hB⟩
          · cases ho
            refine wpOp_step rfl (fun K hK => ?_)
            go_simp
            refine hK _ _ ⟨by simpa using hz, v29, v30, v31, .slice (some ⟨gf, 0, none⟩) (m + 1) (m + 1), v33, v34, v35, v36, v37, v38, v39, rfl, ?_⟩
            exact ⟨fun e => K0.out (hne.out 0 (by decide) e), fun e => K1.out (hne.out 1 (by decide) e), fun e => K2.out (hne.out 2 (by decide) e), fun _ => rfl, fun e => K4.out (hne.out 4 (by decide) e), fun e => K5.out (hne.out 5 (by decide) e), fun e => K6.out (hne.out 6 (by decide) e), fun e => K7.out (hne.out 7 (by decide) e), fun e => K8.out (hne.out 8 (by decide) e), fun e => K9.out (hne.out 9 (by decide) e), fun e => K10.out (hne.out 10 (by decide) e), hB⟩
          · cases ho
            refine wpOp_step rfl (fun K hK => ?_)
            go_simp
            refine hK _ _ ⟨by simpa using hz, v29, v30, v31, v32, .int .i64 ↑a, v34, v35, v36, v37, v38, v39, rfl, ?_⟩
            exact ⟨fun e => K0.out (hne.out 0 (by decide) e), fun e => K1.out (hne.out 1 (by decide) e), fun e => K2.out (hne.out 2 (by decide) e), fun e => K3.out (hne.out 3 (by decide) e), fun _ => rfl, fun e => K5.out (hne.out 5 (by decide) e), fun e => K6.out (hne.out 6 (by decide) e), fun e => K7.out (hne.out 7 (by decide) e), fun e => K8.out (hne.out 8 (by decide) e), fun e => K9.out (hne.out 9 (by decide) e), fun e => K10.out (hne.out 10 (by decide) e), hB⟩
          · cases ho
            have d3 := hd ⟨3, .data⟩ (by simp) rfl
            have d4 := hd ⟨4, .data⟩ (by simp) rfl
            obtain rfl := K3.out d3
            obtain rfl := K4.out d4
            refine wpOp_step rfl (fun K hK => ?_)
            go_simp
            refine hK _ _ ⟨by simpa using hz, v29, v30, v31, .slice (some ⟨gf, 0, none⟩) (m + 1) (m + 1), .int .i64 ↑a, .pointer (some ⟨gf, a * 82, none⟩), v35, v36, v37, v38, v39, rfl, ?_⟩
            exact ⟨fun e => K0.out (hne.out 0 (by decide) e), fun e => K1.out (hne.out 1 (by decide) e), fun e => K2.out (hne.out 2 (by decide) e), fun e => K3.out (hne.out 3 (by decide) e), fun e => K4.out (hne.out 4 (by decide) e), fun _ => rfl, fun e => K6.out (hne.out 6 (by decide) e), fun e => K7.out (hne.out 7 (by decide) e), fun e => K8.out (hne.out 8 (by decide) e), fun e => K9.out (hne.out 9 (by decide) e), fun e => K10.out (hne.out 10 (by decide) e), hB⟩
          · cases ho
            have d5 := hd ⟨5, .data⟩ (by simp) rfl
            obtain rfl := K5.out d5
            refine wpOp_step rfl (fun K hK => ?_)
            go_simp
            refine hK _ _ ⟨by simpa using hz, v29, v30, v31, v32, v33, .pointer (some ⟨gf, a * 82, none⟩), .pointer (some ⟨gf, a * 82, none⟩), v36, v37, v38, v39, rfl, ?_⟩
            exact ⟨fun e => K0.out (hne.out 0 (by decide) e), fun e => K1.out (hne.out 1 (by decide) e), fun e => K2.out (hne.out 2 (by decide) e), fun e => K3.out (hne.out 3 (by decide) e), fun e => K4.out (hne.out 4 (by decide) e), fun e => K5.out (hne.out 5 (by decide) e), fun _ => rfl, fun e => K7.out (hne.out 7 (by decide) e), fun e => K8.out (hne.out 8 (by decide) e), fun e => K9.out (hne.out 9 (by decide) e), fun e => K10.out (hne.out 10 (by decide) e), hB⟩
          · cases ho
            have d6 := hd ⟨6, .data⟩ (by simp) rfl
            obtain rfl := K6.out d6
            refine wpOp_step rfl (fun K hK => ?_)
            go_simp
            refine hK _ _ ⟨by simpa using hz, v29, v30, v31, v32, v33, v34, .pointer (some ⟨gf, a * 82, none⟩), .slice Ar nf cr, v37, v38, v39, rfl, ?_⟩
            exact ⟨fun e => K0.out (hne.out 0 (by decide) e), fun e => K1.out (hne.out 1 (by decide) e), fun e => K2.out (hne.out 2 (by decide) e), fun e => K3.out (hne.out 3 (by decide) e), fun e => K4.out (hne.out 4 (by decide) e), fun e => K5.out (hne.out 5 (by decide) e), fun e => K6.out (hne.out 6 (by decide) e), fun _ => rfl, fun e => K8.out (hne.out 8 (by decide) e), fun e => K9.out (hne.out 9 (by decide) e), fun e => K10.out (hne.out 10 (by decide) e), hB⟩
          · cases ho
            refine wpOp_step rfl (fun K hK => ?_)
            go_simp
            refine hK _ _ ⟨by simpa using hz, v29, v30, v31, v32, v33, v34, v35, v36, .pointer (some ⟨g, 2, none⟩), v38, v39, rfl, ?_⟩
            exact ⟨fun e => K0.out (hne.out 0 (by decide) e), fun e => K1.out (hne.out 1 (by decide) e), fun e => K2.out (hne.out 2 (by decide) e), fun e => K3.out (hne.out 3 (by decide) e), fun e => K4.out (hne.out 4 (by decide) e), fun e => K5.out (hne.out 5 (by decide) e), fun e => K6.out (hne.out 6 (by decide) e), fun e => K7.out (hne.out 7 (by decide) e), fun _ => rfl, fun e => K9.out (hne.out 9 (by decide) e), fun e => K10.out (hne.out 10 (by decide) e), hB⟩
          · cases ho
            have d8 := hd ⟨8, .data⟩ (by simp) rfl
            obtain rfl := K8.out d8
            refine wpOp_step rfl (fun K hK => ?_)
            go_simp
            refine hK _ _ ⟨by simpa using hz, v29, v30, v31, v32, v33, v34, v35, v36, .pointer (some ⟨g, 2, none⟩), .slice (some ⟨gr, 0, none⟩) 81 81, v39, rfl, ?_⟩
            exact ⟨fun e => K0.out (hne.out 0 (by decide) e), fun e => K1.out (hne.out 1 (by decide) e), fun e => K2.out (hne.out 2 (by decide) e), fun e => K3.out (hne.out 3 (by decide) e), fun e => K4.out (hne.out 4 (by decide) e), fun e => K5.out (hne.out 5 (by decide) e), fun e => K6.out (hne.out 6 (by decide) e), fun e => K7.out (hne.out 7 (by decide) e), fun e => K8.out (hne.out 8 (by decide) e), fun _ => rfl, fun e => K10.out (hne.out 10 (by decide) e), hB⟩
          · cases ho
            have d2 := hd ⟨2, .data⟩ (by simp) rfl
            have d7 := hd ⟨7, .data⟩ (by simp) rfl
            have d9 := hd ⟨9, .data⟩ (by simp) rfl
            obtain rfl := K2.out d2
            obtain rfl := K7.out d7
            obtain rfl := K9.out d9
            refine wpOp_step rfl (fun K hK => ?_)
            go_simp
            go_at_call 132
            refine (cS.out _ hB).mono ?_
            rintro e w3 ⟨rfl, hb3⟩
            refine hK _ _ ⟨by simpa using hz, v29, v30, .slice (some ⟨gs, off, none⟩) m c, v32, v33, v34, v35, .slice Ar nf cr, v37, .slice (some ⟨gr, 0, none⟩) 81 81, .agg #[.int .i64 z0, .int .i64 z1, .int .i64 z2], rfl, ?_⟩
            exact ⟨fun e => K0.out (hne.out 0 (by decide) e), fun e => K1.out (hne.out 1 (by decide) e), fun e => K2.out (hne.out 2 (by decide) e), fun e => K3.out (hne.out 3 (by decide) e), fun e => K4.out (hne.out 4 (by decide) e), fun e => K5.out (hne.out 5 (by decide) e), fun e => K6.out (hne.out 6 (by decide) e), fun e => K7.out (hne.out 7 (by decide) e), fun e => K8.out (hne.out 8 (by decide) e), fun e => K9.out (hne.out 9 (by decide) e), fun _ => rfl, hB.trans (hb3.mono hB.size)⟩
        case hl =>
          rintro listed aq wx ⟨hz, v29, v30, v31, v32, v33, v34, v35, v36, v37, v38, v39, rfl, hII⟩ hall
          have K0 := Lib.hid hII.1
          have K1 := Lib.hid hII.2.1
          have K2 := Lib.hid hII.2.2.1
          have K3 := Lib.hid hII.2.2.2.1
          have K4 := Lib.hid hII.2.2.2.2.1
          have K5 := Lib.hid hII.2.2.2.2.2.1
          have K6 := Lib.hid hII.2.2.2.2.2.2.1
          have K7 := Lib.hid hII.2.2.2.2.2.2.2.1
          have K8 := Lib.hid hII.2.2.2.2.2.2.2.2.1
          have K9 := Lib.hid hII.2.2.2.2.2.2.2.2.2.1
          have K10 := Lib.hid hII.2.2.2.2.2.2.2.2.2.2.1
          have hB : Below W0.heap.size W0 wx := hII.2.2.2.2.2.2.2.2.2.2.2
          have f0 := hcF.out wx hB
          have g0 := (hgc.out.kept hB).cell
          clear hII
          obtain rfl := K0.out (hall 0 (by decide))
          obtain rfl := K1.out (hall 1 (by decide))
          obtain rfl := K2.out (hall 2 (by decide))
          obtain rfl := K3.out (hall 3 (by decide))
          obtain rfl := K4.out (hall 4 (by decide))
          obtain rfl := K5.out (hall 5 (by decide))
          obtain rfl := K6.out (hall 6 (by decide))
          obtain rfl := K7.out (hall 7 (by decide))
          obtain rfl := K8.out (hall 8 (by decide))
          obtain rfl := K9.out (hall 9 (by decide))
          obtain rfl := K10.out (hall 10 (by decide))
          clear hall K0 K1 K2 K3 K4 K5 K6 K7 K8 K9 K10
          unfold wpSeq
          refine wpOp_step rfl (fun K0 hK0 => ?_)
          go_simp
          refine hK0 _ _ ?_
          clear hK0
          have hX := hH7.out.kept hB
          have t0 := (hX.cell (a * 3)).trans (hTh.out.2 a 0 ha2 (by decide))
          have t1 := (hX.cell (a * 3 + 1)).trans (hTh.out.2 a 1 ha2 (by decide))
          have t2 := (hX.cell (a * 3 + 2)).trans (hTh.out.2 a 2 ha2 (by decide))
          have fX := hX.frozen
          unfold wpSeq
          refine wpOp_step rfl (fun K1 hK1 => ?_)
          go_simp
          refine hK1 _ _ ?_
          clear hK1
          unfold wpSeq
          have hkX : KeptBut W0 (((wx.setCell ⟨B, a * 3, none⟩ (.int .i64 z0)).setCell ⟨B, a * 3 + 1, none⟩ (.int .i64 z1)).setCell ⟨B, a * 3 + 2, none⟩ (.int .i64 z2)) (fun i => i = B) := ((((KeptBut.of_below hB (fun i => i = B)).put (p := ⟨B, a * 3, none⟩) (fun _ => rfl) (.int .i64 z0)).put (p := ⟨B, a * 3 + 1, none⟩) (fun _ => rfl) (.int .i64 z1)).put (p := ⟨B, a * 3 + 2, none⟩) (fun _ => rfl) (.int .i64 z2))
          have hK8 := Lib.hid (hK7.out.other hkX hH7.out (Nat.le_refl B))
          have hF8 := Lib.hid (hF7.out.kept hkX (fun k t cs hh e => by
            rw [show k = B from e] at hh
            rw [Has.typ hh hH7.out]
            decide))
          have hH8 := Lib.hid (((hX.put (a * 3) (.int .i64 z0)).put (a * 3 + 1) (.int .i64 z1)).put (a * 3 + 2) (.int .i64 z2))
          have hT8 := Lib.hid (hTh.out.step ha2 hx0.out hx1.out hx2.out)
          have hB8 := Lib.hid ((((hB7.out.trans (hB.mono hB7.out.size)).setCell (p := ⟨B, a * 3, none⟩) (by rw [hBe.out]; exact Nat.le_refl B) (.int .i64 z0)).setCell (p := ⟨B, a * 3 + 1, none⟩) (by rw [hBe.out]; exact Nat.le_refl B) (.int .i64 z1)).setCell (p := ⟨B, a * 3 + 2, none⟩) (by rw [hBe.out]; exact Nat.le_refl B) (.int .i64 z2))
          clear f0 g0 hX t0 t1 t2 fX hB hkX
          generalize (((wx.setCell ⟨B, a * 3, none⟩ (.int .i64 z0)).setCell ⟨B, a * 3 + 1, none⟩ (.int .i64 z1)).setCell ⟨B, a * 3 + 2, none⟩ (.int .i64 z2)) = W8 at hK8 hF8 hH8 hB8 ⊢
          go_wp2_with fail
          refine (cT.out _ _ hK8.out).mono ?_
          rintro e w9 ⟨rfl, kb9, hK9, hk9⟩
          have hK9h := Lib.hid hK9
          have hF9 := Lib.hid (hF8.out.kept hk9 (fun k t cs hh e => by
            obtain ⟨csr, hcr, _⟩ := hK8.out.2.2.2.1
            obtain ⟨ksr, hkr, _⟩ := hK8.out.2.2.2.2.1
            rcases e with rfl | rfl
            · rw [Has.typ hh hcr]; decide
            · rw [Has.typ hh hkr]; decide))
          have hH9 := Lib.hid (hH8.out.but hk9 (fun e => by
            obtain ⟨csr, hcr, _⟩ := hK8.out.2.2.2.1
            obtain ⟨ksr, hkr, _⟩ := hK8.out.2.2.2.2.1
            rcases e with e | e
            · exact has_ne hH8.out hcr (by decide) e
            · exact has_ne hH8.out hkr (by decide) e))
          have hB9 := Lib.hid (hB8.out.trans (hk9.below (fun i hi e => by
            have := hK8.out.2.2.2.2.2.2.1
            have := hgyB.out
            have := hBe.out
            omega) hB8.out.size))
          clear hK9 hk9 hK8 hF8 hH8 hB8
          go_wp2_with fail
          go_roundg a
          case measure => omega
          case rel => exact ⟨a, kb9, _, by omega, rfl, by go_num, hK9h.out, hF9.out, hH9.out, hT8.out, hB9.out⟩
      · have hwf : s'.hasW = false := by cases h9 : s'.hasW; rfl; exact absurd h9 hw
        rw [hwf] at cH
        go_wp2_with fail
        refine (cH.out _).mono ?_
        rintro e W8 ⟨rfl, hb7⟩
        have hK8 := Lib.hid (hKh.out.below hb7)
        have hF8 := Lib.hid (hFh.out.kept (KeptBut.of_below hb7 (fun _ => False)) (fun _ _ _ _ e => e.elim))
        have hH8 := Lib.hid (hHh.out.kept hb7)
        have hB8 := Lib.hid (hBh.out.trans (hb7.mono hBh.out.size))
        have hT8 := Lib.hid (hTh.out.skip (fun c _ => by unfold tsl; rw [hSs.out]; dsimp only; rw [if_neg hw]))
        clear hb7 c0 c1 c2 c3 c4 c5 c6 hKh hFh hHh hBh cH hTh
        go_wp2_with fail
        refine (cT.out _ _ hK8.out).mono ?_
        rintro e w9 ⟨rfl, kb9, hK9, hk9⟩
        have hK9h := Lib.hid hK9
        have hF9 := Lib.hid (hF8.out.kept hk9 (fun k t cs hh e => by
          obtain ⟨csr, hcr, _⟩ := hK8.out.2.2.2.1
          obtain ⟨ksr, hkr, _⟩ := hK8.out.2.2.2.2.1
          rcases e with rfl | rfl
          · rw [Has.typ hh hcr]; decide
          · rw [Has.typ hh hkr]; decide))
        have hH9 := Lib.hid (hH8.out.but hk9 (fun e => by
          obtain ⟨csr, hcr, _⟩ := hK8.out.2.2.2.1
          obtain ⟨ksr, hkr, _⟩ := hK8.out.2.2.2.2.1
          rcases e with e | e
          · exact has_ne hH8.out hcr (by decide) e
          · exact has_ne hH8.out hkr (by decide) e))
        have hB9 := Lib.hid (hB8.out.trans (hk9.below (fun i hi e => by
          have := hK8.out.2.2.2.2.2.2.1
          have := hgyB.out
          have := hBe.out
          omega) hB8.out.size))
        clear hK9 hk9 hK8 hF8 hH8 hB8
        go_wp2_with fail
        go_roundg a
        case measure => omega
        case rel => exact ⟨a, kb9, _, by omega, rfl, by go_num, hK9h.out, hF9.out, hH9.out, hT8.out, hB9.out⟩
end Go.Proofs.Ytbndonfpdioibaa
