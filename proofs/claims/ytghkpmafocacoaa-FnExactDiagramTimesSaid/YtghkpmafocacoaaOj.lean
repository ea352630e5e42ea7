/- Diagrams: the program's DiagramTimes. -/
import Derived.Test.YtghkpmafocacoaaOi
namespace Go.Proofs.Ytghkpmafocacoaa
set_option maxRecDepth 100000
set_option linter.unusedVariables false
open Go.RowKit

/-- What DiagramTimes tells. -/
def dprod (d e : List Ce) (s : Nat) : Int := dnum d s * dnum e s
def timesOk (d e : List Ce) : Bool := (diaOk d && diaOk e) && diaOk (mkd (dprod d e))
def timesD (d e : List Ce) : List Ce := if timesOk d e = true then mkd (dprod d e) else []
theorem times_pm {d e : List Ce} (hd : diaOk d = true) (he : diaOk e = true) : (pm d e [] (d.length - 1) (e.length - 1)).1 = mkd (dprod d e) := by
  obtain ⟨d1, d2, d3⟩ := dia_parts hd
  obtain ⟨e1, e2, e3⟩ := dia_parts he
  rw [pm_top (up_of d3) (up_of e3) (by omega) (by omega)]
  rfl
theorem info_pairing : (Try.prog.info? 88).map (fun i => (i.zero, i.size)) = some (some (.agg (wvC [.slice none 0 0, .slice none 0 0, .slice none 0 0] (.slice none 0 0) (List.replicate 251 0))), 255) := by kernel_rfl
theorem hs_setCells {g : Nat} {t : TypeId} : ∀ (vs : List Value) (o : Nat) (w : World) (cs : Array Value), Has w g t cs → o + vs.length ≤ cs.size →
    ∃ cs', Has (w.setCells g o vs) g t cs' ∧ cs'.size = cs.size ∧ (∀ j v, vs[j]? = some v → cs'[o + j]? = some v) ∧ ∀ i, (i < o ∨ o + vs.length ≤ i) → cs'[i]? = cs[i]?
  | [], o, w, cs, h, hl => ⟨cs, h, rfl, fun j v hv => by simp at hv, fun i _ => rfl⟩
  | u :: vs, o, w, cs, h, hl => by
    rw [List.length_cons] at hl
    obtain ⟨cs', h1, h2, h3, h4⟩ := hs_setCells vs (o + 1) (w.setCell ⟨g, o, none⟩ u) (cs.setIfInBounds o u) (h.put o u) (by simp; omega)
    refine ⟨cs', h1, by rw [h2]; simp, fun j v hv => ?_, fun i hi => ?_⟩
    · cases j with
      | zero =>
        have e : u = v := by simpa using hv
        subst e
        rw [Nat.add_zero, h4 o (by omega), Array.getElem?_setIfInBounds, if_pos rfl, if_pos (by omega)]
      | succ j =>
        have := h3 j v (by simpa using hv)
        rwa [show o + (j + 1) = o + 1 + j by omega]
    · rw [List.length_cons] at hi
      rw [h4 i (by omega), Array.getElem?_setIfInBounds, if_neg (by omega)]
theorem hs_fill {w : World} {g : Nat} {t : TypeId} {c0 cs : Array Value} (h : Has w g t c0) (hs : cs.size = c0.size) : Has (w.setCells g 0 cs.toList) g t cs := by
  obtain ⟨cs', h1, h2, h3, _⟩ := hs_setCells cs.toList 0 w c0 h (by rw [Array.length_toList, hs]; omega)
  have : cs' = cs := by
    apply Array.ext_getElem?
    intro q
    by_cases hq : q < cs.size
    · have := h3 q cs[q] (by rw [Array.getElem?_toList]; exact Array.getElem?_eq_getElem hq)
      rw [Nat.zero_add] at this
      rw [this]
      exact (Array.getElem?_eq_getElem hq).symm
    · rw [Array.getElem?_eq_none (by rw [h2]; omega), Array.getElem?_eq_none (by omega)]
  subst this
  exact h1
theorem hs_below {B b : Nat} {w0 : World} (hb : B ≤ b) : ∀ (vs : List Value) (o : Nat) (w : World), Below B w0 w → Below B w0 (w.setCells b o vs)
  | [], o, w, h => h
  | u :: vs, o, w, h => hs_below hb vs (o + 1) _ (h.setCell (p := ⟨b, o, none⟩) hb u)
theorem hs_far {g b : Nat} {t : TypeId} {cs : Array Value} (hne : g ≠ b) : ∀ (vs : List Value) (o : Nat) (w : World), Has w g t cs → Has (w.setCells b o vs) g t cs
  | [], _, _, h => h
  | u :: r, o, w, h => hs_far hne r (o + 1) _ (h.far (p := ⟨b, o, none⟩) hne u)
theorem hs_there {w : World} {g : Nat} {t : TypeId} {cs : Array Value} (h : Has w g t cs) {n : Nat} (hn : n ≤ cs.size) : w.there g 0 n := fun j hj => by
  refine ⟨?_, h.frozen _⟩
  rw [h.cell, Array.getElem?_eq_getElem (by omega)]; rfl
theorem zc_pairing : Try.zeroCells88 = wvC [.slice none 0 0, .slice none 0 0, .slice none 0 0] (.slice none 0 0) (List.replicate 251 0) := by kernel_rfl
theorem zc_set (z a b c : Value) (sl : List Int) (v : Value) : (((wvC [z, z, z] v sl).setIfInBounds 0 a).setIfInBounds 1 b).setIfInBounds 2 c = wvC [a, b, c] v sl := by
  unfold wvC
  simp
theorem wv_one {a b c : Value} (ha : a.oneCell' = true) (hb : b.oneCell' = true) (hc : c.oneCell' = true) {v : Value} (hv : v.oneCell' = true) (sl : List Int) : (wvC [a, b, c] v sl).all (·.oneCell') = true := by
  unfold wvC
  refine all_oneCell_toArray fun u hu => ?_
  simp only [List.cons_append, List.nil_append, List.mem_cons] at hu
  rcases hu with rfl | rfl | rfl | rfl | hu
  · exact ha
  · exact hb
  · exact hc
  · exact hv
  · exact ints_one _ u hu
theorem wv_size (a b c v : Value) (sl : List Int) : (wvC [a, b, c] v sl).size = sl.length + 4 := by
  unfold wvC
  simp [ints_length]
theorem pair_top (n m c1 c2 : Nat) (A1 A2 : Option Addr) (d e : List Ce) (d1 : 1 ≤ n) (e1 : 1 ≤ m) (d2 : n ≤ 121) (e2 : m ≤ 121) (d3 : allOk d d.length = true) (e3 : allOk e e.length = true) (hL1 : d.length = n) (hL2 : e.length = m) (B G Kb Bl : Nat) (hL : PL B G Kb Bl) :
    PairOk Try.prog 82 B G Kb Bl A1 A2 n m c1 c2 d e (n - 1) (m - 1) := by
  have h1 : n - 1 < n := by omega
  have h2 : m - 1 < m := by omega
  exact cellOfPair_any B G Kb Bl n m c1 c2 A1 A2 d e hL d2 e2 d3 e3 hL1 hL2 _ _ _ rfl h1 h2
set_option maxHeartbeats 2000000 in
theorem DiagramTimes_any (A1 A2 : Option Addr) (n m c1 c2 : Nat) (d e : List Ce) (w : World) (h1 : CLst w w.heap.size A1 n d) (h2 : CLst w w.heap.size A2 m e) (hn : n ≤ maxLen) (hc : c1 ≤ maxLen) (hnc : n ≤ c1) (hm : m ≤ maxLen) (hc2 : c2 ≤ maxLen) (hmc : m ≤ c2) :
    Calls Try.prog 37 #[.slice A1 n c1, .slice A2 m c2] w (Cbd w (timesD d e) (timesOk d e)) := by
  have cD := Lib.hid (DiagramOk_any A1 n c1 d w h1 hn hc hnc)
  have cE := Lib.hid (fun (wx : World) (hx : CLst wx wx.heap.size A2 m e) => DiagramOk_any A2 m c2 e wx hx hm hc2 hmc)
  have hH1 := Lib.hid h1
  have hH2 := Lib.hid h2
  have hL1 := h1.1
  have hL2 := h2.1
  clear h1 h2
  cases hd : diaOk d
  · have hR := Lib.hid (show timesOk d e = false by unfold timesOk; rw [hd]; rfl)
    have hR2 := Lib.hid (show timesD d e = [] by unfold timesD; rw [hR.out]; rfl)
    rw [hd] at cD
    rw [hR.out, hR2.out]
    clear hd hL1 hL2 hn hc hnc hm hc2 hmc cE
    go_enter Try.func37, Try.ntmps37
    go_wp2_with fail
    refine cD.out.mono ?_
    rintro ee w1 ⟨rfl, hb⟩
    have hB := Lib.hid hb
    clear hb
    go_wp2_with fail
    go_ret2
    exact ⟨_, rfl, COwn.nil _ _, hB.out⟩
  cases he : diaOk e
  · have hR := Lib.hid (show timesOk d e = false by unfold timesOk; rw [he, Bool.and_false]; rfl)
    have hR2 := Lib.hid (show timesD d e = [] by unfold timesD; rw [hR.out]; rfl)
    rw [hd] at cD
    rw [he] at cE
    rw [hR.out, hR2.out]
    clear hd he hL1 hL2 hn hc hnc hm hc2 hmc
    go_enter Try.func37, Try.ntmps37
    go_wp2_with fail
    refine cD.out.mono ?_
    rintro ee w1 ⟨rfl, hb⟩
    have hB := Lib.hid hb
    clear hb
    go_wp2_with fail
    refine (cE.out _ ((hH2.out.below hB.out).more hB.out.size)).mono ?_
    rintro ee w2 ⟨rfl, hb2⟩
    have hB2 := Lib.hid (hB.out.trans (hb2.mono hB.out.size))
    clear hb2
    go_wp2_with fail
    go_ret2
    exact ⟨_, rfl, COwn.nil _ _, hB2.out⟩
  obtain ⟨d1, d2, d3⟩ := dia_parts hd
  obtain ⟨e1, e2, e3⟩ := dia_parts he
  rw [hL1] at d1 d2
  rw [hL2] at e1 e2
  have hR := Lib.hid (show timesOk d e = diaOk (mkd (dprod d e)) by unfold timesOk; rw [hd, he, Bool.and_self, Bool.true_and])
  have hpm := Lib.hid (times_pm hd he)
  rw [hd] at cD
  rw [he] at cE
  have hlen := Lib.hid (And.intro hL1 hL2)
  have hcell := Lib.hid (pair_top n m c1 c2 A1 A2 d e d1 e1 d2 e2 d3 e3 hL1 hL2)
  obtain ⟨nm, hnm⟩ : ∃ nm, nm = n * m := ⟨_, rfl⟩
  have hnm2 : nm ≤ 14641 := by rw [hnm]; exact Nat.mul_le_mul d2 e2
  have hw1 : IntKind.i64.wrap ((n : Int) * (m : Int)) = (nm : Int) := by
    have : (n : Int) * (m : Int) = (nm : Int) := by rw [hnm]; exact (Int.natCast_mul n m).symm
    rw [this, IntKind.wrap_i64]
    omega
  have hnmh := Lib.hid hnm
  clear hd he hL1 hL2 d3 e3 hn hc hnc hm hc2 hmc hnm
  obtain ⟨i0, hi0, hz0, hz1', hz2'⟩ := info_parts info_int
  have hmk : ∀ wx : World, (Instr.makeSlice 31 (.int .i64 (nm : Int)) (.int .i64 (nm : Int))).run Try.prog wx = .ok (.slice (some ⟨wx.heap.size, 0, none⟩) nm nm) (wx.alloc (.cells (madeCells (Value.int .i64 0).cells (nm * 1)) 3)) := by
    intro wx
    have hr := run_make (P := Try.prog) wx 31 3 i0 _ Try.underlying31 hi0 hz0 .i64 .i64 (nm : Int) (nm : Int) (by omega) (by omega) (by rw [hz2']; omega) (by omega)
    rw [hz1'] at hr
    simp only [Int.toNat_natCast] at hr
    exact hr
  go_enter Try.func37, Try.ntmps37
  go_wp2_with fail
  refine cD.out.mono ?_
  rintro ee w1 ⟨rfl, hb⟩
  have hB := Lib.hid hb
  clear hb
  go_wp2_with fail
  refine (cE.out _ ((hH2.out.below hB.out).more hB.out.size)).mono ?_
  rintro ee w2 ⟨rfl, hb2⟩
  have hB2 := Lib.hid (hB.out.trans (hb2.mono hB.out.size))
  clear hb2
  have hzP := Lib.hid zc_pairing
  have hS0 : Has ((w2.alloc (.cells (madeCells #[.int .i64 0] nm) 3)).alloc (.cells Try.zeroCells88 88)) (w2.heap.size + 1) 88 Try.zeroCells88 := by
    have h9 := Has.new (w2.alloc (.cells (madeCells #[.int .i64 0] nm) 3)) 88 Try.zeroCells88
    rw [show (w2.alloc (.cells (madeCells #[.int .i64 0] nm) 3)).heap.size = w2.heap.size + 1 by simp] at h9
    exact h9
  have hK0 : Has ((w2.alloc (.cells (madeCells #[.int .i64 0] nm) 3)).alloc (.cells Try.zeroCells88 88)) w2.heap.size 3 (madeCells #[.int .i64 0] nm) := (Has.new w2 _ _).alloc _
  have hB3 : Below w.heap.size w ((w2.alloc (.cells (madeCells #[.int .i64 0] nm) 3)).alloc (.cells Try.zeroCells88 88)) := (hB2.out.alloc hB2.out.size _).alloc (by have := hB2.out.size; simp; omega) _
  have hzs : Try.zeroCells88.size = 255 := by rw [hzP.out, wv_size, List.length_replicate]
  obtain ⟨Z, hZ⟩ : ∃ Z, Z = (((Try.zeroCells88.setIfInBounds 0 (.slice A1 n c1)).setIfInBounds 1 (.slice A2 m c2)).setIfInBounds 2 (.slice (some ⟨w2.heap.size, 0, none⟩) nm nm)) := ⟨_, rfl⟩
  have hZw : Z = wvC [.slice A1 n c1, .slice A2 m c2, .slice (some ⟨w2.heap.size, 0, none⟩) nm nm] (.slice none 0 0) (List.replicate 251 0) := by rw [hZ, hzP.out]; exact zc_set _ _ _ _ _ _
  have hZs : Z.size = 255 := by rw [hZw, wv_size, List.length_replicate]
  have hone := Lib.hid (show Z.all (·.oneCell') = true by rw [hZw]; exact wv_one rfl rfl rfl rfl _)
  have hT := Lib.hid (hs_there hS0 (n := Z.size) (by rw [hZs, hzs]; omega))
  have hI := Lib.hid (show (Try.prog.info? 88).map (·.size) = some Z.size from by rw [hZs]; exact (zero_of_info (P := Try.prog) info_pairing).2)
  have hS1 := Lib.hid (hs_fill (cs := Z) hS0 (by rw [hZs, hzs]))
  have hK1 := Lib.hid (hs_far (b := w2.heap.size + 1) (show w2.heap.size ≠ w2.heap.size + 1 by omega) Z.toList 0 _ hK0)
  have hB4 := Lib.hid (hs_below (b := w2.heap.size + 1) (by have := hB2.out.size; omega) Z.toList 0 _ hB3)
  have hZwh := Lib.hid hZw
  have hZh := Lib.hid (congrArg Value.agg hZ.symm)
  clear hS0 hK0 hzs hZw hZs hB3 hzP hZ
  go_wp2_with (refine wpList_store_mid rfl 88 (.tmp 6) (.tmp 23) rfl (w2.heap.size + 1) 0 Z rfl hZh.out hT.out hI.out hone.out ?_)
  obtain ⟨G, hG⟩ : ∃ G, G = w2.heap.size + 1 := ⟨_, rfl⟩
  obtain ⟨Kb, hKb⟩ : ∃ Kb, Kb = w2.heap.size := ⟨_, rfl⟩
  rw [← hG] at hS1 hK1 hB4 ⊢
  rw [← hKb] at hK1 hZwh
  have hw2z := hB2.out.size
  rw [← hKb] at hw2z
  have hGK : G = Kb + 1 := by rw [hG, hKb]
  generalize (((w2.alloc (.cells (madeCells #[.int .i64 0] nm) 3)).alloc (.cells Try.zeroCells88 88)).setCells G 0 Z.toList) = W4 at hS1 hK1 hB4 ⊢
  have hGW := hS1.out.lt
  have hPL : PL W4.heap.size G Kb w.heap.size := ⟨by omega, by omega, by omega, by omega, by omega, by omega⟩
  have hS2 : Has W4 G 88 (wvC (preP A1 A2 n m c1 c2 Kb) (.slice none 0 0) (List.replicate 251 0)) := by
    have := hS1.out
    rw [hZwh.out, hnmh.out] at this
    exact this
  have hK2 : Has W4 Kb 3 (ints (List.replicate (d.length * e.length) 0)).toArray := by
    have h8 := hK1.out
    have h9 : (madeCells #[Value.int .i64 0] nm) = (ints (List.replicate (d.length * e.length) 0)).toArray := by
      apply Array.ext'
      rw [toList_madeCells_one, List.toList_toArray, hlen.out.1, hlen.out.2, ← hnmh.out]
      unfold ints
      rw [List.map_replicate]
    rw [h9] at h8
    exact h8
  have hPW : PW W4 W4.heap.size G Kb w.heap.size A1 A2 n m c1 c2 d e (.slice none 0 0) (List.replicate 251 0) [] (List.replicate (d.length * e.length) 0) :=
    ⟨⟨hS2, COwn.nil _ _, Tab.nil _, Nat.le_refl _⟩, hK2, KpOk.nil d e, hH1.out.below hB4.out, hH2.out.below hB4.out⟩
  have cC := hcell.out W4.heap.size G Kb w.heap.size hPL W4 (.slice none 0 0) (List.replicate 251 0) [] (List.replicate (d.length * e.length) 0) hPW (by
    have h9 : nc (4 - plv d e (n - 1) (m - 1)) ≤ nc 4 := nc_mono (by omega)
    have h8 : nc 4 = 121 := rfl
    rw [List.length_nil]
    omega)
  rw [show ((n - 1 : Nat) : Int) = (n : Int) - 1 by omega, show ((m - 1 : Nat) : Int) = (m : Int) - 1 by omega] at cC
  have hpm2 : (pm d e [] (n - 1) (m - 1)).1 = mkd (dprod d e) := by
    have := hpm.out
    rw [hlen.out.1, hlen.out.2] at this
    exact this
  have hml := (mkd_wf (dprod d e)).2.2.1
  refine cC.mono ?_
  rintro ee w5 ⟨v5, sl5, kv5, rfl, hP5, hF5⟩
  rw [hpm2] at hP5
  have hRt := Lib.hid (fun (q : timesOk d e = true) => (show timesD d e = mkd (dprod d e) from if_pos q))
  have hRf := Lib.hid (fun (q : timesOk d e = false) => (show timesD d e = [] by unfold timesD; rw [q]; rfl))
  generalize mkd (dprod d e) = D at *
  have hB5 : Below w.heap.size w w5 := hB4.out.trans (hF5.but.below (B := w.heap.size) (fun i hi q => by
    rcases q with q | q | q
    · omega
    · omega
    · cases q) hPL.bb)
  have hown := hP5.wv.own
  obtain ⟨A5, c5, hv5, hc51, hc52⟩ := hown.form
  have hHas := Lib.hid hP5.wv.has
  have hle5 := hP5.wv.le
  subst hv5
  have e3 := (hHas.out.cell 3).trans (wvC_head (pre := preP A1 A2 n m c1 c2 Kb) rfl (.slice A5 D.length c5) sl5)
  have hGh := Lib.hid hG
  have cK := Lib.hid (DiagramOk_any A5 D.length c5 D w5 (COwn.lst hown) (by unfold maxLen; omega) hc52 hc51)
  have hB5h := Lib.hid hB5
  have hOwn := Lib.hid hown
  have hbbW := hPL.bb
  clear hP5 hF5 hB5 hown hPW hS2 hK2 cC hpm2 hPL hG hKb hGK
  cases hto : timesOk d e
  · rw [← hR.out, hto] at cK
    have hRD := Lib.hid (hRf.out hto)
    have htoh := Lib.hid hto
    clear hto
    go_wp2_with fail
    refine cK.out.mono ?_
    rintro ee w6 ⟨rfl, hb6⟩
    have hB6 := Lib.hid (hB5h.out.trans (hb6.mono hB5h.out.size))
    clear hb6
    go_wp2_with fail
    go_ret2
    rw [htoh.out, hRD.out]
    exact ⟨_, rfl, COwn.nil _ _, hB6.out⟩
  · rw [← hR.out, hto] at cK
    have hRD := Lib.hid (hRt.out hto)
    have htoh := Lib.hid hto
    clear hto
    go_wp2_with fail
    refine cK.out.mono ?_
    rintro ee w6 ⟨rfl, hb6⟩
    have hB6 := Lib.hid (hB5h.out.trans (hb6.mono hB5h.out.size))
    have hO6 := Lib.hid (show COwn w6 w.heap.size (.slice A5 D.length c5) D from owns_le (hOwn.out.below hb6) hbbW)
    have e36 := ((hHas.out.kept hb6).cell 3).trans (wvC_head (pre := preP A1 A2 n m c1 c2 Kb) rfl (.slice A5 D.length c5) sl5)
    clear hb6 e3
    go_wp2_with fail
    go_ret2
    rw [htoh.out, hRD.out]
    exact ⟨_, rfl, hO6.out, hB6.out⟩
end Go.Proofs.Ytghkpmafocacoaa
