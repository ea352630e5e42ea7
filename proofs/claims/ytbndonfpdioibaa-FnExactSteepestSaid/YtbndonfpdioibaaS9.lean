/- Which weights are used, and what is passed over: the program's UsesOf and PassedOver. -/
import Derived.Test.YtbndonfpdioibaaS8
import Derived.Test.YtbndonfpdioibaaAb
namespace Go.Proofs.Ytbndonfpdioibaa
set_option maxRecDepth 100000
set_option linter.unusedVariables false
open Go.RowKit

theorem us_yes {ps os : List St} {k : Nat} {t : St} (hu : unrolled ps = some os) (ht : os[k]? = some t) (hwa : wAt os (k : Int) = true) : usOk ps (k : Int) = true ∧ usOf ps (k : Int) = usesL os k t := by
  unfold usOk usOf
  rw [hu]
  dsimp only
  rw [Int.toNat_natCast, ht]
  dsimp only
  rw [if_pos hwa]
  exact ⟨hwa, rfl⟩
theorem us_no {ps : List St} {a : Int} (h : wOf ps a = false) : usOk ps a = false ∧ usOf ps a = [] ∧ ovOf ps a = -1 := by
  unfold wOf at h
  unfold usOk usOf ovOf
  cases hu : unrolled ps with
  | none => exact ⟨rfl, rfl, rfl⟩
  | some os =>
    rw [hu] at h
    dsimp only at h ⊢
    rw [h, if_neg (by decide)]
    refine ⟨rfl, ?_, rfl⟩
    cases os[a.toNat]? with
    | none => rfl
    | some t =>
      dsimp only
      rw [if_neg (by decide)]
/-- What is used of each weight. -/
def usN (os : List St) (k : Nat) (t : St) (q : Nat) : Int := tsl os k q * t.wgt q
theorem tsl_eq {os : List St} {k : Nat} {t : St} (ht : os[k]? = some t) (hw : t.hasW = true) (hok : ∀ s ∈ os, s.ok = true) (q : Nat) : tsl os k q = isum (slopesL os k (q : Int)) := by
  unfold tsl
  rw [ht]
  dsimp only
  rw [if_pos hw, slopes_sum hok]
  rfl
theorem usN_list {os : List St} {k : Nat} {t : St} (ht : os[k]? = some t) (hw : t.hasW = true) (hok : ∀ s ∈ os, s.ok = true) : usesL os k t = [usN os k t 0, usN os k t 1, usN os k t 2] := by
  unfold usN
  rw [tsl_eq ht hw hok, tsl_eq ht hw hok, tsl_eq ht hw hok]
  rfl
theorem dov_top {os : List St} {m : Nat} (hm : m ≤ 12) (hM : os.length = m) (hok : ∀ s ∈ os, s.ok = true) (k : Nat) : 0 ≤ dov (fun _ => 1) os 0 k 0 ∧ dov (fun _ => 1) os 0 k 0 ≤ valAt (fun _ => 1) os 0 0 ∧ valAt (fun _ => 1) os 0 0 ≤ 150094635296999121 := by
  have h1 := dov_bd (h := fun _ => 1) (fun _ _ => by decide) hok 0 k (st := 0) (by decide)
  have h2 := valAt_bd (h := fun _ => 1) (H := 1) (os := os) (i := 0) (st := 0) (fun _ _ _ => by omega) (by decide) hok (by decide)
  rw [hM, Nat.sub_zero] at h2
  have h4 := V2_top hm 0
  unfold V2 at h4
  rw [Nat.sub_zero] at h4
  have e : valAt (fun _ => 1) os 0 0 = val (fun _ => 1) os 0 0 := rfl
  rw [← e] at h1
  exact ⟨h1.1, h1.2, by omega⟩
theorem usN_bd {os : List St} {m : Nat} (hm : m ≤ 12) (hM : os.length = m) (hok : ∀ s ∈ os, s.ok = true) {k : Nat} {t : St} (ht : os[k]? = some t) (hw : t.hasW = true) {q : Nat} (hq : q < 3) : 0 ≤ usN os k t q ∧ usN os k t q ≤ 150094635296999121 := by
  have h1 := uses_dov hok ht hw
  rw [usN_list ht hw hok] at h1
  simp only [isum] at h1
  have h2 := dov_top hm hM hok k
  have hto := hok t (List.mem_of_getElem? ht)
  have hn := hasW_nn hto hw
  have nn : ∀ q, q < 3 → 0 ≤ usN os k t q := fun q hq => by
    unfold usN
    rw [tsl_eq ht hw hok]
    refine Int.mul_nonneg (isum_nnS (slopes_nonneg hok k _)) ?_
    unfold St.wgt
    split
    · exact hn.1
    · split
      · exact hn.2.1
      · exact hn.2.2
  have n0 := nn 0 (by decide)
  have n1 := nn 1 (by decide)
  have n2 := nn 2 (by decide)
  obtain rfl | rfl | rfl : q = 0 ∨ q = 1 ∨ q = 2 := by omega
  all_goals omega
set_option maxHeartbeats 2000000 in
theorem UsesOf_any (A : Option Addr) (n c : Nat) (ps : List St) (a : Int) (w : World) (h : Lst w w.heap.size A n ps) (hn : n ≤ c) (hc : c ≤ maxLen) :
    Calls Try.prog 27 #[.slice A n c, .int .i64 a] w (Lbd w (usOf ps a) (usOk ps a)) := by
  have hC := Lib.hid (weightsAt_any A n c ps a w h hn hc)
  clear h hc
  cases hg : wOf ps a
  · obtain ⟨e1, e2, _⟩ := us_no hg
    have hE := Lib.hid (And.intro e1 e2)
    have hWo := Lib.hid hg
    clear e1 e2 hg
    go_enter Try.func27, Try.ntmps27
    go_wp2_with fail
    refine (hC.out).mono ?_
    rintro e w1 ⟨u, rfl, hown, hb⟩
    rw [hWo.out]
    obtain ⟨A3, c3, hv, _, _⟩ := hown.form
    subst hv
    have hF := Lib.hid hb
    clear hown hb
    go_wp2_with fail
    go_ret2
    exact ⟨.slice none 0 0, by rw [hE.out.1]; rfl, by rw [hE.out.2]; exact IOwn.nil _ _, hF.out⟩
  · obtain ⟨os, k, t, hu, rfl, ht, hw, hto, hwa⟩ := w_parts hg
    obtain ⟨_, hlen, _, hNL, hOK⟩ := unrolled_parts hu
    have hok : ∀ s ∈ os, s.ok = true := fun s hs => List.all_eq_true.1 hOK s hs
    have hOkN := Lib.hid (show ∀ s ∈ os, s.ok = true ∧ s.notLoop = true from fun s hs => ⟨hok s hs, hNL s hs⟩)
    obtain ⟨e1, e2⟩ := us_yes hu ht hwa
    rw [usN_list ht hw hok] at e2
    have hE1 := Lib.hid e1
    have hE2 := Lib.hid e2
    have hkl := (List.getElem?_eq_some_iff.1 ht).1
    have hbd := Lib.hid (fun q hq => usN_bd hlen rfl hok ht hw (q := q) hq)
    have hW1 := Lib.hid hg
    have hU := Lib.hid hu
    have hT := Lib.hid ht
    have hcell := Lib.hid (show ∀ z : Nat, z < 3 → t.cells[4 + z]? = some (.int .i64 (t.wgt z)) from fun z hz => by
      obtain rfl | rfl | rfl : z = 0 ∨ z = 1 ∨ z = 2 := by omega
      all_goals (unfold St.wgt; rfl))
    have hk0 : (0 : Int) ≤ (k : Int) := by omega
    have hk1 : (k : Int) < (os.length : Int) := by omega
    clear hg hu hw hto hwa ht e1 e2 hOK hNL hok
    obtain ⟨i0, hi0, hz0, hz1', hz2'⟩ := info_parts info_int
    have hmk : ∀ wx : World, (Instr.makeSlice 24 (.int .i64 3) (.int .i64 3)).run Try.prog wx = .ok (.slice (some ⟨wx.heap.size, 0, none⟩) 3 3) (wx.alloc (.cells #[.int .i64 0, .int .i64 0, .int .i64 0] 3)) := by
      intro wx
      have hr := run_make (P := Try.prog) wx 24 3 i0 _ Try.underlying24 hi0 hz0 .i64 .i64 3 3 (by omega) (by omega) (by rw [hz2']; omega) (by omega)
      rw [hz1'] at hr
      have e9 : madeCells (Value.int .i64 0).cells (Int.toNat 3 * 1) = #[.int .i64 0, .int .i64 0, .int .i64 0] := by kernel_rfl
      rw [e9] at hr
      exact hr
    go_enter Try.func27, Try.ntmps27
    go_wp2_with fail
    refine (hC.out).mono ?_
    rintro e w1 ⟨u, rfl, hown, hb⟩
    rw [hW1.out]
    have hown' : w1.ownsRow w.heap.size 78 7 u os.length (flat os) := by
      have h9 := hown
      rw [hU.out] at h9
      exact h9
    obtain ⟨A3, c3, hv, _, _⟩ := owns_form hown'
    subst hv
    obtain ⟨G, cur, rfl, hGb, hGH, h12, h13, h14, hGc⟩ := owns_open hown' (by omega)
    have hO1 := Lib.hid (World.ownsRow.alloc hown' (.cells #[.int .i64 0, .int .i64 0, .int .i64 0] 3))
    have hG1 := Lib.hid (hGH.alloc (.cells #[.int .i64 0, .int .i64 0, .int .i64 0] 3))
    have hGcs := Lib.hid (show ∀ z : Nat, z < 3 → cur[k * 7 + (4 + z)]? = some (.int .i64 (t.wgt z)) from fun z hz => by
      rw [← hGH.cell]
      exact (hGc _ (by omega)).trans (flat_at hT.out (hcell.out z hz)))
    have hX1 := Lib.hid (Has.new w1 3 #[.int .i64 0, .int .i64 0, .int .i64 0])
    have hB1 := Lib.hid (hb.alloc hb.size (.cells #[.int .i64 0, .int .i64 0, .int .i64 0] 3))
    have hz1 := Lib.hid hb.size
    have hGl := Lib.hid hGH.lt
    clear hown hown' hb hGb hGH h14 hGc
    go_wp2_with fail
    clear hmk hi0 hz0 hz1' hz2'
    have hW2 : w1.heap.size < (w1.alloc (.cells #[.int .i64 0, .int .i64 0, .int .i64 0] 3)).heap.size := by simp
    generalize w1.alloc (.cells #[.int .i64 0, .int .i64 0, .int .i64 0] 3) = W2 at hO1 hG1 hX1 hB1 hW2 ⊢
    refine (totalSlopes_any (some ⟨G, 0, none⟩) os.length c3 os w.heap.size _ hO1.out (by have := hB1.out.size; omega) hlen rfl hOkN.out).mono ?_
    rintro e w3 ⟨cs3, rfl, hS3, hT3, hb3⟩
    have hG3 := Lib.hid (hG1.out.kept hb3)
    have hX3 := Lib.hid (hX1.out.kept hb3)
    have hB3 := Lib.hid (hB1.out.trans (hb3.mono hB1.out.size))
    have t0 := (hS3.cell (k * 3)).trans (hT3.2 k 0 hkl (by decide))
    have t1 := (hS3.cell (k * 3 + 1)).trans (hT3.2 k 1 hkl (by decide))
    have t2 := (hS3.cell (k * 3 + 2)).trans (hT3.2 k 2 hkl (by decide))
    rw [if_pos (Nat.zero_le _)] at t0 t1 t2
    have hU1 := Lib.hid (show ∀ z : Nat, z < 3 → (#[.int .i64 (tsl os k 0), .int .i64 (tsl os k 1), .int .i64 (tsl os k 2)] : Array Value)[z]? = some (.int .i64 (tsl os k z)) from fun z hz => by
      obtain rfl | rfl | rfl : z = 0 ∨ z = 1 ∨ z = 2 := by omega
      all_goals rfl)
    clear hO1 hG1 hX1 hB1 hb3 hS3 hT3
    go_wp2_with fail
    clear t0 t1 t2
    generalize (#[.int .i64 (tsl os k 0), .int .i64 (tsl os k 1), .int .i64 (tsl os k 2)] : Array Value) = sn at hU1 ⊢
    go_loopg [25] 3 (fun gn v wr => ∃ (q : Nat) (cs : Array Value), q ≤ 3 ∧ gn = 3 - q ∧ v = .int .i64 q ∧ Has wr w1.heap.size 3 cs ∧ Arr3 cs (fun i => if i < q then usN os k t i else 0) ∧ Has wr G 78 cur ∧ Below w.heap.size w wr)
    case atStart =>
      refine ⟨0, _, by decide, rfl, rfl, hX3.out, ⟨rfl, fun q hq => ?_⟩, hG3.out, hB3.out⟩
      dsimp only
      rw [if_neg (by omega)]
      obtain rfl | rfl | rfl : q = 0 ∨ q = 1 ∨ q = 2 := by omega
      all_goals rfl
    case round =>
      clear hX3 hG3 hB3
      obtain ⟨q, cs, hq, hgn, rfl, hX, hA, hG, hB⟩ := hrel
      have hgk : gk = 3 - q := hgn
      clear hgn
      by_cases hq3 : q < 3
      · have hq0 : (0 : Int) ≤ (q : Int) := by omega
        have hq1 : (q : Int) < 3 := by omega
        have cG := (hG.cell (k * 7 + (4 + q))).trans (hGcs.out q hq3)
        rw [show k * 7 + (4 + q) = k * 7 + 4 + q by omega] at cG
        have cX := (hX.cell q).trans (hA.2 q hq3)
        have fX := hX.frozen q
        have hix := fun wx => index_three (hU1.out q hq3) hq3 wx
        have hb9 := hbd.out q hq3
        have hue : usN os k t q = tsl os k q * t.wgt q := rfl
        rw [hue] at hb9
        have hwu : IntKind.i64.wrap (tsl os k q * t.wgt q) = tsl os k q * t.wgt q := by rw [IntKind.wrap_i64]; omega
        have hX2 := Lib.hid (hX.put q (.int .i64 (tsl os k q * t.wgt q)))
        have hA2 := Lib.hid (hA.put (u := q) (y := tsl os k q * t.wgt q) (Y := fun i => if i < q + 1 then usN os k t i else 0) hq3 (by rw [if_pos (by omega)]; rfl) (fun z hz hne => by
          by_cases h1 : z < q
          · rw [if_pos h1, if_pos (by omega)]
          · rw [if_neg h1, if_neg (by omega)]))
        have hG2 := Lib.hid (hG.far (p := ⟨w1.heap.size, q, none⟩) (by have := hGl.out; show G ≠ w1.heap.size; omega) (.int .i64 (tsl os k q * t.wgt q)))
        have hB2 := Lib.hid (hB.setCell (p := ⟨w1.heap.size, q, none⟩) hz1.out (.int .i64 (tsl os k q * t.wgt q)))
        clear hX hA hG hB hue
        generalize tsl os k q = x at *
        generalize t.wgt q = y at *
        go_wp2_with fail
        go_roundg (3 - (q + 1))
        case measure => omega
        case rel => exact ⟨q + 1, _, by omega, rfl, by go_num, hX2.out, hA2.out, hG2.out, hB2.out⟩
      · obtain rfl : q = 3 := by omega
        have hA3 := hA.congr (Y := fun i => usN os k t i) (fun z hz => if_pos hz)
        have hF := Lib.hid (show IOwn wr w.heap.size (.slice (some ⟨w1.heap.size, 0, none⟩) 3 3) (usOf ps (k : Int)) from by
          rw [hE2.out]
          exact IOwn.of_has hX (by rw [hA3.eq]; rfl) rfl hz1.out (by decide))
        have hBf := Lib.hid hB
        clear hX hA hA3 hG hB
        go_wp2_with fail
        go_ret2
        exact ⟨_, by rw [hE1.out]; rfl, hF.out, hBf.out⟩
theorem tally_sumS (x y : Int) (wx : World) : (Instr.field 95 (.agg #[.int .i64 x, .int .i64 y]) 0).run Try.prog wx = .ok (.int .i64 x) wx := by kernel_rfl
theorem ov_yes {ps os : List St} {k : Nat} {t : St} (hu : unrolled ps = some os) (hwa : wAt os (k : Int) = true) : ovOf ps (k : Int) = overN os k := by
  unfold ovOf
  rw [hu]
  dsimp only
  rw [if_pos hwa, Int.toNat_natCast]
set_option maxHeartbeats 2000000 in
theorem PassedOver_any (A : Option Addr) (n c : Nat) (ps : List St) (a : Int) (w : World) (h : Lst w w.heap.size A n ps) (hn : n ≤ c) (hc : c ≤ maxLen) :
    Calls Try.prog 29 #[.slice A n c, .int .i64 a] w fun e w' => e = .returned (.int .i64 (ovOf ps a)) ∧ Below w.heap.size w w' := by
  have hC := Lib.hid (UsesOf_any A n c ps a w h hn hc)
  have hTo := Lib.hid (fun (wx : World) (hb : Below w.heap.size w wx) => TotalOf_any A n c ps wx ((h.below hb).more hb.size) hn hc)
  clear h hc
  cases hg : wOf ps a
  · obtain ⟨e1, e2, e3⟩ := us_no hg
    have hE := Lib.hid (And.intro e1 (And.intro e2 e3))
    clear e1 e2 e3 hg hTo
    go_enter Try.func29, Try.ntmps29
    go_wp2_with fail
    refine (hC.out).mono ?_
    rw [hE.out.1, hE.out.2.1]
    rintro e w1 ⟨u, rfl, hown, hb⟩
    obtain ⟨A3, c3, hv, _, _⟩ := hown.form
    subst hv
    have hF := Lib.hid hb
    clear hown hb
    go_wp2_with fail
    go_ret
    exact ⟨ret_int hE.out.2.2, hF.out⟩
  · obtain ⟨os, k, t, hu, rfl, ht, hw, hto, hwa⟩ := w_parts hg
    obtain ⟨_, hlen, _, hNL, hOK⟩ := unrolled_parts hu
    have hok : ∀ s ∈ os, s.ok = true := fun s hs => List.all_eq_true.1 hOK s hs
    obtain ⟨e1, e2⟩ := us_yes hu ht hwa
    have hov := ov_yes (t := t) hu hwa
    have hdv := uses_dov hok ht hw
    have htop := dov_top hlen rfl hok k
    have hT0 : totalOf ps = valAt (fun _ => 1) os 0 0 := by unfold totalOf; rw [hu]
    have hul : usesL os k t = [usN os k t 0, usN os k t 1, usN os k t 2] := usN_list ht hw hok
    have hnn := Lib.hid (show ∀ x ∈ usesL os k t, 0 ≤ x from fun x hx => by
      rw [hul] at hx
      simp only [List.mem_cons, List.not_mem_nil, or_false] at hx
      rcases hx with rfl | rfl | rfl
      · exact (usN_bd hlen rfl hok ht hw (by decide)).1
      · exact (usN_bd hlen rfl hok ht hw (by decide)).1
      · exact (usN_bd hlen rfl hok ht hw (by decide)).1)
    have hl3 := Lib.hid (show (usesL os k t).length = 3 from rfl)
    unfold overN at hov
    rw [← hT0, ← hdv] at hov
    rw [← hT0, ← hdv] at htop
    rw [e1, e2] at hC
    have hs1 : isum (usesL os k t) ≤ 1000000000000000000 := by omega
    generalize usesL os k t = us at *
    generalize totalOf ps = tt at *
    have hE := Lib.hid hov
    clear hg hu hw hto hwa ht e1 e2 hOK hNL hok hdv hT0 hul hov
    have hw9 : IntKind.i64.wrap (tt - isum us) = tt - isum us := by rw [IntKind.wrap_i64]; omega
    go_enter Try.func29, Try.ntmps29
    go_wp2_with fail
    refine (hC.out).mono ?_
    rintro e w1 ⟨u, rfl, hown, hb⟩
    obtain ⟨A3, c3, hv, _, _⟩ := hown.form
    subst hv
    rw [hl3.out]
    have hO := Lib.hid (fun (wx : World) (hbx : Below w1.heap.size w1 wx) => (hown.lst.below hbx).more hbx.size)
    have hB1 := Lib.hid hb
    have hcTo := Lib.hid (hTo.out w1 hb)
    clear hown hb
    go_wp2_with fail
    refine (hcTo.out).mono ?_
    rintro e w2 ⟨rfl, hb2⟩
    have hO2 := hO.out _ hb2
    rw [hl3.out] at hO2
    have cTa := Lib.hid (tallyOf_any A3 3 c3 us w2 hO2 (by decide) hnn.out hs1)
    have hB2 := Lib.hid (hB1.out.trans (hb2.mono hB1.out.size))
    clear hb2 hO2
    go_wp2_with fail
    refine (cTa.out).mono ?_
    rintro e w3 ⟨rfl, hb3⟩
    have hB3 := Lib.hid (hB2.out.trans (hb3.mono hB2.out.size))
    clear hb3
    generalize gcdF us = gq
    generalize isum us = sq at *
    have hfi := fun wx => tally_sumS sq gq wx
    go_wp2_with fail
    go_ret
    exact ⟨ret_int hE.out, hB3.out⟩
end Go.Proofs.Ytbndonfpdioibaa
