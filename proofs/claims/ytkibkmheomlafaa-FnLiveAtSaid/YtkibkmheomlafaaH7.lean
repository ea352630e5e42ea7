/- Slices: the model's SliceOf and LiveAt. -/
import Derived.Test.YtkibkmheomlafaaH2
import Derived.BigQuiet
namespace Go.Proofs.Ytkibkmheomlafaa
set_option maxRecDepth 100000
set_option linter.unusedVariables false
open Go.RowKit

theorem mul_part {f b B : Int} (h : f * b = B) (hf : 1 ≤ f) (hb : 1 ≤ b) : f ≤ B := by
  have := Int.mul_le_mul_of_nonneg_left hb (show 0 ≤ f by omega)
  omega
theorem facBy_rng {s : St} (h : s.ok = true) (h6 : s.k < 6) : 1 ≤ facBy 2 s ∧ facBy 2 s ≤ 27 := by
  have hw := ok_w h h6
  unfold facBy
  rw [if_neg (by decide)]
  split
  · rename_i hd
    have h2 : 2 ≤ s.k := by
      have := hd.2
      unfold St.draws at this
      simp at this
      omega
    have := hw.2.2.2 h2
    omega
  · omega
set_option maxHeartbeats 4000000 in
theorem specSliceOf_any (A : Option Addr) (n c : Nat) (ps : List St) (vars : Int) (w : World) (h : Lst w w.heap.size A n ps) (hn : n ≤ c) (hc : c ≤ maxLen) (hbig : n ≤ 1048576) :
    Calls Try.prog 14 #[.slice A n c, .int .i64 vars] w (Sld w (slTo ps vars) (byTo ps vars) (okS ps vars)) := by
  have cM := Lib.hid (specNeedsOf_any A n c ps vars w h hn hc hbig)
  have hl := h.1
  have hLs := Lib.hid h
  unfold Lbd at cM
  obtain ⟨i0, hi0, hz0, hz1', hz2'⟩ := info_parts info_stmt
  clear h hc
  cases hk : okS ps vars
  · have hK := Lib.hid hk
    have hR := Lib.hid (show slTo ps vars = [] by unfold slTo; rw [hk]; rfl)
    have hRb := Lib.hid (show byTo ps vars = 0 by unfold byTo; rw [hk]; rfl)
    clear hk
    go_enter Try.func14, Try.ntmps14
    go_wp2_with fail
    refine cM.out.mono ?_
    rw [hK.out]
    rintro e w1 ⟨v, rfl, hO, hb⟩
    clear hO
    go_wp2_with fail
    go_ret3
    exact ⟨_, by rw [hRb.out]; rfl, by rw [hR.out]; exact Own.nil _ _, hb⟩
  · have hK := Lib.hid hk
    have hR := Lib.hid (show slTo ps vars = sl ps vars by unfold slTo; rw [hk]; rfl)
    have hRb := Lib.hid (show byTo ps vars = byL ps vars by unfold byTo; rw [hk]; rfl)
    have hRn := Lib.hid (show needsTo ps vars = ndx 0 ps vars by unfold needsTo; rw [hk]; rfl)
    obtain ⟨hp, hV⟩ := okS_parts hk
    have hPl := Lib.hid hp
    have hok := Lib.hid (plain_iff.1 hp).2
    have h10 : n ≤ 10 := by have := (plain_iff.1 hp).1; omega
    have hlen := Lib.hid (show (sl ps vars).length ≤ 10 by have := sl_len ps vars; omega)
    have hB1 := Lib.hid (byL_top hp vars 0)
    clear hk hp
    go_enter Try.func14, Try.ntmps14
    go_wp2_with fail
    refine cM.out.mono ?_
    rw [hK.out, hRn.out]
    rintro e w1 ⟨v, rfl, hI, hb⟩
    obtain ⟨A1, c1, hv1, _, _⟩ := hI.form
    subst hv1
    have hnl : (ndx 0 ps vars).length ≤ 10 := by rw [ndx_len]; exact hlen.out
    generalize hnsq : (ndx 0 ps vars).length = ln at hnl ⊢
    have hnd : ndx 0 ps vars = (ndx 0 ps vars).drop 0 := rfl
    have hIl := Lib.hid (show Ils w1 w1.heap.size A1 ln (ndx 0 ps vars) from by rw [← hnsq]; exact hI.lst)
    have hln := Lib.hid hnsq
    have hb1 := Lib.hid hb
    have hO0 := Lib.hid (show Own (w1.alloc (.cells #[] 65)) w1.heap.size (.slice (some ⟨w1.heap.size, 0, none⟩) 0 0) [] from World.ownsRow_made w1 #[] 0 (Nat.le_refl _) (by simp [maxLen]) rfl)
    have hB0 := Lib.hid (show Below w1.heap.size w1 (w1.alloc (.cells #[] 65)) from (Below.refl _ _).alloc (Nat.le_refl _) _)
    generalize hns : ndx 0 ps vars = ns at hIl hln
    have hNs := Lib.hid hns
    have hln10 : ln ≤ 10 := hnl
    clear hI hb hnd hnsq hns
    go_wp2_with fail
    go_loopg [9, 10, 11, 12] n (fun gn o y a v wr => ∃ (k : Nat) (qs : List St) (f : Int) (j : Nat), k ≤ n ∧ gn = n - k ∧ v = .int .i64 k ∧ a = .int .i64 j ∧ y = .int .i64 f ∧ Own wr w1.heap.size o qs ∧ qs ++ sl (ps.drop k) vars = sl ps vars ∧ f * byL (ps.drop k) vars = byL ps vars ∧ 1 ≤ f ∧ j ≤ ln ∧ ns.drop j = ndx k (ps.drop k) vars ∧ Below w1.heap.size w1 wr)
    case atStart => exact ⟨0, [], 1, 0, Nat.zero_le _, rfl, rfl, rfl, rfl, hO0.out, rfl, Int.one_mul _, by decide, Nat.zero_le _, hNs.out.symm, hB0.out⟩
    case round =>
      obtain ⟨k, qs, f, j, hk, hgn, rfl, rfl, rfl, hO, hds, hfb, hf1, hjl, hnj, hB⟩ := hrel
      have hgk : gk = n - k := hgn
      obtain ⟨Ao, co, hvo, hco, hmo⟩ := hO.form
      subst hvo
      have hdl : qs.length ≤ 10 := by
        have h1 := hlen.out
        rw [← hds, List.length_append] at h1
        omega
      have hDs := Lib.hid hds
      have hFb := Lib.hid hfb
      have hNj := Lib.hid hnj
      have hOh := Lib.hid hO
      have hBh := Lib.hid hB
      clear hgn hds hfb hnj hO
      by_cases hlt : k < n
      · obtain ⟨gs, off, s, rfl, hgs, hs, hat⟩ := (hLs.out.below (hb1.out.trans (hB.mono hb1.out.size))).at_ hlt
        obtain ⟨e0, e1, e2, e3, e4, e5, e6⟩ := hat.open_
        have hst := Lib.hid (sl_step hs vars)
        have hsn := Lib.hid (ndx_step hs k vars)
        have hsb := Lib.hid (byL_step hs vars)
        have hsk := hok.out s (List.mem_of_getElem? hs)
        have hbt := byL_top hPl.out vars (k + 1)
        have hk0 : (0 : Int) ≤ (k : Int) := by omega
        have hk1 : (k : Int) < (n : Int) := by omega
        have hj0 : (0 : Int) ≤ (j : Int) := by omega
        have hIw := Lib.hid (hIl.out.below hB)
        clear hs hB hat
        cases hq : s.isN (needL (ps.drop (k + 1)) vars)
        · have hX := Lib.hid (show qs ++ sl (ps.drop (k + 1)) vars = sl ps vars by
            have h1 := hDs.out
            rwa [hst.out, hq, if_neg (by decide)] at h1)
          have hN := Lib.hid (show ns.drop j = ndx (k + 1) (ps.drop (k + 1)) vars by
            have h1 := hNj.out
            rwa [hsn.out, hq, if_neg (by decide)] at h1)
          have hF1 := Lib.hid (show f * facBy 2 s * byL (ps.drop (k + 1)) vars = byL ps vars by
            have h1 := hFb.out
            rw [hsb.out, hq, if_neg (by decide)] at h1
            rw [Int.mul_assoc]
            exact h1)
          have cD := Lib.hid (fun wx => l2Draws_any s wx)
          have hws := ok_w hsk.1 hsk.2
          have hfp : 1 ≤ facBy 2 s ∧ facBy 2 s ≤ 27 := facBy_rng hsk.1 hsk.2
          have hfm : 1 ≤ f * facBy 2 s := by
            have := Int.mul_le_mul_of_nonneg_left hfp.1 (show 0 ≤ f by omega)
            omega
          have hftop := mul_part hF1.out hfm hbt.1
          have hb00 := hB1.out.2
          rw [show ps.drop 0 = ps from rfl] at hb00
          have hFm := Lib.hid hfm
          have hgw : gs < wr.heap.size := Nat.lt_of_lt_of_le hgs (Nat.le_trans hb1.out.size hBh.out.size)
          by_cases hjn : j < ln
          · obtain ⟨gi, oi, d, rfl, hgi, hd0, cd⟩ := hIw.out.at_ hjn
            have hdk : (d == (k : Int)) = false := by
              have h2 : (ns.drop j)[0]? = some d := by rw [List.getElem?_drop]; exact hd0
              rw [hN.out] at h2
              have := (ndx_ge d (List.mem_of_getElem? h2)).1
              simp; omega
            have hjI : (j : Int) < (ln : Int) := by omega
            clear hd0 hq
            cases hd : s.draws
            · have hfac := Lib.hid (show facBy 2 s = 1 by unfold facBy; rw [hd]; simp)
              have hDr := Lib.hid hd
              clear hd
              go_wp2_with fail
              refine (cD.out _).mono ?_
              rw [hDr.out]
              rintro e w3 ⟨rfl, hb3⟩
              have hO3 := Lib.hid (hOh.out.below hb3)
              have hB3 := Lib.hid (hBh.out.trans (hb3.mono hBh.out.size))
              clear hb3 e0 e1 e2 e3 e4 e5 e6 cd
              go_wp2_with fail
              go_roundg (n - (k + 1))
              case measure => omega
              case rel => exact ⟨k + 1, qs, f, j, by omega, rfl, by go_num, rfl, rfl, hO3.out, hX.out, by have := hF1.out; rwa [hfac.out, Int.mul_one] at this, hf1, hjl, hN.out, hB3.out⟩
            · have hfac := Lib.hid (show facBy 2 s = s.u + s.v + s.x by unfold facBy; rw [hd]; simp)
              have hDr := Lib.hid hd
              have hwr1 := IntWalk.i64_in (s.u + s.v) (by omega)
              have hwr2 := IntWalk.i64_in (s.u + s.v + s.x) (by omega)
              have hwr3 := IntWalk.i64_in (f * (s.u + s.v + s.x)) (by rw [← hfac.out]; omega)
              clear hd
              go_wp2_with fail
              refine (cD.out _).mono ?_
              rw [hDr.out]
              rintro e w3 ⟨rfl, hb3⟩
              have hO3 := Lib.hid (hOh.out.below hb3)
              have hB3 := Lib.hid (hBh.out.trans (hb3.mono hBh.out.size))
              have y4 := (hb3.cell (p := ⟨gs, _, none⟩) hgw).trans e4
              have y5 := (hb3.cell (p := ⟨gs, _, none⟩) hgw).trans e5
              have y6 := (hb3.cell (p := ⟨gs, _, none⟩) hgw).trans e6
              clear hb3 e0 e1 e2 e3 e4 e5 e6 cd
              go_wp2_with fail
              go_quiet (fail)
              go_wp2_with fail
              go_roundg (n - (k + 1))
              case measure => omega
              case rel => exact ⟨k + 1, qs, f * (s.u + s.v + s.x), j, by omega, rfl, by go_num, rfl, rfl, hO3.out.below (below_drewN (Below.refl _ _) _), hX.out, by have := hF1.out; rwa [hfac.out] at this, by rw [← hfac.out]; exact hFm.out, hjl, hN.out, below_drewN hB3.out _⟩
          · obtain rfl : j = ln := by omega
            clear hq
            cases hd : s.draws
            · have hfac := Lib.hid (show facBy 2 s = 1 by unfold facBy; rw [hd]; simp)
              have hDr := Lib.hid hd
              clear hd
              go_wp2_with fail
              refine (cD.out _).mono ?_
              rw [hDr.out]
              rintro e w3 ⟨rfl, hb3⟩
              have hO3 := Lib.hid (hOh.out.below hb3)
              have hB3 := Lib.hid (hBh.out.trans (hb3.mono hBh.out.size))
              clear hb3 e0 e1 e2 e3 e4 e5 e6
              go_wp2_with fail
              go_roundg (n - (k + 1))
              case measure => omega
              case rel => exact ⟨k + 1, qs, f, j, by omega, rfl, by go_num, rfl, rfl, hO3.out, hX.out, by have := hF1.out; rwa [hfac.out, Int.mul_one] at this, hf1, hjl, hN.out, hB3.out⟩
            · have hfac := Lib.hid (show facBy 2 s = s.u + s.v + s.x by unfold facBy; rw [hd]; simp)
              have hDr := Lib.hid hd
              have hwr1 := IntWalk.i64_in (s.u + s.v) (by omega)
              have hwr2 := IntWalk.i64_in (s.u + s.v + s.x) (by omega)
              have hwr3 := IntWalk.i64_in (f * (s.u + s.v + s.x)) (by rw [← hfac.out]; omega)
              clear hd
              go_wp2_with fail
              refine (cD.out _).mono ?_
              rw [hDr.out]
              rintro e w3 ⟨rfl, hb3⟩
              have hO3 := Lib.hid (hOh.out.below hb3)
              have hB3 := Lib.hid (hBh.out.trans (hb3.mono hBh.out.size))
              have y4 := (hb3.cell (p := ⟨gs, _, none⟩) hgw).trans e4
              have y5 := (hb3.cell (p := ⟨gs, _, none⟩) hgw).trans e5
              have y6 := (hb3.cell (p := ⟨gs, _, none⟩) hgw).trans e6
              clear hb3 e0 e1 e2 e3 e4 e5 e6
              go_wp2_with fail
              go_quiet (fail)
              go_wp2_with fail
              go_roundg (n - (k + 1))
              case measure => omega
              case rel => exact ⟨k + 1, qs, f * (s.u + s.v + s.x), j, by omega, rfl, by go_num, rfl, rfl, hO3.out.below (below_drewN (Below.refl _ _) _), hX.out, by have := hF1.out; rwa [hfac.out] at this, by rw [← hfac.out]; exact hFm.out, hjl, hN.out, below_drewN hB3.out _⟩
        · have hX := Lib.hid (show (qs ++ [s]) ++ sl (ps.drop (k + 1)) vars = sl ps vars by
            have h1 := hDs.out
            rw [hst.out, hq, if_pos rfl] at h1
            rw [List.append_assoc]
            exact h1)
          have hnk : ns.drop j = (k : Int) :: ndx (k + 1) (ps.drop (k + 1)) vars := by
            have h1 := hNj.out
            rwa [hsn.out, hq, if_pos rfl] at h1
          have hjn : j < ln := by
            have h2 : (ns.drop j).length ≠ 0 := by rw [hnk]; simp
            rw [List.length_drop] at h2
            have h3 : ns.length = ln := by rw [← hln.out]
            omega
          have hN := Lib.hid (show ns.drop (j + 1) = ndx (k + 1) (ps.drop (k + 1)) vars by
            rw [← List.drop_drop, hnk]; rfl)
          have hjd : ns[j]? = some (k : Int) := by
            have h2 : (ns.drop j)[0]? = some (k : Int) := by rw [hnk]; rfl
            rwa [List.getElem?_drop] at h2
          have hF1 := Lib.hid (show f * byL (ps.drop (k + 1)) vars = byL ps vars by
            have h1 := hFb.out
            rwa [hsb.out, hq, if_pos rfl] at h1)
          obtain ⟨gi, oi, d, rfl, hgi, hd, cd⟩ := hIw.out.at_ hjn
          obtain rfl : d = (k : Int) := by rw [hjd] at hd; injection hd with e; exact e.symm
          have hjI : (j : Int) < (ln : Int) := by omega
          have hO4 := Lib.hid (hOh.out.alloc (.cells #[.int .i64 s.k, .int .i64 s.a, .int .i64 s.b, .int .i64 s.c, .int .i64 s.u, .int .i64 s.v, .int .i64 s.x] 65))
          have hnw := Lib.hid (new_stmt wr s)
          have hB4 := Lib.hid (hBh.out.alloc hBh.out.size (.cells #[.int .i64 s.k, .int .i64 s.a, .int .i64 s.b, .int .i64 s.c, .int .i64 s.u, .int .i64 s.v, .int .i64 s.x] 65))
          clear hq hnk hjd hd hsk hbt
          go_wp2_with (at_builtin; refine wpList_append_own _ rfl (.tmp 40) (.tmp 45) 23 rfl w1.heap.size 65 i0 _ 7 56 Try.underlying23 hi0 hz0 hz1' hz2' rfl (by decide) (.slice Ao qs.length co) qs.length (flat qs) rfl (by exact hO4.out) ⟨wr.heap.size, 0, none⟩ 1 1 (flat [s]) (by first | rfl | simp [Act.eval]) rfl (by exact hnw.out) (flat_one _) (by unfold maxLen; omega) (by omega) (by exact hB4.out.size) ?_; intro v4 w4 hown4 hgrow4 hat4)
          have hF := Lib.hid (hO4.out.append_ (news := [s]) hown4 hgrow4 hB4.out (by exact hB4.out.size))
          obtain ⟨A5, c5, hv5, _, _⟩ := hF.out.1.form
          subst hv5
          clear hown4 hgrow4 hat4 cd e0 e1 e2 e3 e4 e5 e6
          go_wp2_with fail
          go_roundg (n - (k + 1))
          case measure => omega
          case rel => exact ⟨k + 1, qs ++ [s], f, j + 1, by omega, rfl, by go_num, by go_num, rfl, hF.out.1, hX.out, hF1.out, hf1, hjn, hN.out, hF.out.2⟩
      · obtain rfl : k = n := by omega
        have hE := Lib.hid (show qs = sl ps vars by
          have h1 := hDs.out
          rw [List.drop_eq_nil_of_le (by omega)] at h1
          simpa [sl] using h1)
        have hE2 := Lib.hid (show f = byL ps vars by
          have h1 := hFb.out
          rw [List.drop_eq_nil_of_le (by omega)] at h1
          simpa [byL] using h1)
        have hF := Lib.hid (show Sld w (slTo ps vars) (byTo ps vars) true (.returned (.tuple #[.slice Ao qs.length co, .int .i64 f, .bool true])) wr from ⟨_, by rw [hRb.out, ← hE2.out], by rw [hR.out, ← hE.out]; exact owns_le hOh.out hb1.out.size, hb1.out.trans (hBh.out.mono hb1.out.size)⟩)
        clear hB
        go_wp2_with fail
        go_ret3
        exact hF.out
theorem lst_from {w : World} {B n t : Nat} {A : Option Addr} {ps : List St} (h : Lst w B A n ps) (ht : t ≤ n) : Lst w B (A.map fun x => x.add (t * 7)) (n - t) (ps.drop t) := by
  by_cases h0 : n - t = 0
  · exact ⟨by rw [List.length_drop, h.1], fun hn => absurd hn (by omega)⟩
  · obtain ⟨g, off, rfl, _, _⟩ := h.2 (by omega)
    refine h.drop_ (.inr ?_)
    show some (Addr.add ⟨g, off, none⟩ (t * 7)) = _
    congr 1
    unfold Addr.add
    split
    · (rename_i h0; simp at h0 ⊢; try omega)
    · rfl
theorem specLiveAt_any (A : Option Addr) (n c : Nat) (ps : List St) (vars x : Int) (w : World) (h : Lst w w.heap.size A n ps) (hn : n ≤ c) (hc : c ≤ maxLen) (hbig : n ≤ 1048576) :
    Calls Try.prog 22 #[.slice A n c, .int .i64 vars, .int .i64 x] w fun e w' => e = .returned (.int .i64 (liveTo ps vars x)) ∧ Below w.heap.size w w' := by
  have cP := Lib.hid (specPlainOk_any A n c ps w h hn hc hbig)
  have hL := Lib.hid h
  have hl := h.1
  have hcm := Lib.hid hc
  clear h
  cases hp : plainOk ps
  · have hR := Lib.hid (show liveTo ps vars x = -1 by unfold liveTo okS; rw [hp]; simp)
    have hP := Lib.hid hp
    clear hp
    go_enter Try.func22, Try.ntmps22
    go_wp2_with fail
    refine cP.out.mono ?_
    rw [hP.out]
    rintro e w1 ⟨rfl, hb⟩
    go_wp2_with fail
    go_ret
    exact ⟨ret_int hR.out, hb⟩
  · cases hv : inB vars 0 15
    · have hR := Lib.hid (show liveTo ps vars x = -1 by unfold liveTo okS; rw [hv]; simp)
      have hP := Lib.hid hp
      have hV := Lib.hid hv
      clear hp hv
      go_enter Try.func22, Try.ntmps22
      go_wp2_with fail
      refine cP.out.mono ?_
      rw [hP.out]
      rintro e w1 ⟨rfl, hb⟩
      go_wp2_with fail
      refine (l1In_any _ _ _ _).mono ?_
      rw [hV.out]
      rintro e w' ⟨rfl, rfl⟩
      go_wp2_with fail
      go_ret
      exact ⟨ret_int hR.out, hb⟩
    · cases ht : inB x 0 n
      · have hR := Lib.hid (show liveTo ps vars x = -1 by unfold liveTo; rw [hl, ht]; simp)
        have hP := Lib.hid hp
        have hV := Lib.hid hv
        have hT := Lib.hid ht
        clear hp hv ht
        go_enter Try.func22, Try.ntmps22
        go_wp2_with fail
        refine cP.out.mono ?_
        rw [hP.out]
        rintro e w1 ⟨rfl, hb⟩
        go_wp2_with fail
        refine (l1In_any _ _ _ _).mono ?_
        rw [hV.out]
        rintro e w' ⟨rfl, rfl⟩
        go_wp2_with fail
        refine (l1In_any _ _ _ _).mono ?_
        rw [hT.out]
        rintro e w' ⟨rfl, rfl⟩
        go_wp2_with fail
        go_ret
        exact ⟨ret_int hR.out, hb⟩
      · have hR := Lib.hid (show liveTo ps vars x = needL (ps.drop x.toNat) vars by unfold liveTo okS; rw [hp, hv, hl, ht]; rfl)
        have hP := Lib.hid hp
        have hV := Lib.hid hv
        have hT := Lib.hid ht
        obtain ⟨h10, hok⟩ := plain_iff.1 hp
        have hvb := inB_iff.1 hv
        have htb := inB_iff.1 ht
        obtain ⟨t, rfl⟩ : ∃ t : Nat, x = t := ⟨x.toNat, by omega⟩
        have htn : t ≤ n := by omega
        have hx0 : (0 : Int) ≤ (t : Int) := by omega
        have hx1 : (t : Int) ≤ (n : Int) := by omega
        have cN := Lib.hid (fun A' c' wx (hx : Lst wx wx.heap.size A' (n - t) (ps.drop t)) => l7Needs_any A' (n - t) c' (ps.drop t) vars wx hx (by omega) (fun s hs => hok s (List.mem_of_mem_drop hs)) hvb)
        clear hp hv ht hok htb hvb
        go_enter Try.func22, Try.ntmps22
        go_wp2_with fail
        refine cP.out.mono ?_
        rw [hP.out]
        rintro e w1 ⟨rfl, hb⟩
        go_wp2_with fail
        refine (l1In_any _ _ _ _).mono ?_
        rw [hV.out]
        rintro e w' ⟨rfl, rfl⟩
        go_wp2_with fail
        refine (l1In_any _ _ _ _).mono ?_
        rw [hT.out]
        rintro e w' ⟨rfl, rfl⟩
        go_wp2_with fail
        · have hn0 : n - t = 0 := by omega
          refine (cN.out _ _ _ ⟨by rw [List.length_drop]; omega, fun h => absurd h (by omega)⟩).mono ?_
          rintro e w2 ⟨v, rfl, ho, hb2⟩
          obtain ⟨A2, c2, hv2, _, _⟩ := ho.form
          subst hv2
          clear ho
          have hB2 := Lib.hid (hb.trans (hb2.mono hb.size))
          clear hb2
          go_wp2_with fail
          go_ret
          exact ⟨ret_int hR.out, hB2.out⟩
        · refine (cN.out _ _ _ (lst_from ((hL.out.below hb).more hb.size) htn)).mono ?_
          rintro e w2 ⟨v, rfl, ho, hb2⟩
          obtain ⟨A2, c2, hv2, _, _⟩ := ho.form
          subst hv2
          clear ho
          have hB2 := Lib.hid (hb.trans (hb2.mono hb.size))
          clear hb2
          go_wp2_with fail
          go_ret
          exact ⟨ret_int hR.out, hB2.out⟩
end Go.Proofs.Ytkibkmheomlafaa
