/- PushOn: plain functions; the program's function. -/
import Derived.Test.YtbjpodgmmpchjaaAb
import Derived.Test.YtbjpodgmmpchjaaMdf
namespace Go.Proofs.Ytbjpodgmmpchjaa
set_option maxRecDepth 100000
set_option linter.unusedVariables false
open Go.RowKit

def pushOk (ps : List St) (ds : List Int) : Bool := match unrolled ps with
  | none => false
  | some os => decide (os.length ≤ 10) && lstOk 9 ds
def pushOf (ps : List St) (ds : List Int) : List Int := match unrolled ps with
  | none => []
  | some os => if (decide (os.length ≤ 10) && lstOk 9 ds) = true then pushed os ds else []
theorem pushed_len (os : List St) (ds : List Int) : (pushed os ds).length = 81 := by simp [pushed]
theorem pushOf_len (ps : List St) (ds : List Int) : (pushOf ps ds).length ≤ 81 := by
  unfold pushOf
  cases unrolled ps with
  | none => simp
  | some os =>
    dsimp only
    split
    · rw [pushed_len]; exact Nat.le_refl _
    · simp

/-- The fronts behind the first k runs that were put. -/
def putF (m : Nat) (lv ds : List Int) : Nat → Nat → Fr
  | 0 => fun _ => []
  | k + 1 => toF m lv (putF m lv ds k) ⟨0, (k : Int), ds.getD k 0⟩
theorem getD_bd {ds : List Int} {M : Int} (h : ∀ x ∈ ds, 0 ≤ x ∧ x ≤ M) (hM : 0 ≤ M) (k : Nat) : 0 ≤ ds.getD k 0 ∧ ds.getD k 0 ≤ M := by
  rw [List.getD_eq_getElem?_getD]
  cases hk : ds[k]? with
  | none => exact ⟨Int.le_refl _, hM⟩
  | some d => exact h d (List.mem_of_getElem? hk)
theorem putF_P0 {m : Nat} {lv ds : List Int} (h : ∀ x ∈ ds, 0 ≤ x ∧ x ≤ 9) : ∀ k : Nat, k ≤ 81 → P0 (putF m lv ds k)
  | 0, _ => P0.start
  | k + 1, hk => (putF_P0 h k (by omega)).put (by omega) (getD_bd h (by decide) k).1
theorem putF_sum (m : Nat) (lv : List Int) {ds : List Int} (v : Int → Int) : ∀ k : Nat, k ≤ ds.length → sumV v (putF m lv ds k 0) = rsum (fun st => v (vo (lv.getD 0 0) st)) (ds.take k) 0
  | 0, _ => rfl
  | k + 1, hk => by
    have hd : ds[k]? = some (ds.getD k 0) := by rw [List.getD_eq_getElem?_getD, List.getElem?_eq_getElem (by omega)]; rfl
    show sumV v (toF m lv (putF m lv ds k) ⟨0, (k : Int), ds.getD k 0⟩ 0) = _
    rw [P0.sum, putF_sum m lv v k (by omega), rsum_take _ hd]
theorem putF_ent {m : Nat} {lv ds : List Int} (h : ∀ x ∈ ds, 0 ≤ x ∧ x ≤ 9) (hl : ds.length = 81) {k : Nat} (hk : k ≤ 81) (i : Nat) : ∀ p ∈ putF m lv ds k i, p.2 ≤ 1000000000000000000 := by
  intro p hp
  have h0 := putF_P0 (m := m) (lv := lv) h k hk
  by_cases hi : i = 0
  · subst hi
    have h1 := sumV_ge (v := fun _ => 1) (rs := putF m lv ds k 0) (fun p hp => ⟨by have := ((h0.1 0).1 p hp).2; omega, by decide⟩) p hp
    rw [putF_sum m lv (fun _ => 1) k (by omega), rsum_one'] at h1
    have h2 := (isum_le (fun x hx => (h x hx).1) k).2
    have h3 := (isum_top (by decide) h).2
    rw [hl] at h3
    omega
  · rw [h0.2 i (by omega)] at hp
    simp at hp
theorem V2_ten {m : Nat} (h : m ≤ 10) (st : Int) : 0 ≤ V2 m 0 st ∧ V2 m 0 st ≤ 205891132094649 := by
  refine ⟨by have := V2_ge m 0 st; omega, ?_⟩
  have h1 := V2_mono (m := 10) (i := 0) (j := 10 - m) (by omega) 0 0
  unfold V2 at h1 ⊢
  rw [show 10 - (10 - m) = m by omega] at h1
  have e : (27 : Int) ^ (10 - 0) = 205891132094649 := by decide
  rw [e] at h1
  exact h1
theorem push_V2 {m : Nat} (hm : m ≤ 10) {ds : List Int} (h : ∀ x ∈ ds, 0 ≤ x ∧ x ≤ 9) (hl : ds.length = 81) : rsum (V2 m 0) ds 0 ≤ 1000000000000000000 := by
  have h1 := (rsum_part (V2_ten hm) (ds := ds) 0 (fun x hx => (h x hx).1)).2
  have h3 := isum_top (by decide) h
  rw [hl] at h3
  omega
theorem putF_gst {os : List St} {m : Nat} {ds : List Int} (hm : os.length = m) (h10 : m ≤ 10) (hok : ∀ s ∈ os, s.ok = true ∧ s.notLoop = true) (h : ∀ x ∈ ds, 0 ≤ x ∧ x ≤ 9) (hl : ds.length = 81) :
    Gst 15 os m (fun q => rsum (valAt q os 0) ds 0) (putF m (lives 15 os) ds 81) 0 (putF m (lives 15 os) ds 81 0) := by
  have hT : ds.take 81 = ds := List.take_of_length_le (by omega)
  refine (putF_P0 h 81 (Nat.le_refl _)).gst ?_ fun q hq => ?_
  · rw [putF_sum m _ _ 81 (by omega), hT]
    exact push_V2 h10 h hl
  · rw [putF_sum m _ _ 81 (by omega), hT]
    exact rsum_congr ds 0 fun i _ hi => valAt_vo hq hok (Nat.zero_le _) (by omega)

set_option maxHeartbeats 2000000 in
theorem PushOn_any (A Ad : Option Addr) (n c nd cd : Nat) (ps : List St) (ds : List Int) (w : World) (h : Lst w w.heap.size A n ps) (hn : n ≤ c) (hc : c ≤ maxLen) (hd : Ils w w.heap.size Ad nd ds) (hnd : nd ≤ maxLen) :
    Calls Try.prog 29 #[.slice A n c, .slice Ad nd cd] w (Lbd w (pushOf ps ds) (pushOk ps ds)) := by
  have hC := Lib.hid (Unrolled_any A n c ps w h hn hc)
  have hDs := Lib.hid hd
  have cL := Lib.hid (fun wx (hx : Ils wx wx.heap.size Ad nd ds) => listOk_any Ad nd cd ds 9 wx hx hnd)
  clear h hc hd
  cases hu : unrolled ps with
  | none =>
    have hU := Lib.hid hu
    have hR := Lib.hid (show pushOf ps ds = [] by unfold pushOf; rw [hu])
    have hR2 := Lib.hid (show pushOk ps ds = false by unfold pushOk; rw [hu])
    clear hu
    go_enter Try.func29, Try.ntmps29
    go_wp2_with fail
    refine (hC.out).mono ?_
    rw [hU.out]
    rintro e w1 ⟨v, rfl, hown, hb⟩
    clear hown
    go_wp2_with fail
    go_ret2
    exact ⟨_, by rw [hR2.out]; rfl, by rw [hR.out]; exact IOwn.nil _ _, hb⟩
  | some os =>
    obtain ⟨_, hlen, _, hNL, hOK⟩ := unrolled_parts hu
    have hU := Lib.hid hu
    by_cases h10 : os.length ≤ 10
    · cases hk : lstOk 9 ds
      · have hR := Lib.hid (show pushOf ps ds = [] by unfold pushOf; rw [hu, hk]; simp)
        have hR2 := Lib.hid (show pushOk ps ds = false by unfold pushOk; rw [hu, hk]; simp)
        rw [hk] at cL
        clear hu hNL hOK hk
        go_enter Try.func29, Try.ntmps29
        go_wp2_with fail
        refine (hC.out).mono ?_
        rw [hU.out]
        rintro e w1 ⟨v, rfl, hown', hb⟩
        have hown : Own w1 w.heap.size v os := hown'
        obtain ⟨A3, c3, hv, hlc, hcm⟩ := hown.form
        subst hv
        have hD1 := Lib.hid ((hDs.out.below hb).more hb.size)
        have hB1 := Lib.hid hb
        clear hown hown' hb
        have g10 : ¬ 10 < os.length := by omega
        go_wp2_with (first | (go_at_call 65; refine (cL.out _ hD1.out).mono ?_; rintro e w2 ⟨rfl, hb2⟩))
        go_ret2
        exact ⟨_, by rw [hR2.out]; rfl, by rw [hR.out]; exact IOwn.nil _ _, hB1.out.trans (hb2.mono hB1.out.size)⟩
      · have hR := Lib.hid (show pushOf ps ds = pushed os ds by unfold pushOf; rw [hu, hk]; simp [h10])
        have hR2 := Lib.hid (show pushOk ps ds = true by unfold pushOk; rw [hu, hk]; simp [h10])
        have hOkN := Lib.hid (show ∀ s ∈ os, s.ok = true ∧ s.notLoop = true from fun s hs => ⟨List.all_eq_true.1 hOK s hs, hNL s hs⟩)
        have hOk := Lib.hid hOK
        have hLB := Lib.hid (lstOk_bd hk)
        obtain rfl : nd = 81 := by rw [← hDs.out.1]; exact hLB.out.1
        rw [hk] at cL
        clear hu hNL hOK hk
        go_enter Try.func29, Try.ntmps29
        go_wp2_with fail
        refine (hC.out).mono ?_
        rw [hU.out]
        rintro e w1 ⟨v, rfl, hown', hb⟩
        have hown : Own w1 w.heap.size v os := hown'
        obtain ⟨A3, c3, hv, hlc, hcm⟩ := hown.form
        subst hv
        generalize hm : os.length = m at hlen hlc h10 ⊢
        have hM := Lib.hid hm
        have hO := Lib.hid (show w1.ownsRow w.heap.size 64 7 (.slice A3 m c3) m (flat os) from by
          have := hown
          unfold Own at this
          rwa [hm] at this)
        have hD1 := Lib.hid ((hDs.out.below hb).more hb.size)
        have hB1 := Lib.hid hb
        clear hown hown' hm hb
        have g10 : ¬ 10 < m := by omega
        go_wp2_with (first | (go_at_call 65; refine (cL.out _ hD1.out).mono ?_; rintro e w1b ⟨rfl, hb2⟩))
        have hO1 := Lib.hid (owns_but hO.out (KeptBut.of_below hb2 (fun _ => False)) (fun _ _ h => h))
        have hB1b := Lib.hid (hB1.out.trans (hb2.mono hB1.out.size))
        have hz1 := hB1b.out.size
        clear hb2
        refine (sweepOf_any A3 m c3 os 15 _ (ownS_lst hO1.out) hlen hOk.out (by decide)).mono ?_
        rintro e w2 ⟨gl, gf, cs, rfl, hol, hfr, hfa, hgf, hb2⟩
        have hz2 := hb2.size
        have hS := Lib.hid (Swp.start (lv := lives 15 os) (owns_but hO1.out (KeptBut.of_below hb2 (fun _ => False)) (fun _ _ h => h)) (owns_le hol hz1) hfr hfa (by omega) (show w.heap.size ≤ gf by omega))
        have hB2 := Lib.hid ((hB1b.out.trans (hb2.mono hz1)).alloc (show w.heap.size ≤ w2.heap.size by omega) (.cells #[.slice A3 m c3, .slice (some ⟨gl, 0, none⟩) (m + 1) (m + 1), .slice (some ⟨gf, 0, none⟩) (m + 1) (m + 1)] 69))
        have hlv := Lib.hid (LvOk.of (asked := 15) hM.out (by decide))
        clear hol hfr hfa hb2
        go_wp2_with fail
        generalize w2.alloc (.cells #[.slice A3 m c3, .slice (some ⟨gl, 0, none⟩) (m + 1) (m + 1), .slice (some ⟨gf, 0, none⟩) (m + 1) (m + 1)] 69) = W3 at hS hB2 ⊢
        generalize w2.heap.size = g at hS ⊢
        go_loopg [32] 81 (fun gn o wr => ∃ (k : Nat) (vs : Nat → Value), k ≤ 81 ∧ gn = 81 - k ∧ o = .int .i64 k ∧ Swp wr w.heap.size g gl gf m A3 c3 os (lives 15 os) (putF m (lives 15 os) ds k) vs ∧ Below w.heap.size w wr)
        case atStart => exact ⟨0, _, Nat.zero_le _, rfl, rfl, hS.out, hB2.out⟩
        case round =>
          obtain ⟨k, vs, hk, hgn, rfl, hSr, hBr⟩ := hrel
          have hgk : gk = 81 - k := hgn
          have hSr' := Lib.hid hSr
          have hBr' := Lib.hid hBr
          clear hgn
          by_cases hlt : k < 81
          · obtain ⟨ga, off, d, rfl, hg, hd, c0⟩ := (hDs.out.below hBr).at_ hlt
            have hgd : ds.getD k 0 = d := by rw [List.getD_eq_getElem?_getD, hd]; rfl
            have hD := hLB.out.2 d (List.mem_of_getElem? hd)
            have hk0 : (0 : Int) ≤ (k : Int) := by omega
            have hk1 : (k : Int) < 81 := by omega
            have cP := Lib.hid (put_any wr w.heap.size g gl gf m A3 c3 os (lives 15 os) (putF m (lives 15 os) ds k) vs ⟨0, k, d⟩ hSr hlen hlv.out (putF_P0 hLB.out.2 k (by omega)).1 (show 0 ≤ (k : Int) ∧ (k : Int) ≤ 80 by omega) (show 0 ≤ d ∧ d ≤ 1000000000000000000 by omega) (fun i _ => putF_ent hLB.out.2 hLB.out.1 (by omega) i) (by simp))
            have hNx := Lib.hid (show toF m (lives 15 os) (putF m (lives 15 os) ds k) ⟨0, k, d⟩ = putF m (lives 15 os) ds (k + 1) by rw [putF, hgd])
            clear hSr hBr hd hgd
            go_wp2_with fail
            refine (cP.out).mono ?_
            rintro e w4 ⟨rfl, vs4, hS4, hK4, _⟩
            have hB4 := Lib.hid (hBr'.out.trans (hK4.1.below (B := w.heap.size) (fun i hi e => by have := (hSr'.out.gt e).1; omega) hBr'.out.size))
            have hS4' := Lib.hid hS4
            clear hS4 hK4 cP
            go_wp2_with fail
            go_roundg (81 - (k + 1))
            case measure => omega
            case rel => exact ⟨k + 1, vs4, by omega, rfl, by go_num, by rw [← hNx.out]; exact hS4'.out, hB4.out⟩
          · obtain rfl : k = 81 := by omega
            have cG := Lib.hid (goOn_any wr 15 w.heap.size g gl gf m A3 c3 os _ vs _ hSr hlen hM.out hOkN.out hlv.out (putF_gst hM.out h10 hOkN.out hLB.out.2 hLB.out.1))
            clear hSr hBr
            go_wp2_with fail
            refine (cG.out).mono ?_
            rintro e w5 ⟨F5, vs5, rfl, hS5, hK5, hF5, hsum5, hT5⟩
            have hB5 := Lib.hid (hBr'.out.trans (hK5.1.below (B := w.heap.size) (fun i hi e => by have := (hSr'.out.gt e).1; omega) hBr'.out.size))
            have hrow := hS5.2.2.2.1.2.1 m (Nat.le_refl _)
            obtain ⟨A6, c6, hv6, _, _⟩ := owns_form hrow
            rw [hv6] at hrow ⊢
            have cI := Lib.hid (weightsIn_any w.heap.size m (F5 m).length c6 A6 (F5 m) w5 hrow rfl hF5 hsum5)
            have hw := Lib.hid (show wl (F5 m) = pushed os ds from by
              unfold wl pushed
              refine List.map_congr_left fun q _ => ?_
              exact hT5 (ind q) (resp_ind q))
            clear hS5 hK5 hF5 hsum5 hT5 hrow hv6 cG hSr'
            go_wp2_with fail
            refine (cI.out).mono ?_
            rintro e w6 ⟨rfl, ho6, hb6⟩
            have hF := Lib.hid (show Lbd w (pushOf ps ds) (pushOk ps ds) (.returned (.tuple #[.slice (some ⟨w5.heap.size, 0, none⟩) 81 81, .bool true])) w6 from ⟨_, by rw [hR2.out], by rw [hR.out, ← hw.out]; exact owns_le ho6 hB5.out.size, hB5.out.trans (hb6.mono hB5.out.size)⟩)
            clear ho6 hb6
            go_wp2_with fail
            go_ret2
            exact hF.out
    · have hR := Lib.hid (show pushOf ps ds = [] by unfold pushOf; rw [hu]; simp [h10])
      have hR2 := Lib.hid (show pushOk ps ds = false by unfold pushOk; rw [hu]; simp [h10])
      clear hu hNL hOK
      go_enter Try.func29, Try.ntmps29
      go_wp2_with fail
      refine (hC.out).mono ?_
      rw [hU.out]
      rintro e w1 ⟨v, rfl, hown', hb⟩
      have hown : Own w1 w.heap.size v os := hown'
      obtain ⟨A3, c3, hv, hlc, hcm⟩ := hown.form
      subst hv
      have hB1 := Lib.hid hb
      clear hown hown' hb
      have g10 : 10 < os.length := by omega
      go_wp2_with fail
      go_ret2
      exact ⟨_, by rw [hR2.out]; rfl, by rw [hR.out]; exact IOwn.nil _ _, hB1.out⟩

end Go.Proofs.Ytbjpodgmmpchjaa
