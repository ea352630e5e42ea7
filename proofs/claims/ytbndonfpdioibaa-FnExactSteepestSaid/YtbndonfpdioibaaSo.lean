/- The steepest weight: the model's Steepest. -/
import Derived.Test.YtbndonfpdioibaaSa
import Derived.Test.YtbndonfpdioibaaSl
namespace Go.Proofs.Ytbndonfpdioibaa
set_option maxRecDepth 100000
set_option linter.unusedVariables false
open Go.RowKit

def sgB (o : Option (Nat × Nat)) : Int := match o with
  | none => -1
  | some p => (p.1 : Int)
def sgM (os : List St) (o : Option (Nat × Nat)) : Int := match o with
  | none => 0
  | some p => stp os p
set_option maxHeartbeats 2000000 in
theorem specSteepest_no (A : Option Addr) (n c : Nat) (ps : List St) (w : World) (h : Lst w w.heap.size A n ps) (hn : n ≤ c) (hc : c ≤ maxLen) (hbig : n ≤ 1048576) (hu : unrolled ps = none) :
    Calls Try.prog 30 #[.slice A n c] w (Std w (steepOf ps)) := by
  have hC := Lib.hid (l1Unrolled_any A n c ps w h hn hc hbig)
  have hE := Lib.hid (steep_none hu)
  have hU := Lib.hid hu
  clear h hc hu
  go_enter Try.func30, Try.ntmps30
  go_wp2_with fail
  refine (hC.out).mono ?_
  rw [hU.out]
  rintro e w1 ⟨u, rfl, _, hb⟩
  have hF := Lib.hid hb
  clear hb
  go_wp2_with fail
  go_loopg [7, 10] 0 (fun gn x7 x wr => x7 = .int .i64 (-1) ∧ x = .int .i64 0 ∧ Below w.heap.size w wr)
  case atStart => exact ⟨rfl, rfl, hF.out⟩
  case round =>
    obtain ⟨rfl, rfl, hb⟩ := hrel
    have hBq := Lib.hid hb
    clear hb
    go_wp2_with fail
    go_ret3
    exact ⟨by rw [hE.out]; rfl, hBq.out⟩
set_option maxHeartbeats 4000000 in
theorem specSteepest_yes (A : Option Addr) (n c : Nat) (ps os : List St) (w : World) (h : Lst w w.heap.size A n ps) (hn : n ≤ c) (hc : c ≤ maxLen) (hbig : n ≤ 1048576) (hu : unrolled ps = some os) :
    Calls Try.prog 30 #[.slice A n c] w (Std w (steepOf ps)) := by
  have hC := Lib.hid (l1Unrolled_any A n c ps w h hn hc hbig)
  obtain ⟨_, hlen, _, hNL, hOK⟩ := unrolled_parts hu
  have hR := Lib.hid (steep_some hu)
  have hOk := Lib.hid (show ∀ s ∈ os, s.ok = true ∧ s.notLoop = true from fun s hs => ⟨List.all_eq_true.1 hOK s hs, hNL s hs⟩)
  have hok1 := Lib.hid (show ∀ s ∈ os, s.ok = true from fun s hs => List.all_eq_true.1 hOK s hs)
  have hU := Lib.hid hu
  clear h hc hu hNL hOK
  obtain ⟨m, hm⟩ : ∃ m, os.length = m := ⟨_, rfl⟩
  have hM := Lib.hid hm
  rw [hm] at hlen
  clear hm
  have hm9 : m ≤ 9223372036854775807 := by omega
  go_enter Try.func30, Try.ntmps30
  go_wp2_with fail
  refine (hC.out).mono ?_
  rw [hU.out]
  rintro e w1 ⟨u, rfl, hown, hb⟩
  have hown' : w1.ownsRow w.heap.size 78 7 u m (flat os) := by
    have h10 : w1.ownsRow w.heap.size 78 7 u os.length (flat os) := hown os rfl
    rwa [hM.out] at h10
  obtain ⟨A3, c3, hv, _, _⟩ := owns_form hown'
  subst hv
  have hL1 := Lib.hid (ownS_lst hown')
  have hF := Lib.hid hb
  clear hown hown' hb
  go_wp2_with fail
  go_loopg [7, 8, 9, 10] m (fun gn x7 x8 x9 v wr => ∃ k : Nat, k ≤ m ∧ gn = m - k ∧ x7 = .int .i64 (sgB (bst os k 0)) ∧ x8 = .int .i64 (stV (bst os k 0)) ∧ x9 = .int .i64 (sgM os (bst os k 0)) ∧ v = .int .i64 k ∧ Below w1.heap.size w1 wr)
  case atStart => exact ⟨0, Nat.zero_le _, rfl, rfl, rfl, rfl, rfl, Below.refl _ _⟩
  case round =>
    obtain ⟨k, hk, hgn, rfl, rfl, rfl, rfl, hb⟩ := hrel
    have hgk : gk = m - k := hgn
    clear hgn
    by_cases hlt : k < m
    · have hk0 : (0 : Int) ≤ (k : Int) := by omega
      have hk1 : (k : Int) < (m : Int) := by omega
      have hBo := Lib.hid hb
      clear hb
      cases hwa : wAt os (k : Int)
      · have hP := Lib.hid (bst_pass hwa)
        have hWa := Lib.hid hwa
        clear hwa
        go_wp2_with fail
        obtain ⟨go, rfl⟩ : ∃ go : Nat, go = gk := ⟨_, rfl⟩
        obtain ⟨wo, rfl⟩ : ∃ wo : World, wo = wr := ⟨_, rfl⟩
        go_loopg [7, 8, 9, 11] 0 (fun gn x7 x8 x9 v wr => x7 = .int .i64 (sgB (bst os k 0)) ∧ x8 = .int .i64 (stV (bst os k 0)) ∧ x9 = .int .i64 (sgM os (bst os k 0)) ∧ v = .int .i64 0 ∧ Below w1.heap.size w1 wr)
        case atStart => exact ⟨rfl, rfl, rfl, rfl, hBo.out⟩
        case round =>
          obtain ⟨rfl, rfl, rfl, rfl, hb⟩ := hrel
          have hBq := Lib.hid hb
          have cW := Lib.hid (l12Weighs_any A3 m c3 os (k : Int) wr ((hL1.out.below hb).more hb.size) (by omega))
          rw [hWa.out] at cW
          clear hb
          go_wp2_with fail
          refine (cW.out).mono ?_
          rintro e w4 ⟨rfl, e4⟩
          have hB4 := Lib.hid (show Below w1.heap.size w1 w4 from by rw [e4]; exact hBq.out)
          clear e4
          go_wp2_with fail
          go_roundg (m - (k + 1))
          case measure => omega
          case rel => exact ⟨k + 1, by omega, rfl, by rw [hP.out], by rw [hP.out], by rw [hP.out], by go_num, hB4.out⟩
      · have hP := Lib.hid (bst_next hwa)
        have hWa := Lib.hid hwa
        obtain ⟨k', t, ek, ht, hw⟩ := wAt_iff.1 hwa
        obtain rfl : k' = k := by omega
        have hT := Lib.hid (And.intro ht hw)
        clear hwa ek ht hw
        go_wp2_with fail
        obtain ⟨go, rfl⟩ : ∃ go : Nat, go = gk := ⟨_, rfl⟩
        obtain ⟨wo, rfl⟩ : ∃ wo : World, wo = wr := ⟨_, rfl⟩
        go_loopg [7, 8, 9, 11] 3 (fun gn x7 x8 x9 v wr => ∃ q : Nat, q ≤ 3 ∧ gn = 3 - q ∧ x7 = .int .i64 (sgB (bst os k' q)) ∧ x8 = .int .i64 (stV (bst os k' q)) ∧ x9 = .int .i64 (sgM os (bst os k' q)) ∧ v = .int .i64 q ∧ Below w1.heap.size w1 wr)
        case atStart => exact ⟨0, by decide, rfl, rfl, rfl, rfl, rfl, hBo.out⟩
        case round =>
          obtain ⟨q, hq, hgn, rfl, rfl, rfl, rfl, hb⟩ := hrel
          have hgk2 : gk = 3 - q := hgn
          have hBq := Lib.hid hb
          have hLq := Lib.hid ((hL1.out.below hb).more hb.size)
          clear hgn hb
          by_cases hq3 : q < 3
          · have hq0 : (0 : Int) ≤ (q : Int) := by omega
            have hq1 : (q : Int) < 3 := by omega
            have cW := Lib.hid (l12Weighs_any A3 m c3 os (k' : Int) wr hLq.out (by omega))
            rw [hWa.out] at cW
            have hy0 := stp_nn hok1.out (k', q)
            have hstep := bst_step (os := os) (k := k') (v := q) hok1.out
            have hbd := Lib.hid (show isum (slopesL os k' (q : Int)) ≤ 150094635296999121 from by rw [slopes_sum hok1.out]; exact (gro_top hlen hM.out hOk.out hT.out.1 hT.out.2 (c := (q : Int)) (by omega)).2)
            have hye := Lib.hid (show stp os (k', q) = isum (slopesL os k' (q : Int)) from rfl)
            obtain ⟨x7, e7⟩ : ∃ x, x = sgB (bst os k' q) := ⟨_, rfl⟩
            obtain ⟨x8, e8⟩ : ∃ x, x = stV (bst os k' q) := ⟨_, rfl⟩
            obtain ⟨x9, e9⟩ : ∃ x, x = sgM os (bst os k' q) := ⟨_, rfl⟩
            rw [← e7, ← e8, ← e9]
            have hway : (x7 < 0 ∧ bst os k' (q + 1) = some (k', q)) ∨ (0 ≤ x7 ∧ x9 < stp os (k', q) ∧ bst os k' (q + 1) = some (k', q)) ∨ (0 ≤ x7 ∧ ¬ x9 < stp os (k', q) ∧ bst os k' (q + 1) = bst os k' q) := by
              rw [e7, e9]
              cases ho : bst os k' q with
              | none =>
                rw [ho] at hstep
                exact .inl ⟨by decide, hstep.trans (if_pos (by show (-1 : Int) < stp os (k', q); omega))⟩
              | some p =>
                rw [ho] at hstep
                by_cases hgt : stp os p < stp os (k', q)
                · exact .inr (.inl ⟨by show (0 : Int) ≤ (p.1 : Int); omega, hgt, hstep.trans (if_pos hgt)⟩)
                · exact .inr (.inr ⟨by show (0 : Int) ≤ (p.1 : Int); omega, hgt, hstep.trans (if_neg hgt)⟩)
            have e7' := Lib.hid e7
            have e8' := Lib.hid e8
            have e9' := Lib.hid e9
            have hPq := Lib.hid (l12Push_any A3 m c3 wr.heap.size os k' (q : Int) t wr hLq.out hM.out hlen hOk.out hT.out.1 hT.out.2 (Nat.le_refl _))
            have hz0 := Lib.hid hBq.out.size
            clear e7 e8 e9 hstep
            obtain ⟨wc, hwc⟩ : ∃ wc, wc = wr := ⟨_, rfl⟩
            have hWc := Lib.hid hwc
            clear hwc
            go_wp2_with fail
            refine (cW.out).mono ?_
            rintro e w4 ⟨rfl, e4⟩
            have hP4 := Lib.hid (show Calls Try.prog 68 #[.slice A3 m c3, .int .i64 k', .int .i64 q] w4 (Pshd wr wr.heap.size os k' q) from by rw [e4]; exact hPq.out)
            clear e4
            go_wp2_with fail
            refine (hP4.out).mono ?_
            rintro e w5 ⟨v1, u1, ds, rfl, _, ho2, hb5⟩
            obtain ⟨A6, c6, hv6, _, _⟩ := ho2.form
            rw [slopesL_len] at hv6
            subst hv6
            have hB5 := Lib.hid (hBq.out.trans (hb5.mono hz0.out))
            have hI5 := Lib.hid ho2.lst
            have cS := Lib.hid (show ∀ wx, Below w5.heap.size w5 wx → Calls Try.prog 80 #[.slice A6 81 c6] wx fun e w' => e = .returned (.int .i64 (stp os (k', q))) ∧ Below wx.heap.size wx w' from fun wx hx =>
              l3Sum_any A6 81 c6 (slopesL os k' (q : Int)) wx ((hI5.out.below hx).more hx.size) (slopesL_len _ _ _) (by decide) (slopes_nonneg hok1.out _ _) (by have := hbd.out; omega))
            clear ho2 hb5 hPq
            generalize stp os (k', q) = y at hway hy0 cS hye
            rcases hway with ⟨hx7, hb9⟩ | ⟨hx7, hgt, hb9⟩ | ⟨hx7, hgt, hb9⟩
            · have hSt := Lib.hid hb9
              clear hb9
              go_wp2_with fail
              refine (cS.out _ (Below.refl _ _)).mono ?_
              rintro e w6 ⟨rfl, hb6⟩
              have hB6 := Lib.hid (hB5.out.trans (hb6.mono hB5.out.size))
              clear hb6
              go_wp2_with fail
              go_roundg (3 - (q + 1))
              case measure => omega
              case rel => exact ⟨q + 1, by omega, rfl, by rw [hSt.out]; rfl, by rw [hSt.out]; rfl, by rw [hSt.out, hye.out]; rfl, by go_num, hB6.out⟩
            · have hSt := Lib.hid hb9
              clear hb9
              go_wp2_with fail
              refine (cS.out _ (Below.refl _ _)).mono ?_
              rintro e w6 ⟨rfl, hb6⟩
              have hB6 := Lib.hid (hB5.out.trans (hb6.mono hB5.out.size))
              have hb6' := Lib.hid hb6
              clear hb6
              go_wp2_with fail
              refine (cS.out _ hb6'.out).mono ?_
              rintro e w7 ⟨rfl, hb7⟩
              have hB7 := Lib.hid (hB6.out.trans (hb7.mono hB6.out.size))
              clear hb7
              go_wp2_with fail
              go_roundg (3 - (q + 1))
              case measure => omega
              case rel => exact ⟨q + 1, by omega, rfl, by rw [hSt.out]; rfl, by rw [hSt.out]; rfl, by rw [hSt.out, hye.out]; rfl, by go_num, hB7.out⟩
            · have hSt := Lib.hid hb9
              clear hb9
              go_wp2_with fail
              refine (cS.out _ (Below.refl _ _)).mono ?_
              rintro e w6 ⟨rfl, hb6⟩
              have hB6 := Lib.hid (hB5.out.trans (hb6.mono hB5.out.size))
              clear hb6
              go_wp2_with fail
              go_roundg (3 - (q + 1))
              case measure => omega
              case rel => exact ⟨q + 1, by omega, rfl, by rw [hSt.out, e7'.out], by rw [hSt.out, e8'.out], by rw [hSt.out, e9'.out], by go_num, hB6.out⟩
          · obtain rfl : q = 3 := by omega
            go_wp2_with fail
            go_roundg (m - (k' + 1))
            case measure => omega
            case rel => exact ⟨k' + 1, by omega, rfl, by rw [hP.out], by rw [hP.out], by rw [hP.out], by go_num, hBq.out⟩
    · obtain rfl : k = m := by omega
      have hFin := Lib.hid (show steepOf ps = bst os k 0 from by rw [hR.out, hM.out])
      have hBq := Lib.hid (hF.out.trans (hb.mono hF.out.size))
      clear hb
      cases ho : bst os k 0 with
      | none =>
        have hO := Lib.hid ho
        have e7 : sgB none = -1 := rfl
        have e8 : stV none = 0 := rfl
        have e9 : sgM os none = 0 := rfl
        rw [e7, e8, e9]
        clear ho e7 e8 e9
        go_wp2_with fail
        go_ret3
        exact ⟨by rw [hFin.out, hO.out]; rfl, hBq.out⟩
      | some p =>
        have hO := Lib.hid ho
        have e7 : sgB (some p) = (p.1 : Int) := rfl
        have e8 : stV (some p) = (p.2 : Int) := rfl
        rw [e7, e8]
        generalize sgM os (some p) = x9
        have hp0 : (0 : Int) ≤ (p.1 : Int) := by omega
        clear ho e7 e8
        go_wp2_with fail
        go_ret3
        exact ⟨by rw [hFin.out, hO.out]; rfl, hBq.out⟩
theorem specSteepest_any (A : Option Addr) (n c : Nat) (ps : List St) (w : World) (h : Lst w w.heap.size A n ps) (hn : n ≤ c) (hc : c ≤ maxLen) (hbig : n ≤ 1048576) :
    Calls Try.prog 30 #[.slice A n c] w (Std w (steepOf ps)) := by
  cases hu : unrolled ps with
  | none => exact specSteepest_no A n c ps w h hn hc hbig hu
  | some os => exact specSteepest_yes A n c ps os w h hn hc hbig hu
end Go.Proofs.Ytbndonfpdioibaa
