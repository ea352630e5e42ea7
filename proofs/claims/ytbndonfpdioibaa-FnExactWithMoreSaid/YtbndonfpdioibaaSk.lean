/- One more of a weight: the model's WithMore. -/
import Derived.Test.YtbndonfpdioibaaS8
import Derived.Test.YtbndonfpdioibaaSg
import Derived.Test.YtbndonfpdioibaaJJ
namespace Go.Proofs.Ytbndonfpdioibaa
set_option maxRecDepth 100000
set_option linter.unusedVariables false
open Go.RowKit

set_option maxHeartbeats 2000000 in
theorem specWithMore_any (A : Option Addr) (n c : Nat) (ps : List St) (a v : Int) (w : World) (h : Lst w w.heap.size A n ps) (hn : n ≤ c) (hc : c ≤ maxLen) (hbig : n ≤ 1048576) :
    Calls Try.prog 23 #[.slice A n c, .int .i64 a, .int .i64 v] w (Mrd w ps a v) := by
  have hC := Lib.hid (l1Unrolled_any A n c ps w h hn hc hbig)
  have cV := Lib.hid (fun wx => l1In_any v 0 2 wx)
  clear h hc
  cases hu : unrolled ps with
  | none =>
    have hE := Lib.hid (more_no (ps := ps) (a := a) (v := v) (by unfold wOf; rw [hu]; rfl))
    have hU := Lib.hid hu
    clear hu
    go_enter Try.func23, Try.ntmps23
    go_wp2_with fail
    refine (hC.out).mono ?_
    rw [hU.out]
    rintro e w1 ⟨u, rfl, _, hb⟩
    have hF := Lib.hid hb
    clear hb
    go_wp2_with fail
    go_ret2
    exact ⟨.slice none 0 0, by rw [hE.out.1]; rfl, by rw [hE.out.2]; exact Own.nil _ _, hF.out⟩
  | some os =>
    obtain ⟨_, hlen, _, hNL, hOK⟩ := unrolled_parts hu
    cases hg : (wAt os a && inB v 0 2)
    · have hE := Lib.hid (more_no (ps := ps) (a := a) (v := v) (by unfold wOf; rw [hu]; exact hg))
      have hU := Lib.hid hu
      generalize hwo : wAt os a = b1 at hg
      have hWo := Lib.hid hwo
      generalize inB v 0 2 = b2 at hg cV
      clear hwo hu hNL hOK
      go_enter Try.func23, Try.ntmps23
      go_wp2_with fail
      refine (hC.out).mono ?_
      rw [hU.out]
      rintro e w1 ⟨u, rfl, hown, hb⟩
      have hown' : Own w1 w.heap.size u os := hown os rfl
      obtain ⟨A3, c3, hv, _, _⟩ := hown'.form
      subst hv
      have cW := Lib.hid (l12Weighs_any A3 os.length c3 os a w1 hown'.lst (by omega))
      rw [hWo.out] at cW
      have hF := Lib.hid hb
      clear hown hown' hb
      cases b1 with
      | false =>
        clear hg
        go_wp2_with (first | (go_at_call 66; refine (cW.out).mono ?_; rintro e w' ⟨rfl, rfl⟩) | (go_at_call 67; refine (cV.out _).mono ?_; rintro e w' ⟨rfl, rfl⟩))
        go_ret2
        exact ⟨.slice none 0 0, by rw [hE.out.1]; rfl, by rw [hE.out.2]; exact Own.nil _ _, hF.out⟩
      | true =>
        have hb2 : b2 = false := by simpa using hg
        rw [hb2] at cV
        clear hg hb2
        go_wp2_with (first | (go_at_call 66; refine (cW.out).mono ?_; rintro e w' ⟨rfl, rfl⟩) | (go_at_call 67; refine (cV.out _).mono ?_; rintro e w' ⟨rfl, rfl⟩))
        go_ret2
        exact ⟨.slice none 0 0, by rw [hE.out.1]; rfl, by rw [hE.out.2]; exact Own.nil _ _, hF.out⟩
    · rw [Bool.and_eq_true] at hg
      obtain ⟨hg1, hg2⟩ := hg
      obtain ⟨k, t, rfl, ht, hw⟩ := wAt_iff.1 hg1
      have hto := List.all_eq_true.1 hOK t (List.mem_of_getElem? ht)
      have hvb := inB_iff.1 hg2
      obtain ⟨z, rfl⟩ : ∃ z : Nat, v = (z : Int) := ⟨v.toNat, by omega⟩
      have hz2 : z ≤ 2 := by omega
      have hkl := (List.getElem?_eq_some_iff.1 ht).1
      have eM : moreL os k (z : Int) = os.set k (t.more z) := by unfold moreL; rw [ht]
      have hE1 := Lib.hid (show moreOk ps (k : Int) (z : Int) = (unrolled (os.set k (t.more z))).isSome by
        unfold moreOk
        rw [hu]
        dsimp only
        rw [hg1, hg2, Bool.true_and, Bool.true_and, Int.toNat_natCast, eM])
      have hE2 := Lib.hid (show moreOf ps (k : Int) (z : Int) = if (unrolled (os.set k (t.more z))).isSome = true then os.set k (t.more z) else [] by
        unfold moreOf
        rw [hu]
        dsimp only
        rw [hg1, hg2, Bool.true_and, Bool.true_and, Int.toNat_natCast, eM])
      have hwgt : 0 ≤ t.wgt z ∧ t.wgt z ≤ 9 := by
        have hk := inB_iff.1 (show inB t.k 2 5 = true from hw)
        exact wgt_bd (by
          obtain ⟨q, a, b, d, u, v, x⟩ := t
          dsimp only at hk ⊢
          obtain rfl | rfl | rfl | rfl : q = 2 ∨ q = 3 ∨ q = 4 ∨ q = 5 := by omega
          · rw [ok_2] at hto; simp at hto; exact hto.2
          · rw [ok_3] at hto; simp at hto; exact hto.2
          · rw [ok_4] at hto; simp at hto; exact hto.2
          · rw [ok_5] at hto; simp at hto; exact hto.2) _
      have hU := Lib.hid hu
      have hT := Lib.hid ht
      have hW1 := Lib.hid hg1
      have hMc := Lib.hid (more_cells (t := t) hz2)
      have hcell : t.cells[4 + z]? = some (.int .i64 (t.wgt z)) := by
        obtain rfl | rfl | rfl : z = 0 ∨ z = 1 ∨ z = 2 := by omega
        all_goals (unfold St.wgt; rfl)
      generalize t.wgt z = y at hwgt hcell hMc
      rw [hg2] at cV
      have hwy : IntKind.i64.wrap (y + 1) = y + 1 := IntWalk.i64_in _ (by omega)
      have hk0 : (0 : Int) ≤ (k : Int) := by omega
      have hk1 : (k : Int) < (os.length : Int) := by omega
      have hv0 : (0 : Int) ≤ (z : Int) := by omega
      have hv1 : (z : Int) < 3 := by omega
      have hz3 : z < 3 := by omega
      clear hg1 hg2 hu hw hto hvb eM ht hOK hNL
      go_enter Try.func23, Try.ntmps23
      go_wp2_with fail
      refine (hC.out).mono ?_
      rw [hU.out]
      rintro e w1 ⟨u, rfl, hown, hb⟩
      have hown' : Own w1 w.heap.size u os := hown os rfl
      obtain ⟨A3, c3, hv, _, _⟩ := hown'.form
      subst hv
      have cW := Lib.hid (l12Weighs_any A3 os.length c3 os k w1 hown'.lst (by omega))
      rw [hW1.out] at cW
      have cC := Lib.hid (l1Copy_any A3 os.length c3 w.heap.size os w1 hown' (by omega))
      have hF := Lib.hid hb
      clear hown hown' hb
      go_wp2_with (first | (go_at_call 66; refine (cW.out).mono ?_; rintro e w' ⟨rfl, rfl⟩) | (go_at_call 67; refine (cV.out _).mono ?_; rintro e w' ⟨rfl, rfl⟩))
      refine (cC.out).mono ?_
      rintro e w2 ⟨u2, rfl, hown2, hb2⟩
      obtain ⟨A4, c4, hv2, _, _⟩ := owns_form hown2
      subst hv2
      obtain ⟨G, cur, rfl, hGb, hGH, h12, h13, h14, hGc⟩ := owns_open hown2 (by omega)
      have hat := (hGc (k * 7 + (4 + z)) (by omega)).trans (flat_at hT.out hcell)
      have hfz := hGH.frozen (k * 7 + (4 + z))
      have hs2 := hF.out.size
      have hO2 := Lib.hid (show (w2.setCell ⟨G, k * 7 + (4 + z), none⟩ (.int .i64 (y + 1))).ownsRow w.heap.size 78 7 _ os.length (flat (os.set k (t.more z))) from by
        rw [← flat_setS hT.out (by omega : 4 + z < 7) hMc.out]
        exact owns_setv (owns_le hown2 hs2) (by omega))
      have hB2 := Lib.hid ((hF.out.trans (hb2.mono hs2)).setCell (p := ⟨G, k * 7 + (4 + z), none⟩) (show w.heap.size ≤ G by omega) (.int .i64 (y + 1)))
      rw [show k * 7 + (4 + z) = k * 7 + 4 + z by omega] at hat hfz hO2 hB2
      clear hown2 hb2 hGb hGH h14 hGc hcell cW cC hs2
      go_wp2_with fail
      go_still_tail 14, (by kernel_rfl)
      repeat still_step
      try refine wpStill_nil ?_
      try change wpList _ _ _ _ _ w2.drew
      go_wp2_with fail
      generalize w2.setCell ⟨G, k * 7 + 4 + z, none⟩ (.int .i64 (y + 1)) = W2 at hO2 hB2 ⊢
      have cPk := Lib.hid (specProgramOk_any (some ⟨G, 0, none⟩) os.length c4 (os.set k (t.more z)) W2.drew (show Lst W2.drew W2.drew.heap.size (some ⟨G, 0, none⟩) os.length (os.set k (t.more z)) from (ownS_lst hO2.out).below ((Below.refl W2.heap.size W2).drew)) h12 h13 (by omega))
      clear hat hfz
      refine (cPk.out).mono ?_
      rintro e w5 ⟨rfl, hb5⟩
      have hO5 := Lib.hid (owns_but hO2.out (KeptBut.of_below ((Below.refl W2.heap.size W2).drew.trans hb5) (fun _ => False)) (fun _ _ h => h))
      have hB5 := Lib.hid (hB2.out.trans (((Below.refl W2.heap.size W2).drew.trans hb5).mono hB2.out.size))
      have hln : (os.set k (t.more (z : Int))).length = os.length := List.length_set
      have hLn := Lib.hid hln
      clear hb5 hO2 hB2 cPk hln
      generalize hri : (unrolled (os.set k (t.more (z : Int)))).isSome = r at hE1 hE2 ⊢
      cases r with
      | false =>
        go_wp2_with fail
        go_ret2
        exact ⟨.slice none 0 0, by rw [hE1.out]; rfl, by rw [hE2.out, if_neg (by decide)]; exact Own.nil _ _, hB5.out⟩
      | true =>
        go_wp2_with fail
        go_ret2
        refine ⟨.slice (some ⟨G, 0, none⟩) os.length c4, by rw [hE1.out]; rfl, ?_, hB5.out⟩
        rw [hE2.out, if_pos (by trivial)]
        unfold Own
        rw [hLn.out]
        exact hO5.out
end Go.Proofs.Ytbndonfpdioibaa
