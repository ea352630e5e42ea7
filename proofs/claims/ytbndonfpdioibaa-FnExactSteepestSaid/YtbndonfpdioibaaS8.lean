/- Which statement is asked for; one more of a weight: the program's weightsAt and WithMore. -/
import Derived.Test.YtbndonfpdioibaaS3
import Derived.Test.YtbndonfpdioibaaS7
namespace Go.Proofs.Ytbndonfpdioibaa
set_option maxRecDepth 100000
set_option linter.unusedVariables false
open Go.RowKit

def wOf (ps : List St) (a : Int) : Bool := match unrolled ps with
  | none => false
  | some os => wAt os a
def Wad (w : World) (ps : List St) (a : Int) (e : Ending) (w' : World) : Prop := ∃ v, e = .returned (.tuple #[v, .bool (wOf ps a)]) ∧ Own w' w.heap.size v ((unrolled ps).getD []) ∧ Below w.heap.size w w'
theorem wAt_out {os : List St} {a : Int} (h : inB a 0 ((os.length : Int) - 1) = false) : wAt os a = false := by
  unfold wAt
  rw [h, Bool.false_and]
set_option maxHeartbeats 2000000 in
theorem weightsAt_any (A : Option Addr) (n c : Nat) (ps : List St) (a : Int) (w : World) (h : Lst w w.heap.size A n ps) (hn : n ≤ c) (hc : c ≤ maxLen) :
    Calls Try.prog 70 #[.slice A n c, .int .i64 a] w (Wad w ps a) := by
  have hC := Lib.hid (Unrolled_any A n c ps w h hn hc)
  clear h hc
  cases hu : unrolled ps with
  | none =>
    have hU := Lib.hid hu
    have hR := Lib.hid (show wOf ps a = false by unfold wOf; rw [hu])
    clear hu
    go_enter Try.func70, Try.ntmps70
    go_wp2_with fail
    refine (hC.out).mono ?_
    rw [hU.out]
    rintro e w1 ⟨v, rfl, hown, hb⟩
    have hown' : Own w1 w.heap.size v [] := hown
    obtain ⟨A3, c3, hv, _, _⟩ := hown'.form
    subst hv
    have hF := Lib.hid (And.intro hown' hb)
    clear hown hown' hb
    go_wp2_with fail
    go_ret2
    exact ⟨_, by rw [hR.out]; rfl, by rw [hU.out]; exact hF.out.1, hF.out.2⟩
  | some os =>
    obtain ⟨_, hlen, _, hNL, hOK⟩ := unrolled_parts hu
    have hU := Lib.hid hu
    have hOk := Lib.hid hOK
    have hW := Lib.hid (show wOf ps a = wAt os a by unfold wOf; rw [hu])
    clear hu hNL hOK
    cases hin : inB a 0 ((os.length : Int) - 1)
    · have hR := Lib.hid (show wOf ps a = false by rw [hW.out, wAt_out hin])
      have cI := Lib.hid (fun wx => within_any a 0 ((os.length : Int) - 1) wx)
      rw [hin] at cI
      clear hin
      have hwl : IntKind.i64.wrap ((os.length : Int) - 1) = (os.length : Int) - 1 := IntWalk.i64_in _ (by omega)
      go_enter Try.func70, Try.ntmps70
      go_wp2_with fail
      refine (hC.out).mono ?_
      rw [hU.out]
      rintro e w1 ⟨v, rfl, hown, hb⟩
      have hown' : Own w1 w.heap.size v os := hown
      obtain ⟨A3, c3, hv, _, _⟩ := hown'.form
      subst hv
      have hF := Lib.hid (And.intro hown' hb)
      clear hown hown' hb
      go_wp2_with (first | (go_at_call 95; refine (cI.out _).mono ?_; rintro e w' ⟨rfl, rfl⟩))
      go_ret2
      exact ⟨_, by rw [hR.out]; rfl, by rw [hU.out]; exact hF.out.1, hF.out.2⟩
    · have hab := inB_iff.1 hin
      obtain ⟨k, rfl⟩ : ∃ k : Nat, a = (k : Int) := ⟨a.toNat, by omega⟩
      obtain ⟨s, hs⟩ : ∃ s, os[k]? = some s := ⟨_, List.getElem?_eq_getElem (by omega)⟩
      have hR := Lib.hid (show wOf ps (k : Int) = s.hasW by
        rw [hW.out]
        unfold wAt
        rw [hin, Int.toNat_natCast, hs]
        rfl)
      have hso := List.all_eq_true.1 hOk.out s (List.mem_of_getElem? hs)
      have cH := Lib.hid (show ∀ wx, Calls Try.prog 82 #[.agg #[.int .i64 s.k, .int .i64 s.a, .int .i64 s.b, .int .i64 s.c, .int .i64 s.u, .int .i64 s.v, .int .i64 s.x]] wx fun e w' => e = .returned (.bool s.hasW) ∧ Below wx.heap.size wx w' from fun wx => hasWeights_any s wx hso)
      have cI := Lib.hid (fun wx => within_any (k : Int) 0 ((os.length : Int) - 1) wx)
      rw [hin] at cI
      have hS := Lib.hid hs
      clear hin hs hso
      have hwl : IntKind.i64.wrap ((os.length : Int) - 1) = (os.length : Int) - 1 := IntWalk.i64_in _ (by omega)
      have hk0 : (0 : Int) ≤ (k : Int) := by omega
      have hk1 : (k : Int) < (os.length : Int) := by omega
      have hk2 : k < os.length := by omega
      go_enter Try.func70, Try.ntmps70
      go_wp2_with fail
      refine (hC.out).mono ?_
      rw [hU.out]
      rintro e w1 ⟨v, rfl, hown, hb⟩
      have hown' : Own w1 w.heap.size v os := hown
      obtain ⟨A3, c3, hv, _, _⟩ := hown'.form
      subst hv
      obtain ⟨gs, off, s', rfl, hgs, hs', hat⟩ := hown'.lst.at_ hk2
      obtain rfl : s' = s := Option.some.inj (hs'.symm.trans hS.out)
      obtain ⟨c0, c1, c2, c3', c4, c5, c6⟩ := hat.open_
      have hF := Lib.hid (And.intro hown' hb)
      clear hown hown' hb hat hs' hgs hab
      generalize hln : os.length = ln at *
      have hLn := Lib.hid hln
      clear hln
      generalize s'.hasW = hw at cH hR
      go_wp2_with (first | (go_at_call 95; refine (cI.out _).mono ?_; rintro e w' ⟨rfl, rfl⟩) | (go_at_call 82; refine (cH.out _).mono ?_; rintro e w3 ⟨rfl, hb3⟩; have hb3h := Lib.hid hb3; clear hb3))
      go_ret2
      refine ⟨_, by rw [hR.out]; rfl, ?_, hF.out.2.trans (hb3h.out.mono hF.out.2.size)⟩
      rw [hU.out]
      have h9 := hF.out.1
      show Own _ _ _ os
      unfold Own at h9 ⊢
      rw [hLn.out] at h9 ⊢
      exact owns_but h9 (KeptBut.of_below hb3h.out (fun _ => False)) (fun _ _ h => h)

theorem flat_setS : ∀ {os : List St} {i r : Nat} {s s' : St} {u : Value}, os[i]? = some s → r < 7 → s'.cells = s.cells.set r u → (flat os).set (i * 7 + r) u = flat (os.set i s')
  | [], i, r, s, s', u, h, _, _ => by simp at h
  | q :: qs, 0, r, s, s', u, h, hr, hc => by
    have hq : q = s := by simpa using h
    subst hq
    show (q.cells ++ flat qs).set (0 * 7 + r) u = s'.cells ++ flat qs
    rw [List.set_append_left _ _ (by show 0 * 7 + r < 7; omega), hc, Nat.zero_mul, Nat.zero_add]
  | q :: qs, i + 1, r, s, s', u, h, hr, hc => by
    show (q.cells ++ flat qs).set ((i + 1) * 7 + r) u = q.cells ++ flat (qs.set i s')
    have hl : q.cells.length = 7 := rfl
    rw [List.set_append_right _ _ (by rw [hl]; omega), hl, show (i + 1) * 7 + r - 7 = i * 7 + r by omega, flat_setS (by simpa using h) hr hc]
/-- How a program with one more of a weight is told. -/
def Mrd (w : World) (ps : List St) (a v : Int) (e : Ending) (w' : World) : Prop := ∃ u, e = .returned (.tuple #[u, .bool (moreOk ps a v)]) ∧ Own w' w.heap.size u (moreOf ps a v) ∧ Below w.heap.size w w'
theorem more_no {ps : List St} {a v : Int} (h : (wOf ps a && inB v 0 2) = false) : moreOk ps a v = false ∧ moreOf ps a v = [] := by
  unfold wOf at h
  unfold moreOk moreOf
  cases hu : unrolled ps with
  | none => exact ⟨rfl, rfl⟩
  | some os =>
    rw [hu] at h
    dsimp only at h ⊢
    rw [h, Bool.false_and, if_neg (by decide)]
    exact ⟨rfl, rfl⟩
theorem w_parts {ps : List St} {a : Int} (h : wOf ps a = true) : ∃ os k t, unrolled ps = some os ∧ a = ((k : Nat) : Int) ∧ os[k]? = some t ∧ t.hasW = true ∧ t.ok = true ∧ wAt os a = true := by
  unfold wOf at h
  cases hu : unrolled ps with
  | none => rw [hu] at h; cases h
  | some os =>
    rw [hu] at h
    dsimp only at h
    obtain ⟨k, t, rfl, h1, h2⟩ := wAt_iff.1 h
    obtain ⟨_, _, _, _, hok⟩ := unrolled_parts hu
    exact ⟨os, k, t, rfl, rfl, h1, h2, List.all_eq_true.1 hok t (List.mem_of_getElem? h1), h⟩
theorem more_cells {t : St} {v : Nat} (hv : v ≤ 2) : (t.more (v : Int)).cells = t.cells.set (4 + v) (.int .i64 (t.wgt v + 1)) := by
  obtain rfl | rfl | rfl : v = 0 ∨ v = 1 ∨ v = 2 := by omega
  all_goals (unfold St.more St.wgt; rfl)
set_option maxHeartbeats 2000000 in
theorem WithMore_any (A : Option Addr) (n c : Nat) (ps : List St) (a v : Int) (w : World) (h : Lst w w.heap.size A n ps) (hn : n ≤ c) (hc : c ≤ maxLen) :
    Calls Try.prog 24 #[.slice A n c, .int .i64 a, .int .i64 v] w (Mrd w ps a v) := by
  have hC := Lib.hid (weightsAt_any A n c ps a w h hn hc)
  have cV := Lib.hid (fun wx => valueOk_any v wx)
  clear h hc
  cases hg : (wOf ps a && inB v 0 2)
  · obtain ⟨e1, e2⟩ := more_no hg
    have hE := Lib.hid (And.intro e1 e2)
    clear e1 e2
    generalize hwo : wOf ps a = b1 at hg
    have hWo := Lib.hid hwo
    generalize inB v 0 2 = b2 at hg cV
    clear hwo
    go_enter Try.func24, Try.ntmps24
    go_wp2_with fail
    refine (hC.out).mono ?_
    rintro e w1 ⟨u, rfl, hown, hb⟩
    rw [hWo.out]
    obtain ⟨A3, c3, hv, _, _⟩ := hown.form
    subst hv
    have hF := Lib.hid hb
    clear hown hb
    cases b1 with
    | false =>
      clear hg
      go_wp2_with (first | (go_at_call 71; refine (cV.out _).mono ?_; rintro e w' ⟨rfl, rfl⟩))
      go_ret2
      exact ⟨.slice none 0 0, by rw [hE.out.1]; rfl, by rw [hE.out.2]; exact Own.nil _ _, hF.out⟩
    | true =>
      have hb2 : b2 = false := by simpa using hg
      rw [hb2] at cV
      clear hg hb2
      go_wp2_with (first | (go_at_call 71; refine (cV.out _).mono ?_; rintro e w' ⟨rfl, rfl⟩))
      go_ret2
      exact ⟨.slice none 0 0, by rw [hE.out.1]; rfl, by rw [hE.out.2]; exact Own.nil _ _, hF.out⟩
  · rw [Bool.and_eq_true] at hg
    obtain ⟨hg1, hg2⟩ := hg
    obtain ⟨os, k, t, hu, rfl, ht, hw, hto, hwa⟩ := w_parts hg1
    have hvb := inB_iff.1 hg2
    obtain ⟨z, rfl⟩ : ∃ z : Nat, v = (z : Int) := ⟨v.toNat, by omega⟩
    have hz2 : z ≤ 2 := by omega
    obtain ⟨_, hlen, _, _, _⟩ := unrolled_parts hu
    have hkl := (List.getElem?_eq_some_iff.1 ht).1
    have eM : moreL os k (z : Int) = os.set k (t.more z) := by unfold moreL; rw [ht]
    have hE1 := Lib.hid (show moreOk ps (k : Int) (z : Int) = (unrolled (os.set k (t.more z))).isSome by
      unfold moreOk
      rw [hu]
      dsimp only
      rw [hwa, hg2, Bool.true_and, Bool.true_and, Int.toNat_natCast, eM])
    have hE2 := Lib.hid (show moreOf ps (k : Int) (z : Int) = if (unrolled (os.set k (t.more z))).isSome = true then os.set k (t.more z) else [] by
      unfold moreOf
      rw [hu]
      dsimp only
      rw [hwa, hg2, Bool.true_and, Bool.true_and, Int.toNat_natCast, eM])
    have hfb := hasW_nn hto hw
    have hwgt : 0 ≤ t.wgt z ∧ t.wgt z ≤ 9 := by
      have hk := inB_iff.1 hw
      exact wgt_bd (by
        obtain ⟨q, a, b, d, u, v, x⟩ := t
        dsimp only at hk ⊢
        obtain rfl | rfl | rfl | rfl : q = 2 ∨ q = 3 ∨ q = 4 ∨ q = 5 := by omega
        · rw [ok_2] at hto; simp at hto; exact hto.2
        · rw [ok_3] at hto; simp at hto; exact hto.2
        · rw [ok_4] at hto; simp at hto; exact hto.2
        · rw [ok_5] at hto; simp at hto; exact hto.2) _
    have hW1 := Lib.hid hg1
    have hU := Lib.hid hu
    have hT := Lib.hid ht
    have hMc := Lib.hid (more_cells (t := t) hz2)
    have hcell : t.cells[4 + z]? = some (.int .i64 (t.wgt z)) := by
      obtain rfl | rfl | rfl : z = 0 ∨ z = 1 ∨ z = 2 := by omega
      all_goals (unfold St.wgt; rfl)
    generalize t.wgt z = y at hwgt hcell hMc
    rw [hg2] at cV
    have hwy : IntKind.i64.wrap (y + 1) = y + 1 := IntWalk.i64_in _ (by omega)
    have hk0 : (0 : Int) ≤ (k : Int) := by omega
    have hk1 : (k : Int) < (os.length : Int) := by omega
    have hv0 : (0 : Int) ≤ (z : Int) := by omega
    have hv1 : (z : Int) < 3 := by omega
    have hz3 : z < 3 := by omega
    clear hfb hg1 hg2 hu hw hto hwa hvb eM ht
    go_enter Try.func24, Try.ntmps24
    go_wp2_with fail
    refine (hC.out).mono ?_
    rintro e w1 ⟨u, rfl, hown, hb⟩
    rw [hW1.out]
    have hown' : w1.ownsRow w.heap.size 78 7 u os.length (flat os) := by
      have h9 := hown
      rw [hU.out] at h9
      exact h9
    obtain ⟨A3, c3, hv, _, _⟩ := owns_form hown'
    subst hv
    obtain ⟨G, cur, rfl, hGb, hGH, h12, h13, h14, hGc⟩ := owns_open hown' (by omega)
    have hat := (hGc (k * 7 + (4 + z)) (by omega)).trans (flat_at hT.out hcell)
    have hfz := hGH.frozen (k * 7 + (4 + z))
    have hO2 := Lib.hid (show (w1.setCell ⟨G, k * 7 + (4 + z), none⟩ (.int .i64 (y + 1))).ownsRow w.heap.size 78 7 _ os.length (flat (os.set k (t.more z))) from by
      rw [← flat_setS hT.out (by omega : 4 + z < 7) hMc.out]
      exact owns_setv hown' (by omega))
    have hB2 := Lib.hid (hb.setCell (p := ⟨G, k * 7 + (4 + z), none⟩) hGb (.int .i64 (y + 1)))
    rw [show k * 7 + (4 + z) = k * 7 + 4 + z by omega] at hat hfz hO2 hB2
    clear hown hown' hb hGb hGH h14 hGc hcell
    go_wp2_with fail
    refine (cV.out _).mono ?_
    rintro e w' ⟨rfl, rfl⟩
    go_wp2_with fail
    go_still_tail 11, (by kernel_rfl)
    repeat still_step
    try refine wpStill_nil ?_
    try change wpList _ _ _ _ _ w1.drew
    go_wp2_with fail
    generalize w1.setCell ⟨G, k * 7 + 4 + z, none⟩ (.int .i64 (y + 1)) = W2 at hO2 hB2 ⊢
    have cPk := Lib.hid (ProgramOk_any (some ⟨G, 0, none⟩) os.length c3 (os.set k (t.more z)) W2.drew (show Lst W2.drew W2.drew.heap.size (some ⟨G, 0, none⟩) os.length (os.set k (t.more z)) from (ownS_lst hO2.out).below ((Below.refl W2.heap.size W2).drew)) h12 h13)
    clear hat hfz
    refine (cPk.out).mono ?_
    rintro e w5 ⟨rfl, hb5⟩
    have hO5 := Lib.hid (owns_but hO2.out (KeptBut.of_below ((Below.refl W2.heap.size W2).drew.trans hb5) (fun _ => False)) (fun _ _ h => h))
    have hB5 := Lib.hid (hB2.out.trans (((Below.refl W2.heap.size W2).drew.trans hb5).mono hB2.out.size))
    have hln : (os.set k (t.more (z : Int))).length = os.length := List.length_set
    have hLn := Lib.hid hln
    clear hb5 hO2 hB2 cPk hln
    generalize hri : (unrolled (os.set k (t.more (z : Int)))).isSome = r at hE1 hE2 ⊢
    cases r with
    | false =>
      go_wp2_with fail
      go_ret2
      exact ⟨.slice none 0 0, by rw [hE1.out]; rfl, by rw [hE2.out, if_neg (by decide)]; exact Own.nil _ _, hB5.out⟩
    | true =>
      go_wp2_with fail
      go_ret2
      refine ⟨.slice (some ⟨G, 0, none⟩) os.length c3, by rw [hE1.out]; rfl, ?_, hB5.out⟩
      rw [hE2.out, if_pos (by trivial)]
      unfold Own
      rw [hLn.out]
      exact hO5.out
end Go.Proofs.Ytbndonfpdioibaa
