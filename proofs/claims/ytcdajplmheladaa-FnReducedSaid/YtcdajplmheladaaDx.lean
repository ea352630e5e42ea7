/- Lists of numbers that are drawn: l4Draw, DrawReduced, DrawFractionOf. -/
import Derived.Test.YtcdajplmheladaaDw
import Derived.Test.YtcdajplmheladaaMdf
import Derived.Test.YtcdajplmheladaaAa
namespace Go.Proofs.Ytcdajplmheladaa
set_option maxRecDepth 100000
set_option linter.unusedVariables false
open Go.RowKit

/-- How drawing numbers ends. -/
def Nmd (w : World) (e : Ending) (w' : World) : Prop := ∃ (v : Value) (ds : List Int), e = .returned v ∧ IOwn w' w.heap.size v ds ∧ ds.length ≤ 82 ∧ Below w.heap.size w w'
theorem weights_81 (ps : List St) : (weightsFrom ps 0).length = 0 ∨ (weightsFrom ps 0).length = 81 := by
  unfold weightsFrom
  cases unrolled ps with
  | none => exact .inl rfl
  | some os => exact .inr (wts_length os 0)

set_option maxHeartbeats 400000 in
theorem l4Draw_any (A : Option Addr) (n c p : Nat) (w w0 : World) (h : Rdr w w0.heap.size w0.heap.size A n c p) (hp : p ≤ 700000) (hn : n ≤ 2000) (hw : Below w0.heap.size w0 w) :
    Calls Try.prog 80 #[.pointer (some ⟨w0.heap.size, 0, none⟩)] w (Nmd w0) := by
  have hlt := h.lt
  obtain ⟨i0, hi0, hz0, hz1', hz2'⟩ := info_parts info_int
  go_enter Try.func80, Try.ntmps80
  go_wp2_with fail
  refine (l1Draw_any _ A n c p _ 4 _ h (by omega) hn (by omega)).mono ?_
  rintro e w1 ⟨v, os, p1, rfl, hown, hl1, hl10, hp1, hr1, hc1⟩
  obtain ⟨A', c', hv, hlc, hcm⟩ := hown.form
  subst hv
  have hL1 := Lib.hid hown.lst
  have hB1 := Lib.hid (hw.trans (hc1.below (Nat.le_refl _) (by omega)))
  have hlt1 := hr1.lt
  have hz1 := hB1.out.size
  clear hown hc1
  go_wp2_with fail
  refine (specWeightsOf_any A' os.length c' os _ hL1.out hlc hcm (by omega)).mono ?_
  rintro e w2 ⟨v2, rfl, hI2, hb2⟩
  obtain ⟨A2, c2, hv, _, hcm2⟩ := hI2.form
  subst hv
  have hr2 := hr1.below hb2 hlt1
  have hB2 := Lib.hid (hB1.out.trans (hb2.mono hz1))
  have hI2' := Lib.hid (owns_le (show w2.ownsRow w1.heap.size 3 1 (.slice A2 (weightsFrom os 0).length c2) (weightsFrom os 0).length (ints (weightsFrom os 0)) from hI2) (show w0.heap.size + 1 ≤ w1.heap.size by omega))
  have hlt2 := hr2.lt
  clear hI2 hb2 hr1
  rcases weights_81 os with hl | hl
  · rw [hl]
    go_wp2_with fail
    refine (l3Some_any w0.heap.size A n c (p1) _ hr2 (by omega) hn).mono ?_
    rintro e w4 ⟨o, es, p4, rfl, hI4, hl4, hp4, hr4, hc4⟩
    have hI4' : w4.ownsRow (w0.heap.size + 1) 3 1 o 81 (ints es) := by
      have := owns_le hI4 (show w0.heap.size + 1 ≤ w2.heap.size by omega)
      rwa [hl4] at this
    have hB4 := Lib.hid (hB2.out.trans (hc4.below (Nat.le_refl _) (by omega)))
    obtain ⟨A4, c4, rfl, _, hcm4⟩ := owns_form hI4'
    have hI4h := Lib.hid hI4'
    clear hI4 hI4' hc4
    go_wp2_with fail
    refine (pick_any w0.heap.size A n c (p4) w0.heap.size 30 _ hr4 (by omega) hn (by decide)).mono ?_
    rintro e w6 ⟨k, rfl, hk0, hk1, hr6, hc6⟩
    have hzx := hB4.out.size
    have hI6 := Lib.hid (owns_chg hI4h.out hc6 (Nat.lt_succ_self _))
    have hB6 := Lib.hid (hB4.out.trans (hc6.below (Nat.le_refl _) (by omega)))
    have hz6 := hr6.lt
    clear hr6 hc6
    obtain ⟨G, cur, hGe, hwb, hH, _, hcmx, _, hcl⟩ := owns_open hI6.out (by decide)
    subst hGe
    have hfin := Lib.hid (show ∀ (u : Value) (es : List Int) (wz : World), IOwn wz (w0.heap.size + 1) u es → es.length ≤ 82 → Below w0.heap.size w0 wz → Nmd w0 (.returned u) wz from
      fun u es wz q2 q3 q4 => ⟨u, es, rfl, owns_le q2 (Nat.le_succ _), q3, q4⟩)
    by_cases e0 : k = 0
    · subst e0
      have hc1 := hcl 3 (by omega)
      rw [ints_get (d := es[3]'(by omega)) (List.getElem?_eq_getElem (by omega))] at hc1
      generalize es[3]'(by omega) = d0 at hc1
      have hfz := hH.frozen 3
      have hs7 := owns_set (x := -1) hI6.out (show 3 < 81 by decide)
      have hI7 := Lib.hid (show IOwn (w6.setCell ⟨G, 3, none⟩ (.int .i64 (-1))) (w0.heap.size + 1) (.slice (some ⟨G, 0, none⟩) 81 c4) (es.set 3 (-1)) from by
        unfold IOwn
        rw [List.length_set, hl4]
        exact hs7)
      have hB7 := Lib.hid (hB6.out.setCell (p := ⟨G, 3, none⟩) (by show w0.heap.size ≤ G; omega) (.int .i64 (-1)))
      clear hcl hs7 hH
      go_wp2_with fail
      go_ret
      exact hfin.out _ _ _ hI7.out (by rw [List.length_set]; omega) hB7.out
    · by_cases e1 : k = 1
      · subst e1
        have hI7 := Lib.hid (show IOwn w6 (w0.heap.size + 1) (.slice (some ⟨G, 0, none⟩) 81 c4) es from by
          unfold IOwn
          rw [hl4]
          exact hI6.out)
        have hO5 := Lib.hid (hI7.out.alloc (.cells #[.int .i64 1] 3))
        have hnw := Lib.hid (new_one w6 (.int .i64 1) 3)
        have hB5 := Lib.hid ((Below.refl (w0.heap.size + 1) w6).alloc (by omega) (.cells #[.int .i64 1] 3))
        clear hcl hH
        go_wp2_with (at_builtin; refine wpList_append_lies _ rfl (.tmp 28) (.tmp 29) 23 rfl (w0.heap.size + 1) 3 i0 _ 1 8 Try.underlying23 hi0 hz0 hz1' hz2' rfl (by decide) (.slice (some ⟨G, 0, none⟩) 81 c4) 81 (ints es) rfl (by have := hO5.out; unfold IOwn at this; rwa [hl4] at this) ⟨w6.heap.size, 0, none⟩ 1 1 [.int .i64 1] rfl rfl (by exact hnw.out) (by simp [Value.oneCell']) (by omega) (by unfold maxLen; omega) (by omega) (by simp; omega) (w6.heap.size + 1) (by simp) ?_; intro gr cr2 w7 hown7 hgrow7 hat7 hlt7)
        have hF := IOwn.append_ (news := [(1 : Int)]) hO5.out (by rw [hl4]; exact hown7) hgrow7 hB5.out (by simp; omega)
        have hF1 := Lib.hid hF.1
        have hB8 := Lib.hid (hB6.out.trans (hF.2.mono (Nat.le_succ _)))
        clear hown7 hgrow7 hat7 hF
        go_wp2_with fail
        go_ret
        exact hfin.out _ _ _ hF1.out (by rw [List.length_append]; show es.length + 1 ≤ 82; omega) hB8.out
      · by_cases e2 : k = 2
        · subst e2
          have hc1 := hcl 5 (by omega)
          rw [ints_get (d := es[5]'(by omega)) (List.getElem?_eq_getElem (by omega))] at hc1
          generalize es[5]'(by omega) = d0 at hc1
          have hfz := hH.frozen 5
          have hs7 := owns_set (x := 1000000001) hI6.out (show 5 < 81 by decide)
          have hI7 := Lib.hid (show IOwn (w6.setCell ⟨G, 5, none⟩ (.int .i64 1000000001)) (w0.heap.size + 1) (.slice (some ⟨G, 0, none⟩) 81 c4) (es.set 5 1000000001) from by
            unfold IOwn
            rw [List.length_set, hl4]
            exact hs7)
          have hB7 := Lib.hid (hB6.out.setCell (p := ⟨G, 5, none⟩) (by show w0.heap.size ≤ G; omega) (.int .i64 1000000001))
          clear hcl hs7 hH
          go_wp2_with fail
          go_ret
          exact hfin.out _ _ _ hI7.out (by rw [List.length_set]; omega) hB7.out
        · have g0 : (k == 0) = false := by simpa using e0
          have g1 : (k == 1) = false := by simpa using e1
          have g2 : (k == 2) = false := by simpa using e2
          have hI7 := Lib.hid (show IOwn w6 (w0.heap.size + 1) (.slice (some ⟨G, 0, none⟩) 81 c4) es from by
            unfold IOwn
            rw [hl4]
            exact hI6.out)
          clear hcl hH e0 e1 e2
          go_wp2_with fail
          go_ret
          exact hfin.out _ _ _ hI7.out (by omega) hB6.out
  · have hI81 := Lib.hid (show w2.ownsRow (w0.heap.size + 1) 3 1 (.slice A2 81 c2) 81 (ints (weightsFrom os 0)) from by
      have := hI2'.out
      rwa [hl] at this)
    rw [hl]
    generalize weightsFrom os 0 = ws at hI81 hl
    have hzz := hB2.out.size
    go_wp2_with fail
    refine (pick_any w0.heap.size A n c p1 w0.heap.size 4 _ hr2 (by omega) hn (by decide)).mono ?_
    rintro e w3 ⟨y, rfl, hy0, hy1, hr3, hc3⟩
    by_cases hyz : y = 0
    · have hI3 := Lib.hid (owns_chg hI81.out hc3 (Nat.lt_succ_self _))
      have hB3 := Lib.hid (hB2.out.trans (hc3.below (Nat.le_refl _) (by omega)))
      have hz3 := hr3.lt
      clear hc3
      subst hyz
      go_wp2_with fail
      refine (l3Some_any w0.heap.size A n c (p1 + 1) _ hr3 (by omega) hn).mono ?_
      rintro e w4 ⟨o, es, p4, rfl, hI4, hl4, hp4, hr4, hc4⟩
      have hI4' : w4.ownsRow (w0.heap.size + 1) 3 1 o 81 (ints es) := by
        have := owns_le hI4 (show w0.heap.size + 1 ≤ w3.heap.size by omega)
        rwa [hl4] at this
      have hB4 := Lib.hid (hB3.out.trans (hc4.below (Nat.le_refl _) (by omega)))
      obtain ⟨A4, c4, rfl, _, hcm4⟩ := owns_form hI4'
      have hI4h := Lib.hid hI4'
      clear hI4 hI4' hc4
      go_wp2_with fail
      refine (pick_any w0.heap.size A n c (p4) w0.heap.size 30 _ hr4 (by omega) hn (by decide)).mono ?_
      rintro e w6 ⟨k, rfl, hk0, hk1, hr6, hc6⟩
      have hzx := hB4.out.size
      have hI6 := Lib.hid (owns_chg hI4h.out hc6 (Nat.lt_succ_self _))
      have hB6 := Lib.hid (hB4.out.trans (hc6.below (Nat.le_refl _) (by omega)))
      have hz6 := hr6.lt
      clear hr6 hc6
      obtain ⟨G, cur, hGe, hwb, hH, _, hcmx, _, hcl⟩ := owns_open hI6.out (by decide)
      subst hGe
      have hfin := Lib.hid (show ∀ (u : Value) (es : List Int) (wz : World), IOwn wz (w0.heap.size + 1) u es → es.length ≤ 82 → Below w0.heap.size w0 wz → Nmd w0 (.returned u) wz from
        fun u es wz q2 q3 q4 => ⟨u, es, rfl, owns_le q2 (Nat.le_succ _), q3, q4⟩)
      by_cases e0 : k = 0
      · subst e0
        have hc1 := hcl 3 (by omega)
        rw [ints_get (d := es[3]'(by omega)) (List.getElem?_eq_getElem (by omega))] at hc1
        generalize es[3]'(by omega) = d0 at hc1
        have hfz := hH.frozen 3
        have hs7 := owns_set (x := -1) hI6.out (show 3 < 81 by decide)
        have hI7 := Lib.hid (show IOwn (w6.setCell ⟨G, 3, none⟩ (.int .i64 (-1))) (w0.heap.size + 1) (.slice (some ⟨G, 0, none⟩) 81 c4) (es.set 3 (-1)) from by
          unfold IOwn
          rw [List.length_set, hl4]
          exact hs7)
        have hB7 := Lib.hid (hB6.out.setCell (p := ⟨G, 3, none⟩) (by show w0.heap.size ≤ G; omega) (.int .i64 (-1)))
        clear hcl hs7 hH
        go_wp2_with fail
        go_ret
        exact hfin.out _ _ _ hI7.out (by rw [List.length_set]; omega) hB7.out
      · by_cases e1 : k = 1
        · subst e1
          have hI7 := Lib.hid (show IOwn w6 (w0.heap.size + 1) (.slice (some ⟨G, 0, none⟩) 81 c4) es from by
            unfold IOwn
            rw [hl4]
            exact hI6.out)
          have hO5 := Lib.hid (hI7.out.alloc (.cells #[.int .i64 1] 3))
          have hnw := Lib.hid (new_one w6 (.int .i64 1) 3)
          have hB5 := Lib.hid ((Below.refl (w0.heap.size + 1) w6).alloc (by omega) (.cells #[.int .i64 1] 3))
          clear hcl hH
          go_wp2_with (at_builtin; refine wpList_append_lies _ rfl (.tmp 28) (.tmp 29) 23 rfl (w0.heap.size + 1) 3 i0 _ 1 8 Try.underlying23 hi0 hz0 hz1' hz2' rfl (by decide) (.slice (some ⟨G, 0, none⟩) 81 c4) 81 (ints es) rfl (by have := hO5.out; unfold IOwn at this; rwa [hl4] at this) ⟨w6.heap.size, 0, none⟩ 1 1 [.int .i64 1] rfl rfl (by exact hnw.out) (by simp [Value.oneCell']) (by omega) (by unfold maxLen; omega) (by omega) (by simp; omega) (w6.heap.size + 1) (by simp) ?_; intro gr cr2 w7 hown7 hgrow7 hat7 hlt7)
          have hF := IOwn.append_ (news := [(1 : Int)]) hO5.out (by rw [hl4]; exact hown7) hgrow7 hB5.out (by simp; omega)
          have hF1 := Lib.hid hF.1
          have hB8 := Lib.hid (hB6.out.trans (hF.2.mono (Nat.le_succ _)))
          clear hown7 hgrow7 hat7 hF
          go_wp2_with fail
          go_ret
          exact hfin.out _ _ _ hF1.out (by rw [List.length_append]; show es.length + 1 ≤ 82; omega) hB8.out
        · by_cases e2 : k = 2
          · subst e2
            have hc1 := hcl 5 (by omega)
            rw [ints_get (d := es[5]'(by omega)) (List.getElem?_eq_getElem (by omega))] at hc1
            generalize es[5]'(by omega) = d0 at hc1
            have hfz := hH.frozen 5
            have hs7 := owns_set (x := 1000000001) hI6.out (show 5 < 81 by decide)
            have hI7 := Lib.hid (show IOwn (w6.setCell ⟨G, 5, none⟩ (.int .i64 1000000001)) (w0.heap.size + 1) (.slice (some ⟨G, 0, none⟩) 81 c4) (es.set 5 1000000001) from by
              unfold IOwn
              rw [List.length_set, hl4]
              exact hs7)
            have hB7 := Lib.hid (hB6.out.setCell (p := ⟨G, 5, none⟩) (by show w0.heap.size ≤ G; omega) (.int .i64 1000000001))
            clear hcl hs7 hH
            go_wp2_with fail
            go_ret
            exact hfin.out _ _ _ hI7.out (by rw [List.length_set]; omega) hB7.out
          · have g0 : (k == 0) = false := by simpa using e0
            have g1 : (k == 1) = false := by simpa using e1
            have g2 : (k == 2) = false := by simpa using e2
            have hI7 := Lib.hid (show IOwn w6 (w0.heap.size + 1) (.slice (some ⟨G, 0, none⟩) 81 c4) es from by
              unfold IOwn
              rw [hl4]
              exact hI6.out)
            clear hcl hH e0 e1 e2
            go_wp2_with fail
            go_ret
            exact hfin.out _ _ _ hI7.out (by omega) hB6.out
    · have hI3 := Lib.hid (owns_chg hI81.out hc3 (Nat.lt_succ_self _))
      have hB3 := Lib.hid (hB2.out.trans (hc3.below (Nat.le_refl _) (by omega)))
      have hyf : (y == 0) = false := by simpa using hyz
      clear hc3
      go_wp2_with fail
      refine (pick_any w0.heap.size A n c (p1 + 1) w0.heap.size 30 _ hr3 (by omega) hn (by decide)).mono ?_
      rintro e w6 ⟨k, rfl, hk0, hk1, hr6, hc6⟩
      have hzx := hB3.out.size
      have hI6 := Lib.hid (owns_chg hI3.out hc6 (Nat.lt_succ_self _))
      have hB6 := Lib.hid (hB3.out.trans (hc6.below (Nat.le_refl _) (by omega)))
      have hz6 := hr6.lt
      clear hr6 hc6
      obtain ⟨G, cur, hGe, hwb, hH, _, hcmx, _, hcl⟩ := owns_open hI6.out (by decide)
      subst hGe
      have hfin := Lib.hid (show ∀ (u : Value) (es : List Int) (wz : World), IOwn wz (w0.heap.size + 1) u es → es.length ≤ 82 → Below w0.heap.size w0 wz → Nmd w0 (.returned u) wz from
        fun u es wz q2 q3 q4 => ⟨u, es, rfl, owns_le q2 (Nat.le_succ _), q3, q4⟩)
      by_cases e0 : k = 0
      · subst e0
        have hc1 := hcl 3 (by omega)
        rw [ints_get (d := ws[3]'(by omega)) (List.getElem?_eq_getElem (by omega))] at hc1
        generalize ws[3]'(by omega) = d0 at hc1
        have hfz := hH.frozen 3
        have hs7 := owns_set (x := -1) hI6.out (show 3 < 81 by decide)
        have hI7 := Lib.hid (show IOwn (w6.setCell ⟨G, 3, none⟩ (.int .i64 (-1))) (w0.heap.size + 1) (.slice (some ⟨G, 0, none⟩) 81 c2) (ws.set 3 (-1)) from by
          unfold IOwn
          rw [List.length_set, hl]
          exact hs7)
        have hB7 := Lib.hid (hB6.out.setCell (p := ⟨G, 3, none⟩) (by show w0.heap.size ≤ G; omega) (.int .i64 (-1)))
        clear hcl hs7 hH
        go_wp2_with fail
        go_ret
        exact hfin.out _ _ _ hI7.out (by rw [List.length_set]; omega) hB7.out
      · by_cases e1 : k = 1
        · subst e1
          have hI7 := Lib.hid (show IOwn w6 (w0.heap.size + 1) (.slice (some ⟨G, 0, none⟩) 81 c2) ws from by
            unfold IOwn
            rw [hl]
            exact hI6.out)
          have hO5 := Lib.hid (hI7.out.alloc (.cells #[.int .i64 1] 3))
          have hnw := Lib.hid (new_one w6 (.int .i64 1) 3)
          have hB5 := Lib.hid ((Below.refl (w0.heap.size + 1) w6).alloc (by omega) (.cells #[.int .i64 1] 3))
          clear hcl hH
          go_wp2_with (at_builtin; refine wpList_append_lies _ rfl (.tmp 28) (.tmp 29) 23 rfl (w0.heap.size + 1) 3 i0 _ 1 8 Try.underlying23 hi0 hz0 hz1' hz2' rfl (by decide) (.slice (some ⟨G, 0, none⟩) 81 c2) 81 (ints ws) rfl (by have := hO5.out; unfold IOwn at this; rwa [hl] at this) ⟨w6.heap.size, 0, none⟩ 1 1 [.int .i64 1] rfl rfl (by exact hnw.out) (by simp [Value.oneCell']) (by omega) (by unfold maxLen; omega) (by omega) (by simp; omega) (w6.heap.size + 1) (by simp) ?_; intro gr cr2 w7 hown7 hgrow7 hat7 hlt7)
          have hF := IOwn.append_ (news := [(1 : Int)]) hO5.out (by rw [hl]; exact hown7) hgrow7 hB5.out (by simp; omega)
          have hF1 := Lib.hid hF.1
          have hB8 := Lib.hid (hB6.out.trans (hF.2.mono (Nat.le_succ _)))
          clear hown7 hgrow7 hat7 hF
          go_wp2_with fail
          go_ret
          exact hfin.out _ _ _ hF1.out (by rw [List.length_append]; show ws.length + 1 ≤ 82; omega) hB8.out
        · by_cases e2 : k = 2
          · subst e2
            have hc1 := hcl 5 (by omega)
            rw [ints_get (d := ws[5]'(by omega)) (List.getElem?_eq_getElem (by omega))] at hc1
            generalize ws[5]'(by omega) = d0 at hc1
            have hfz := hH.frozen 5
            have hs7 := owns_set (x := 1000000001) hI6.out (show 5 < 81 by decide)
            have hI7 := Lib.hid (show IOwn (w6.setCell ⟨G, 5, none⟩ (.int .i64 1000000001)) (w0.heap.size + 1) (.slice (some ⟨G, 0, none⟩) 81 c2) (ws.set 5 1000000001) from by
              unfold IOwn
              rw [List.length_set, hl]
              exact hs7)
            have hB7 := Lib.hid (hB6.out.setCell (p := ⟨G, 5, none⟩) (by show w0.heap.size ≤ G; omega) (.int .i64 1000000001))
            clear hcl hs7 hH
            go_wp2_with fail
            go_ret
            exact hfin.out _ _ _ hI7.out (by rw [List.length_set]; omega) hB7.out
          · have g0 : (k == 0) = false := by simpa using e0
            have g1 : (k == 1) = false := by simpa using e1
            have g2 : (k == 2) = false := by simpa using e2
            have hI7 := Lib.hid (show IOwn w6 (w0.heap.size + 1) (.slice (some ⟨G, 0, none⟩) 81 c2) ws from by
              unfold IOwn
              rw [hl]
              exact hI6.out)
            clear hcl hH e0 e1 e2
            go_wp2_with fail
            go_ret
            exact hfin.out _ _ _ hI7.out (by omega) hB6.out

set_option maxHeartbeats 1000000 in
theorem DrawReduced_any (A : Option Addr) (n c : Nat) (w : World) (h : Byt w w.heap.size A n) (hn : n ≤ c) (hc : c ≤ maxLen) :
    Calls Try.prog 32 #[.slice A n c] w (Nmd w) := by
  have hO := Lib.hid (l40Open_any A n c _ h hn hc)
  obtain ⟨i0, hi0, hz0, hz1', hz2'⟩ := info_parts info_int
  clear h hc
  go_enter Try.func32, Try.ntmps32
  go_wp2_with fail
  refine (hO.out).mono ?_
  rintro e w1 ⟨rfl, ⟨n', hn', hrd⟩, hb1⟩
  have hz1 : w.heap.size < w1.heap.size := hrd.lt
  clear hO
  go_wp2_with fail
  refine (pick_any w.heap.size A n' c 0 w.heap.size 2 _ hrd (by omega) hn' (by decide)).mono ?_
  rintro e w2 ⟨k, rfl, hk0, hk1, hr2, hc2⟩
  have hB2 := Lib.hid (hb1.trans (hc2.below (Nat.le_refl _) (by omega)))
  have hz2 := hr2.lt
  clear hrd hb1 hc2
  by_cases e0 : k = 0
  · subst e0
    go_wp2_with fail
    refine (l4Draw_any A n' c 1 w2 w hr2 (by omega) hn' hB2.out).mono ?_
    rintro e w3 ⟨v, ds, rfl, hI, hl, hb⟩
    have hF := Lib.hid (show Nmd w (.returned v) w3 from ⟨v, ds, rfl, hI, hl, hb⟩)
    clear hI hb
    go_wp2_with fail
    go_ret
    exact hF.out
  · have g0 : (k == 0) = false := by simpa using e0
    clear e0
    have hN := Lib.hid (show IOwn (w2.alloc (.cells #[] 3)) (w.heap.size + 1) (.slice (some ⟨w2.heap.size, 0, none⟩) 0 0) [] from
      ⟨rfl, .inr ⟨w2.heap.size, 0, #[], rfl, by omega, Has.new w2 _ _, Nat.le_refl _, Nat.zero_le _, rfl, rfl⟩⟩)
    have hr3 := hr2.alloc (by omega) (.cells #[] 3)
    have hB3 := Lib.hid (hB2.out.alloc (by omega) (.cells #[] 3))
    clear hr2
    go_wp2_with fail
    generalize hWG : w2.alloc (.cells #[] 3) = W3 at hN hr3 hB3 ⊢
    clear hWG
    refine (pick_any w.heap.size A n' c 1 w.heap.size 6 _ hr3 (by omega) hn' (by decide)).mono ?_
    rintro e w4 ⟨a, rfl, ha0, ha1, hr4, hc4⟩
    have hI4 := Lib.hid (show IOwn w4 (w.heap.size + 1) _ [] from owns_chg hN.out hc4 (Nat.lt_succ_self _))
    have hz3 := hr3.lt
    have hB4 := Lib.hid (hB3.out.trans (hc4.below (Nat.le_refl _) (by omega)))
    clear hr3 hc4
    go_wp2_with fail
    refine (pick_any w.heap.size A n' c 2 w.heap.size 5 _ hr4 (by omega) hn' (by decide)).mono ?_
    rintro e w5 ⟨b, rfl, hb0, hb1, hr5, hc5⟩
    have hI5 := Lib.hid (show IOwn w5 (w.heap.size + 1) _ [] from owns_chg hI4.out hc5 (Nat.lt_succ_self _))
    have hz4 := hr4.lt
    have hB5 := Lib.hid (hB4.out.trans (hc5.below (Nat.le_refl _) (by omega)))
    have hr5' := Lib.hid hr5
    clear hr4 hr5 hc5
    go_wp2_with fail
    go_loopg [4, 6] b.toNat (fun gn o v wr => ∃ (j : Int) (q : Nat) (ds : List Int), 0 ≤ j ∧ j ≤ 4 ∧ gn = j.toNat ∧ v = .int .i64 j ∧ q + j.toNat ≤ 10 ∧ ds.length + j.toNat ≤ 4 ∧ Rdr wr w.heap.size w.heap.size A n' c q ∧ IOwn wr (w.heap.size + 1) o ds ∧ Below w.heap.size w wr)
    case atStart => exact ⟨b, 3, [], by omega, by omega, rfl, rfl, by omega, by simp; omega, hr5'.out, hI5.out, hB5.out⟩
    case round =>
      obtain ⟨j, q, ds, hj0, hj4, hgn, rfl, hq, hld, hr, hO, hB⟩ := hrel
      have hgk : gk = j.toNat := hgn
      obtain ⟨Ao, co, hvo, _, hcm⟩ := hO.form
      subst hvo
      have hO' := Lib.hid hO
      have hB' := Lib.hid hB
      have hlt := hr.lt
      clear hgn hO hB
      by_cases hjp : 0 < j
      · go_wp2_with fail
        refine (pick_any w.heap.size A n' c q w.heap.size 9 _ hr (by omega) hn' (by decide)).mono ?_
        rintro e w6 ⟨y, rfl, hy0, hy1, hr6, hc6⟩
        have hI6 := Lib.hid (show IOwn w6 (w.heap.size + 1) (.slice Ao ds.length co) ds from owns_chg hO'.out hc6 (Nat.lt_succ_self _))
        have hB6 := Lib.hid (hB'.out.trans (hc6.below (Nat.le_refl _) (by omega)))
        have hz6 := hr6.lt
        have hay : 0 ≤ (1 + a) * y ∧ (1 + a) * y ≤ 54 := by
          have h1 := Int.mul_nonneg (show 0 ≤ 1 + a by omega) hy0
          have h2 : (1 + a) * y ≤ 6 * y := Int.mul_le_mul_of_nonneg_right (by omega) hy0
          omega
        have hw : IntKind.i64.wrap ((1 + a) * y) = (1 + a) * y := by rw [IntKind.wrap_i64]; omega
        have hO7 := Lib.hid (hI6.out.alloc (.cells #[.int .i64 ((1 + a) * y)] 3))
        have hnw := Lib.hid (new_one w6 (.int .i64 ((1 + a) * y)) 3)
        have hB7 := Lib.hid ((Below.refl (w.heap.size + 1) w6).alloc (by omega) (.cells #[.int .i64 ((1 + a) * y)] 3))
        have hr6' := Lib.hid hr6
        clear hc6 hr hr6
        go_wp2_with (at_builtin; refine wpList_append_lies _ rfl (.tmp 24) (.tmp 29) 23 rfl (w.heap.size + 1) 3 i0 _ 1 8 Try.underlying23 hi0 hz0 hz1' hz2' rfl (by decide) (.slice Ao ds.length co) ds.length (ints ds) rfl (by exact hO7.out) ⟨w6.heap.size, 0, none⟩ 1 1 [.int .i64 ((1 + a) * y)] rfl rfl (by exact hnw.out) (by simp [Value.oneCell']) (by omega) (by unfold maxLen; omega) (by omega) (by simp; omega) (w6.heap.size + 1) (by simp) ?_; intro gr cr2 w7 hown7 hgrow7 hat7 hlt7)
        have hF := IOwn.append_ (news := [(1 + a) * y]) hO7.out hown7 hgrow7 hB7.out (by simp; omega)
        have hF1 := Lib.hid hF.1
        have hB8 := Lib.hid (hB6.out.trans (hF.2.mono (Nat.le_succ _)))
        have hr8 := Lib.hid (hr6'.out.below hF.2 (Nat.lt_succ_self _))
        clear hown7 hgrow7 hat7 hF
        go_wp2_with fail
        go_roundg (j - 1).toNat
        case measure => omega
        case rel => exact ⟨j - 1, q + 1, ds ++ [(1 + a) * y], by omega, by omega, rfl, by go_num, by omega, by rw [List.length_append]; simp; omega, hr8.out, hF1.out, hB8.out⟩
      · have hF := Lib.hid (show Nmd w (.returned (.slice Ao ds.length co)) wr from ⟨_, ds, rfl, owns_le hO'.out (Nat.le_succ _), by omega, hB'.out⟩)
        go_wp2_with fail
        go_ret
        exact hF.out

/-- How drawing two numbers ends. -/
def Twd (w : World) (e : Ending) (w' : World) : Prop := ∃ a b : Int, e = .returned (.tuple #[.int .i64 a, .int .i64 b]) ∧ Below w.heap.size w w'
theorem nine_bd {a y : Int} (ha : 0 ≤ a ∧ a < 9) (hy : 0 ≤ y ∧ y < 40) : 0 ≤ (1 + a) * y ∧ (1 + a) * y ≤ 360 := by
  have h1 := Int.mul_nonneg (show 0 ≤ 1 + a by omega) hy.1
  have h2 : (1 + a) * y ≤ 9 * y := Int.mul_le_mul_of_nonneg_right (by omega) hy.1
  omega
set_option maxHeartbeats 1000000 in
theorem DrawFractionOf_any (A : Option Addr) (n c : Nat) (w : World) (h : Byt w w.heap.size A n) (hn : n ≤ c) (hc : c ≤ maxLen) :
    Calls Try.prog 33 #[.slice A n c] w (Twd w) := by
  have hO := Lib.hid (l40Open_any A n c _ h hn hc)
  clear h hc
  go_enter Try.func33, Try.ntmps33
  go_wp2_with fail
  refine (hO.out).mono ?_
  rintro e w1 ⟨rfl, ⟨n', hn', hrd⟩, hb1⟩
  have hz1 : w.heap.size < w1.heap.size := hrd.lt
  clear hO
  go_wp2_with fail
  refine (pick_any w.heap.size A n' c 0 w.heap.size 9 _ hrd (by omega) hn' (by decide)).mono ?_
  rintro e w2 ⟨a, rfl, ha0, ha1, hr2, hc2⟩
  go_wp2_with fail
  refine (pick_any w.heap.size A n' c 1 w.heap.size 40 _ hr2 (by omega) hn' (by decide)).mono ?_
  rintro e w3 ⟨y, rfl, hy0, hy1, hr3, hc3⟩
  have p1 := nine_bd ⟨ha0, ha1⟩ ⟨hy0, hy1⟩
  have q1 : IntKind.i64.wrap ((1 + a) * y) = (1 + a) * y := by rw [IntKind.wrap_i64]; omega
  go_wp2_with fail
  refine (pick_any w.heap.size A n' c 2 w.heap.size 20 _ hr3 (by omega) hn' (by decide)).mono ?_
  rintro e w4 ⟨z, rfl, hz0, hz1, hr4, hc4⟩
  go_wp2_with fail
  refine (pick_any w.heap.size A n' c 3 w.heap.size 40 _ hr4 (by omega) hn' (by decide)).mono ?_
  rintro e w5 ⟨y2, rfl, hy2, hy3, hr5, hc5⟩
  have p2 := nine_bd ⟨ha0, ha1⟩ ⟨hy2, hy3⟩
  have q2 : IntKind.i64.wrap ((1 + a) * y2) = (1 + a) * y2 := by rw [IntKind.wrap_i64]; omega
  go_wp2_with fail
  refine (pick_any w.heap.size A n' c 4 w.heap.size 20 _ hr5 (by omega) hn' (by decide)).mono ?_
  rintro e w6 ⟨z2, rfl, hz2, hz3, hr6, hc6⟩
  have hB := Lib.hid (hb1.trans ((((hc2.trans hc3).trans (hc4.trans hc5)).trans hc6).below (Nat.le_refl _) (by omega)))
  clear hrd hr2 hr3 hr4 hr5 hr6 hb1 hc2 hc3 hc4 hc5 hc6
  go_wp2_with fail
  go_ret2
  exact ⟨_, _, rfl, hB.out⟩

end Go.Proofs.Ytcdajplmheladaa
