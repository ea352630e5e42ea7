/- Lists of numbers that are drawn: l4Draw, DrawReduced, DrawFractionOf. -/
import Derived.Test.YtghkpmafocacoaaDw
import Derived.Test.YtghkpmafocacoaaMdf
import Derived.Test.YtghkpmafocacoaaAa
namespace Go.Proofs.Ytghkpmafocacoaa
set_option maxRecDepth 100000
set_option linter.unusedVariables false
open Go.RowKit

/-- How drawing numbers ends. -/
def Nmd (w : World) (e : Ending) (w' : World) : Prop := ∃ (v : Value) (ds : List Int), e = .returned v ∧ IOwn w' w.heap.size v ds ∧ ds.length ≤ 82 ∧ Below w.heap.size w w'
theorem weights_81 (ps : List St) : (weightsFrom ps 0).length = 0 ∨ (weightsFrom ps 0).length = 81 := by
  unfold weightsFrom
  cases unrolled ps with
  | none => exact .inl rfl
  | some os => exact .inr (wts_length os 0)

/-- A list that is drawn, and the source of numbers behind it. -/
def NmR (w : World) (A : Option Addr) (n c p : Nat) (e : Ending) (w' : World) : Prop :=
  ∃ (u : Value) (es : List Int) (q : Nat), e = .returned u ∧ IOwn w' (w.heap.size + 1) u es ∧ es.length ≤ 82 ∧ Below w.heap.size w w' ∧ Rdr w' w.heap.size w.heap.size A n c q ∧ q ≤ p + 1000
set_option maxHeartbeats 400000 in
theorem l4Draw_anyR (A : Option Addr) (n c p : Nat) (w w0 : World) (h : Rdr w w0.heap.size w0.heap.size A n c p) (hp : p ≤ 700000) (hn : n ≤ 2000) (hw : Below w0.heap.size w0 w) :
    Calls Try.prog 83 #[.pointer (some ⟨w0.heap.size, 0, none⟩)] w (NmR w0 A n c p) := by
  have hlt := h.lt
  obtain ⟨i0, hi0, hz0, hz1', hz2'⟩ := info_parts info_int
  go_enter Try.func83, Try.ntmps83
  go_wp2_with fail
  refine (l1Draw_any _ A n c p _ 4 _ h (by omega) hn (by omega)).mono ?_
  rintro e w1 ⟨v, os, p1, rfl, hown, hl1, hl10, hp1, hr1, hc1⟩
  obtain ⟨A', c', hv, hlc, hcm⟩ := hown.form
  subst hv
  have hL1 := Lib.hid hown.lst
  have hB1 := Lib.hid (hw.trans (hc1.below (Nat.le_refl _) (by omega)))
  have hlt1 := hr1.lt
  have hz1 := hB1.out.size
  clear hown hc1
  go_wp2_with fail
  refine (specWeightsOf_any A' os.length c' os _ hL1.out hlc hcm (by omega)).mono ?_
  rintro e w2 ⟨v2, rfl, hI2, hb2⟩
  obtain ⟨A2, c2, hv, _, hcm2⟩ := hI2.form
  subst hv
  have hr2 := hr1.below hb2 hlt1
  have hB2 := Lib.hid (hB1.out.trans (hb2.mono hz1))
  have hI2' := Lib.hid (owns_le (show w2.ownsRow w1.heap.size 3 1 (.slice A2 (weightsFrom os 0).length c2) (weightsFrom os 0).length (ints (weightsFrom os 0)) from hI2) (show w0.heap.size + 1 ≤ w1.heap.size by omega))
  have hlt2 := hr2.lt
  clear hI2 hb2 hr1
  rcases weights_81 os with hl | hl
  · rw [hl]
    go_wp2_with fail
    refine (l3Some_any w0.heap.size A n c (p1) _ hr2 (by omega) hn).mono ?_
    rintro e w4 ⟨o, es, p4, rfl, hI4, hl4, hp4, hr4, hc4⟩
    have hI4' : w4.ownsRow (w0.heap.size + 1) 3 1 o 81 (ints es) := by
      have := owns_le hI4 (show w0.heap.size + 1 ≤ w2.heap.size by omega)
      rwa [hl4] at this
    have hB4 := Lib.hid (hB2.out.trans (hc4.below (Nat.le_refl _) (by omega)))
    obtain ⟨A4, c4, rfl, _, hcm4⟩ := owns_form hI4'
    have hI4h := Lib.hid hI4'
    clear hI4 hI4' hc4
    go_wp2_with fail
    refine (pick_any w0.heap.size A n c (p4) w0.heap.size 30 _ hr4 (by omega) hn (by decide)).mono ?_
    rintro e w6 ⟨k, rfl, hk0, hk1, hr6, hc6⟩
    have hzx := hB4.out.size
    have hI6 := Lib.hid (owns_chg hI4h.out hc6 (Nat.lt_succ_self _))
    have hB6 := Lib.hid (hB4.out.trans (hc6.below (Nat.le_refl _) (by omega)))
    have hz6 := hr6.lt
    have hR6 := Lib.hid hr6
    clear hr6 hc6
    obtain ⟨G, cur, hGe, hwb, hH, _, hcmx, _, hcl⟩ := owns_open hI6.out (by decide)
    subst hGe
    have hfin := Lib.hid (show ∀ (u : Value) (es : List Int) (wz : World), IOwn wz (w0.heap.size + 1) u es → es.length ≤ 82 → Below w0.heap.size w0 wz → ∀ q, Rdr wz w0.heap.size w0.heap.size A n c q → q ≤ p + 1000 → NmR w0 A n c p (.returned u) wz from
      fun u es wz q2 q3 q4 q q5 q6 => ⟨u, es, q, rfl, q2, q3, q4, q5, q6⟩)
    by_cases e0 : k = 0
    · subst e0
      have hc1 := hcl 3 (by omega)
      rw [ints_get (d := es[3]'(by omega)) (List.getElem?_eq_getElem (by omega))] at hc1
      generalize es[3]'(by omega) = d0 at hc1
      have hfz := hH.frozen 3
      have hs7 := owns_set (x := -1) hI6.out (show 3 < 81 by decide)
      have hI7 := Lib.hid (show IOwn (w6.setCell ⟨G, 3, none⟩ (.int .i64 (-1))) (w0.heap.size + 1) (.slice (some ⟨G, 0, none⟩) 81 c4) (es.set 3 (-1)) from by
        unfold IOwn
        rw [List.length_set, hl4]
        exact hs7)
      have hB7 := Lib.hid (hB6.out.setCell (p := ⟨G, 3, none⟩) (by show w0.heap.size ≤ G; omega) (.int .i64 (-1)))
      have hR7 := Lib.hid (hR6.out.new (q := ⟨G, 3, none⟩) (by show w0.heap.size ≤ G; omega) (by show w0.heap.size ≠ G; omega) (.int .i64 (-1)))
      clear hcl hs7 hH
      go_wp2_with fail
      go_ret
      exact hfin.out _ _ _ hI7.out (by rw [List.length_set]; omega) hB7.out _ hR7.out (by omega)
    · by_cases e1 : k = 1
      · subst e1
        have hI7 := Lib.hid (show IOwn w6 (w0.heap.size + 1) (.slice (some ⟨G, 0, none⟩) 81 c4) es from by
          unfold IOwn
          rw [hl4]
          exact hI6.out)
        have hO5 := Lib.hid (hI7.out.alloc (.cells #[.int .i64 1] 3))
        have hnw := Lib.hid (new_one w6 (.int .i64 1) 3)
        have hB5 := Lib.hid ((Below.refl (w0.heap.size + 1) w6).alloc (by omega) (.cells #[.int .i64 1] 3))
        clear hcl hH
        go_wp2_with (at_builtin; refine wpList_append_lies _ rfl (.tmp 28) (.tmp 29) 31 rfl (w0.heap.size + 1) 3 i0 _ 1 8 Try.underlying31 hi0 hz0 hz1' hz2' rfl (by decide) (.slice (some ⟨G, 0, none⟩) 81 c4) 81 (ints es) rfl (by have := hO5.out; unfold IOwn at this; rwa [hl4] at this) ⟨w6.heap.size, 0, none⟩ 1 1 [.int .i64 1] rfl rfl (by exact hnw.out) (by simp [Value.oneCell']) (by omega) (by unfold maxLen; omega) (by omega) (by simp; omega) (w6.heap.size + 1) (by simp) ?_; intro gr cr2 w7 hown7 hgrow7 hat7 hlt7)
        have hF := IOwn.append_ (news := [(1 : Int)]) hO5.out (by rw [hl4]; exact hown7) hgrow7 hB5.out (by simp; omega)
        have hF1 := Lib.hid hF.1
        have hB8 := Lib.hid (hB6.out.trans (hF.2.mono (Nat.le_succ _)))
        have hR8 := Lib.hid ((hR6.out.alloc (by omega) (.cells #[.int .i64 1] 3)).grown hgrow7 (fun k hk => (by have h1 : G = k := (by simpa [Value.ownBlock] using hk); omega)) (by simp; omega))
        clear hown7 hgrow7 hat7 hF
        go_wp2_with fail
        go_ret
        exact hfin.out _ _ _ hF1.out (by rw [List.length_append]; show es.length + 1 ≤ 82; omega) hB8.out _ hR8.out (by omega)
      · by_cases e2 : k = 2
        · subst e2
          have hc1 := hcl 5 (by omega)
          rw [ints_get (d := es[5]'(by omega)) (List.getElem?_eq_getElem (by omega))] at hc1
          generalize es[5]'(by omega) = d0 at hc1
          have hfz := hH.frozen 5
          have hs7 := owns_set (x := 1000000001) hI6.out (show 5 < 81 by decide)
          have hI7 := Lib.hid (show IOwn (w6.setCell ⟨G, 5, none⟩ (.int .i64 1000000001)) (w0.heap.size + 1) (.slice (some ⟨G, 0, none⟩) 81 c4) (es.set 5 1000000001) from by
            unfold IOwn
            rw [List.length_set, hl4]
            exact hs7)
          have hB7 := Lib.hid (hB6.out.setCell (p := ⟨G, 5, none⟩) (by show w0.heap.size ≤ G; omega) (.int .i64 1000000001))
          have hR7 := Lib.hid (hR6.out.new (q := ⟨G, 5, none⟩) (by show w0.heap.size ≤ G; omega) (by show w0.heap.size ≠ G; omega) (.int .i64 1000000001))
          clear hcl hs7 hH
          go_wp2_with fail
          go_ret
          exact hfin.out _ _ _ hI7.out (by rw [List.length_set]; omega) hB7.out _ hR7.out (by omega)
        · have g0 : (k == 0) = false := by simpa using e0
          have g1 : (k == 1) = false := by simpa using e1
          have g2 : (k == 2) = false := by simpa using e2
          have hI7 := Lib.hid (show IOwn w6 (w0.heap.size + 1) (.slice (some ⟨G, 0, none⟩) 81 c4) es from by
            unfold IOwn
            rw [hl4]
            exact hI6.out)
          clear hcl hH e0 e1 e2
          go_wp2_with fail
          go_ret
          exact hfin.out _ _ _ hI7.out (by omega) hB6.out _ hR6.out (by omega)
  · have hI81 := Lib.hid (show w2.ownsRow (w0.heap.size + 1) 3 1 (.slice A2 81 c2) 81 (ints (weightsFrom os 0)) from by
      have := hI2'.out
      rwa [hl] at this)
    rw [hl]
    generalize weightsFrom os 0 = ws at hI81 hl
    have hzz := hB2.out.size
    go_wp2_with fail
    refine (pick_any w0.heap.size A n c p1 w0.heap.size 4 _ hr2 (by omega) hn (by decide)).mono ?_
    rintro e w3 ⟨y, rfl, hy0, hy1, hr3, hc3⟩
    by_cases hyz : y = 0
    · have hI3 := Lib.hid (owns_chg hI81.out hc3 (Nat.lt_succ_self _))
      have hB3 := Lib.hid (hB2.out.trans (hc3.below (Nat.le_refl _) (by omega)))
      have hz3 := hr3.lt
      clear hc3
      subst hyz
      go_wp2_with fail
      refine (l3Some_any w0.heap.size A n c (p1 + 1) _ hr3 (by omega) hn).mono ?_
      rintro e w4 ⟨o, es, p4, rfl, hI4, hl4, hp4, hr4, hc4⟩
      have hI4' : w4.ownsRow (w0.heap.size + 1) 3 1 o 81 (ints es) := by
        have := owns_le hI4 (show w0.heap.size + 1 ≤ w3.heap.size by omega)
        rwa [hl4] at this
      have hB4 := Lib.hid (hB3.out.trans (hc4.below (Nat.le_refl _) (by omega)))
      obtain ⟨A4, c4, rfl, _, hcm4⟩ := owns_form hI4'
      have hI4h := Lib.hid hI4'
      clear hI4 hI4' hc4
      go_wp2_with fail
      refine (pick_any w0.heap.size A n c (p4) w0.heap.size 30 _ hr4 (by omega) hn (by decide)).mono ?_
      rintro e w6 ⟨k, rfl, hk0, hk1, hr6, hc6⟩
      have hzx := hB4.out.size
      have hI6 := Lib.hid (owns_chg hI4h.out hc6 (Nat.lt_succ_self _))
      have hB6 := Lib.hid (hB4.out.trans (hc6.below (Nat.le_refl _) (by omega)))
      have hz6 := hr6.lt
      have hR6 := Lib.hid hr6
      clear hr6 hc6
      obtain ⟨G, cur, hGe, hwb, hH, _, hcmx, _, hcl⟩ := owns_open hI6.out (by decide)
      subst hGe
      have hfin := Lib.hid (show ∀ (u : Value) (es : List Int) (wz : World), IOwn wz (w0.heap.size + 1) u es → es.length ≤ 82 → Below w0.heap.size w0 wz → ∀ q, Rdr wz w0.heap.size w0.heap.size A n c q → q ≤ p + 1000 → NmR w0 A n c p (.returned u) wz from
        fun u es wz q2 q3 q4 q q5 q6 => ⟨u, es, q, rfl, q2, q3, q4, q5, q6⟩)
      by_cases e0 : k = 0
      · subst e0
        have hc1 := hcl 3 (by omega)
        rw [ints_get (d := es[3]'(by omega)) (List.getElem?_eq_getElem (by omega))] at hc1
        generalize es[3]'(by omega) = d0 at hc1
        have hfz := hH.frozen 3
        have hs7 := owns_set (x := -1) hI6.out (show 3 < 81 by decide)
        have hI7 := Lib.hid (show IOwn (w6.setCell ⟨G, 3, none⟩ (.int .i64 (-1))) (w0.heap.size + 1) (.slice (some ⟨G, 0, none⟩) 81 c4) (es.set 3 (-1)) from by
          unfold IOwn
          rw [List.length_set, hl4]
          exact hs7)
        have hB7 := Lib.hid (hB6.out.setCell (p := ⟨G, 3, none⟩) (by show w0.heap.size ≤ G; omega) (.int .i64 (-1)))
        have hR7 := Lib.hid (hR6.out.new (q := ⟨G, 3, none⟩) (by show w0.heap.size ≤ G; omega) (by show w0.heap.size ≠ G; omega) (.int .i64 (-1)))
        clear hcl hs7 hH
        go_wp2_with fail
        go_ret
        exact hfin.out _ _ _ hI7.out (by rw [List.length_set]; omega) hB7.out _ hR7.out (by omega)
      · by_cases e1 : k = 1
        · subst e1
          have hI7 := Lib.hid (show IOwn w6 (w0.heap.size + 1) (.slice (some ⟨G, 0, none⟩) 81 c4) es from by
            unfold IOwn
            rw [hl4]
            exact hI6.out)
          have hO5 := Lib.hid (hI7.out.alloc (.cells #[.int .i64 1] 3))
          have hnw := Lib.hid (new_one w6 (.int .i64 1) 3)
          have hB5 := Lib.hid ((Below.refl (w0.heap.size + 1) w6).alloc (by omega) (.cells #[.int .i64 1] 3))
          clear hcl hH
          go_wp2_with (at_builtin; refine wpList_append_lies _ rfl (.tmp 28) (.tmp 29) 31 rfl (w0.heap.size + 1) 3 i0 _ 1 8 Try.underlying31 hi0 hz0 hz1' hz2' rfl (by decide) (.slice (some ⟨G, 0, none⟩) 81 c4) 81 (ints es) rfl (by have := hO5.out; unfold IOwn at this; rwa [hl4] at this) ⟨w6.heap.size, 0, none⟩ 1 1 [.int .i64 1] rfl rfl (by exact hnw.out) (by simp [Value.oneCell']) (by omega) (by unfold maxLen; omega) (by omega) (by simp; omega) (w6.heap.size + 1) (by simp) ?_; intro gr cr2 w7 hown7 hgrow7 hat7 hlt7)
          have hF := IOwn.append_ (news := [(1 : Int)]) hO5.out (by rw [hl4]; exact hown7) hgrow7 hB5.out (by simp; omega)
          have hF1 := Lib.hid hF.1
          have hB8 := Lib.hid (hB6.out.trans (hF.2.mono (Nat.le_succ _)))
          have hR8 := Lib.hid ((hR6.out.alloc (by omega) (.cells #[.int .i64 1] 3)).grown hgrow7 (fun k hk => (by have h1 : G = k := (by simpa [Value.ownBlock] using hk); omega)) (by simp; omega))
          clear hown7 hgrow7 hat7 hF
          go_wp2_with fail
          go_ret
          exact hfin.out _ _ _ hF1.out (by rw [List.length_append]; show es.length + 1 ≤ 82; omega) hB8.out _ hR8.out (by omega)
        · by_cases e2 : k = 2
          · subst e2
            have hc1 := hcl 5 (by omega)
            rw [ints_get (d := es[5]'(by omega)) (List.getElem?_eq_getElem (by omega))] at hc1
            generalize es[5]'(by omega) = d0 at hc1
            have hfz := hH.frozen 5
            have hs7 := owns_set (x := 1000000001) hI6.out (show 5 < 81 by decide)
            have hI7 := Lib.hid (show IOwn (w6.setCell ⟨G, 5, none⟩ (.int .i64 1000000001)) (w0.heap.size + 1) (.slice (some ⟨G, 0, none⟩) 81 c4) (es.set 5 1000000001) from by
              unfold IOwn
              rw [List.length_set, hl4]
              exact hs7)
            have hB7 := Lib.hid (hB6.out.setCell (p := ⟨G, 5, none⟩) (by show w0.heap.size ≤ G; omega) (.int .i64 1000000001))
            have hR7 := Lib.hid (hR6.out.new (q := ⟨G, 5, none⟩) (by show w0.heap.size ≤ G; omega) (by show w0.heap.size ≠ G; omega) (.int .i64 1000000001))
            clear hcl hs7 hH
            go_wp2_with fail
            go_ret
            exact hfin.out _ _ _ hI7.out (by rw [List.length_set]; omega) hB7.out _ hR7.out (by omega)
          · have g0 : (k == 0) = false := by simpa using e0
            have g1 : (k == 1) = false := by simpa using e1
            have g2 : (k == 2) = false := by simpa using e2
            have hI7 := Lib.hid (show IOwn w6 (w0.heap.size + 1) (.slice (some ⟨G, 0, none⟩) 81 c4) es from by
              unfold IOwn
              rw [hl4]
              exact hI6.out)
            clear hcl hH e0 e1 e2
            go_wp2_with fail
            go_ret
            exact hfin.out _ _ _ hI7.out (by omega) hB6.out _ hR6.out (by omega)
    · have hI3 := Lib.hid (owns_chg hI81.out hc3 (Nat.lt_succ_self _))
      have hB3 := Lib.hid (hB2.out.trans (hc3.below (Nat.le_refl _) (by omega)))
      have hyf : (y == 0) = false := by simpa using hyz
      clear hc3
      go_wp2_with fail
      refine (pick_any w0.heap.size A n c (p1 + 1) w0.heap.size 30 _ hr3 (by omega) hn (by decide)).mono ?_
      rintro e w6 ⟨k, rfl, hk0, hk1, hr6, hc6⟩
      have hzx := hB3.out.size
      have hI6 := Lib.hid (owns_chg hI3.out hc6 (Nat.lt_succ_self _))
      have hB6 := Lib.hid (hB3.out.trans (hc6.below (Nat.le_refl _) (by omega)))
      have hz6 := hr6.lt
      have hR6 := Lib.hid hr6
      clear hr6 hc6
      obtain ⟨G, cur, hGe, hwb, hH, _, hcmx, _, hcl⟩ := owns_open hI6.out (by decide)
      subst hGe
      have hfin := Lib.hid (show ∀ (u : Value) (es : List Int) (wz : World), IOwn wz (w0.heap.size + 1) u es → es.length ≤ 82 → Below w0.heap.size w0 wz → ∀ q, Rdr wz w0.heap.size w0.heap.size A n c q → q ≤ p + 1000 → NmR w0 A n c p (.returned u) wz from
        fun u es wz q2 q3 q4 q q5 q6 => ⟨u, es, q, rfl, q2, q3, q4, q5, q6⟩)
      by_cases e0 : k = 0
      · subst e0
        have hc1 := hcl 3 (by omega)
        rw [ints_get (d := ws[3]'(by omega)) (List.getElem?_eq_getElem (by omega))] at hc1
        generalize ws[3]'(by omega) = d0 at hc1
        have hfz := hH.frozen 3
        have hs7 := owns_set (x := -1) hI6.out (show 3 < 81 by decide)
        have hI7 := Lib.hid (show IOwn (w6.setCell ⟨G, 3, none⟩ (.int .i64 (-1))) (w0.heap.size + 1) (.slice (some ⟨G, 0, none⟩) 81 c2) (ws.set 3 (-1)) from by
          unfold IOwn
          rw [List.length_set, hl]
          exact hs7)
        have hB7 := Lib.hid (hB6.out.setCell (p := ⟨G, 3, none⟩) (by show w0.heap.size ≤ G; omega) (.int .i64 (-1)))
        have hR7 := Lib.hid (hR6.out.new (q := ⟨G, 3, none⟩) (by show w0.heap.size ≤ G; omega) (by show w0.heap.size ≠ G; omega) (.int .i64 (-1)))
        clear hcl hs7 hH
        go_wp2_with fail
        go_ret
        exact hfin.out _ _ _ hI7.out (by rw [List.length_set]; omega) hB7.out _ hR7.out (by omega)
      · by_cases e1 : k = 1
        · subst e1
          have hI7 := Lib.hid (show IOwn w6 (w0.heap.size + 1) (.slice (some ⟨G, 0, none⟩) 81 c2) ws from by
            unfold IOwn
            rw [hl]
            exact hI6.out)
          have hO5 := Lib.hid (hI7.out.alloc (.cells #[.int .i64 1] 3))
          have hnw := Lib.hid (new_one w6 (.int .i64 1) 3)
          have hB5 := Lib.hid ((Below.refl (w0.heap.size + 1) w6).alloc (by omega) (.cells #[.int .i64 1] 3))
          clear hcl hH
          go_wp2_with (at_builtin; refine wpList_append_lies _ rfl (.tmp 28) (.tmp 29) 31 rfl (w0.heap.size + 1) 3 i0 _ 1 8 Try.underlying31 hi0 hz0 hz1' hz2' rfl (by decide) (.slice (some ⟨G, 0, none⟩) 81 c2) 81 (ints ws) rfl (by have := hO5.out; unfold IOwn at this; rwa [hl] at this) ⟨w6.heap.size, 0, none⟩ 1 1 [.int .i64 1] rfl rfl (by exact hnw.out) (by simp [Value.oneCell']) (by omega) (by unfold maxLen; omega) (by omega) (by simp; omega) (w6.heap.size + 1) (by simp) ?_; intro gr cr2 w7 hown7 hgrow7 hat7 hlt7)
          have hF := IOwn.append_ (news := [(1 : Int)]) hO5.out (by rw [hl]; exact hown7) hgrow7 hB5.out (by simp; omega)
          have hF1 := Lib.hid hF.1
          have hB8 := Lib.hid (hB6.out.trans (hF.2.mono (Nat.le_succ _)))
          have hR8 := Lib.hid ((hR6.out.alloc (by omega) (.cells #[.int .i64 1] 3)).grown hgrow7 (fun k hk => (by have h1 : G = k := (by simpa [Value.ownBlock] using hk); omega)) (by simp; omega))
          clear hown7 hgrow7 hat7 hF
          go_wp2_with fail
          go_ret
          exact hfin.out _ _ _ hF1.out (by rw [List.length_append]; show ws.length + 1 ≤ 82; omega) hB8.out _ hR8.out (by omega)
        · by_cases e2 : k = 2
          · subst e2
            have hc1 := hcl 5 (by omega)
            rw [ints_get (d := ws[5]'(by omega)) (List.getElem?_eq_getElem (by omega))] at hc1
            generalize ws[5]'(by omega) = d0 at hc1
            have hfz := hH.frozen 5
            have hs7 := owns_set (x := 1000000001) hI6.out (show 5 < 81 by decide)
            have hI7 := Lib.hid (show IOwn (w6.setCell ⟨G, 5, none⟩ (.int .i64 1000000001)) (w0.heap.size + 1) (.slice (some ⟨G, 0, none⟩) 81 c2) (ws.set 5 1000000001) from by
              unfold IOwn
              rw [List.length_set, hl]
              exact hs7)
            have hB7 := Lib.hid (hB6.out.setCell (p := ⟨G, 5, none⟩) (by show w0.heap.size ≤ G; omega) (.int .i64 1000000001))
            have hR7 := Lib.hid (hR6.out.new (q := ⟨G, 5, none⟩) (by show w0.heap.size ≤ G; omega) (by show w0.heap.size ≠ G; omega) (.int .i64 1000000001))
            clear hcl hs7 hH
            go_wp2_with fail
            go_ret
            exact hfin.out _ _ _ hI7.out (by rw [List.length_set]; omega) hB7.out _ hR7.out (by omega)
          · have g0 : (k == 0) = false := by simpa using e0
            have g1 : (k == 1) = false := by simpa using e1
            have g2 : (k == 2) = false := by simpa using e2
            have hI7 := Lib.hid (show IOwn w6 (w0.heap.size + 1) (.slice (some ⟨G, 0, none⟩) 81 c2) ws from by
              unfold IOwn
              rw [hl]
              exact hI6.out)
            clear hcl hH e0 e1 e2
            go_wp2_with fail
            go_ret
            exact hfin.out _ _ _ hI7.out (by omega) hB6.out _ hR6.out (by omega)
theorem l4Draw_any (A : Option Addr) (n c p : Nat) (w w0 : World) (h : Rdr w w0.heap.size w0.heap.size A n c p) (hp : p ≤ 700000) (hn : n ≤ 2000) (hw : Below w0.heap.size w0 w) :
    Calls Try.prog 83 #[.pointer (some ⟨w0.heap.size, 0, none⟩)] w (Nmd w0) :=
  (l4Draw_anyR A n c p w w0 h hp hn hw).mono fun _ _ ⟨u, es, _, h1, h2, h3, h4, _⟩ => ⟨u, es, h1, owns_le h2 (Nat.le_succ _), h3, h4⟩

/-- How drawing two numbers ends. -/
def Twd (w : World) (e : Ending) (w' : World) : Prop := ∃ a b : Int, e = .returned (.tuple #[.int .i64 a, .int .i64 b]) ∧ Below w.heap.size w w'
theorem nine_bd {a y : Int} (ha : 0 ≤ a ∧ a < 9) (hy : 0 ≤ y ∧ y < 40) : 0 ≤ (1 + a) * y ∧ (1 + a) * y ≤ 360 := by
  have h1 := Int.mul_nonneg (show 0 ≤ 1 + a by omega) hy.1
  have h2 : (1 + a) * y ≤ 9 * y := Int.mul_le_mul_of_nonneg_right (by omega) hy.1
  omega
end Go.Proofs.Ytghkpmafocacoaa
