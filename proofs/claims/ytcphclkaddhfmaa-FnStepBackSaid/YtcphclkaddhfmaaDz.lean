/- Programs, values and numbers that are drawn: l5Case, DrawEventOf, DrawChanceOf, DrawValuesBack and DrawWorthOf. -/
import Derived.Test.YtcphclkaddhfmaaBm
import Derived.Test.YtcphclkaddhfmaaDw
namespace Go.Proofs.Ytcphclkaddhfmaa
set_option maxRecDepth 100000
set_option linter.unusedVariables false
open Go.RowKit

theorem rdr_chg_own {w w' : World} {base R : Nat} {v : Value} {ds : List Int} (h : IOwn w base v ds) (hc : Chg w w' R) (hR : R < base) : IOwn w' base v ds := owns_chg h hc hR

set_option maxHeartbeats 1000000 in
theorem l5Case_any (A : Option Addr) (n c : Nat) (w : World) (h : Byt w w.heap.size A n) (hn : n ≤ c) (hc : c ≤ maxLen) :
    Calls Try.prog 39 #[.slice A n c] w (Psd w) := by
  have hO := Lib.hid (l40Open_any A n c _ h hn hc)
  clear h hc
  go_enter Try.func39, Try.ntmps39
  go_wp2_with fail
  refine (hO.out).mono ?_
  rintro e w1 ⟨rfl, ⟨n', hn', hrd⟩, hb1⟩
  have hz1 : w.heap.size < w1.heap.size := hrd.lt
  clear hO
  go_wp2_with fail
  refine (l1Any_rd A n' c 0 w.heap.size 5 w1 w hrd (by omega) hn' (by omega) hb1 rfl).mono ?_
  rintro e w2 ⟨v, ps, p2, rfl, hown, hl, hb2, hp2, hr2⟩
  obtain ⟨A', c', hv, hlc, hcm⟩ := hown.form
  subst hv
  have hO2 := Lib.hid hown
  have hB2 := Lib.hid hb2
  have hz2 := hb2.size
  clear hown hrd hb1 hb2
  go_wp2_with fail
  refine (l3Some_any w.heap.size A n' c p2 _ hr2 (by omega) hn').mono ?_
  rintro e w3 ⟨o, ds, p3, rfl, hI, hl3, hp3, hr3, hc3⟩
  have hlt2 := hr2.lt
  have hC3 := Lib.hid hc3
  have hB3 := Lib.hid (hB2.out.trans (hc3.below (Nat.le_refl _) (by omega)))
  have hI3 := Lib.hid hI
  clear hI hc3
  go_wp2_with fail
  refine (pick_any w.heap.size A n' c p3 w.heap.size 2 _ hr3 (by omega) hn' (by decide)).mono ?_
  rintro e w4 ⟨k, rfl, hk0, hk1, hr4, hc4⟩
  have hz3 := hB3.out.size
  have hC4 := Lib.hid (hC3.out.trans hc4)
  have hB4 := Lib.hid (hB3.out.trans (hc4.below (Nat.le_refl _) (by omega)))
  have hI4 := Lib.hid (show IOwn w4 w2.heap.size o ds from owns_chg hI3.out hc4 hlt2)
  clear hr2 hr3 hc4
  by_cases hkk : k = 0
  · subst hkk
    go_wp2_with fail
    refine (pick_any w.heap.size A n' c _ w.heap.size 4 _ hr4 (by omega) hn' (by decide)).mono ?_
    rintro e w5 ⟨q1, rfl, hq10, hq11, hr5, hc5⟩
    go_wp2_with fail
    refine (pick_any w.heap.size A n' c _ w.heap.size 3 _ hr5 (by omega) hn' (by decide)).mono ?_
    rintro e w6 ⟨q2, rfl, hq20, hq21, hr6, hc6⟩
    go_wp2_with fail
    refine (specEventOf_any q1 q2 _).mono ?_
    rintro e w7 ⟨v7, rfl, ho7, hb7⟩
    have hl7 : (evOf q1 q2).length = 81 := by
      unfold evOf
      rw [if_pos (by rw [Bool.and_eq_true]; exact ⟨inB_iff.2 ⟨by omega, by omega⟩, inB_iff.2 ⟨by omega, by omega⟩⟩)]
      exact rowL_length _
    have hC6 := Lib.hid ((hC4.out.trans hc5).trans hc6)
    have hz6 := hC6.out.size
    have hC7 := Lib.hid (chg_below hC6.out (hb7.mono hz6))
    have hI7 := Lib.hid (show IOwn w7 w2.heap.size v7 (evOf q1 q2) from owns_le ho7 hz6)
    have hr7 := hr6.below hb7 (hr6.lt)
    go_wp2_with fail
    refine (pick_any w.heap.size A n' c _ w.heap.size 30 _ hr7 (by omega) hn' (by decide)).mono ?_
    rintro e w9 ⟨j, rfl, hj0, hj1, hr9, hc9⟩
    have hC9 := Lib.hid (hC7.out.trans hc9)
    have hI9 := Lib.hid (show IOwn w9 w2.heap.size v7 (evOf q1 q2) from owns_chg hI7.out hc9 hlt2)
    have hB9 := Lib.hid (hB2.out.trans (hC9.out.below (B := w.heap.size) (Nat.le_refl _) (by omega)))
    have hzr := hr9.lt
    have hz9 := hC9.out.size
    clear hr7 hr9 hc9
    have hO81 : w9.ownsRow w2.heap.size 3 1 v7 81 (ints (evOf q1 q2)) := by
      have := hI9.out
      unfold IOwn at this
      rwa [hl7] at this
    obtain ⟨A3, c3, rfl, hc30, hcm3⟩ := owns_form hO81
    obtain ⟨G, cur, rfl, hwb, hH, hc31, _, _, hcl⟩ := owns_open hO81 (by decide)
    have hfin := Lib.hid (show ∀ (u : Value) (es : List Int) (wz : World), Chg w2 wz w.heap.size → IOwn wz w2.heap.size u es → es.length ≤ 82 → Below w.heap.size w wz → Psd w (.returned (.tuple #[.slice A' ps.length c', u])) wz from
      fun u es wz q1 q2 q3 q4 => ⟨_, u, ps, es, rfl, owns_le (own_chg hO2.out q1 (Nat.lt_succ_self _)) (Nat.le_succ _), hl, owns_le q2 hz2, q3, q4⟩)
    by_cases e0 : j = 0
    · subst e0
      have hT := owns_take hO81 (show 0 < 80 by decide) (by decide)
      have hI10 := Lib.hid (show IOwn w9 w2.heap.size (.slice (some ⟨G, 0, none⟩) 80 c3) ((evOf q1 q2).take 80) from by
        unfold IOwn
        rw [List.length_take, hl7]
        have e : (ints (evOf q1 q2)).take (80 * 1) = ints ((evOf q1 q2).take 80) := by
          unfold ints
          rw [← List.map_take]
        rw [← e]
        exact hT)
      have h80 : (80 : Int) ≤ (c3 : Int) := by omega
      have h80n : 80 ≤ c3 := by omega
      clear hcl hH hO81 hT
      go_wp2_with fail
      go_ret2
      exact hfin.out _ _ _ hC9.out hI10.out (by rw [List.length_take]; omega) hB9.out
    · have g0 : (j == 0) = false := by simpa using e0
      by_cases e1 : j = 1
      · subst e1
        have hc1 := hcl 2 (by omega)
        have hl2 : 2 < (evOf q1 q2).length := by rw [hl7]; decide
        rw [ints_get (d := (evOf q1 q2)[2]) (List.getElem?_eq_getElem hl2)] at hc1
        generalize (evOf q1 q2)[2] = d0 at hc1
        have hfz := hH.frozen 2
        have hs5 := owns_set (x := 10) hO81 (show 2 < 81 by decide)
        have hI5 := Lib.hid (show IOwn (w9.setCell ⟨G, 2, none⟩ (.int .i64 10)) w2.heap.size (.slice (some ⟨G, 0, none⟩) 81 c3) ((evOf q1 q2).set 2 10) from by
          unfold IOwn
          rw [List.length_set, hl7]
          exact hs5)
        have hO5 := Lib.hid (hC9.out.new (q := ⟨G, 2, none⟩) hwb (.int .i64 10))
        have hB5 := Lib.hid (hB9.out.setCell (p := ⟨G, 2, none⟩) (by show w.heap.size ≤ G; omega) (.int .i64 10))
        clear hcl hs5 hH hO81
        go_wp2_with fail
        go_ret2
        exact hfin.out _ _ _ hO5.out hI5.out (by rw [List.length_set]; omega) hB5.out
      · have g1 : (j == 1) = false := by simpa using e1
        clear hcl hH hO81 e0 e1
        go_wp2_with fail
        go_ret2
        exact hfin.out _ _ _ hC9.out hI9.out (by omega) hB9.out
  · have hkb : (k == 0) = false := by simpa using hkk
    clear hkk
    go_wp2_with fail
    refine (pick_any w.heap.size A n' c _ w.heap.size 30 _ hr4 (by omega) hn' (by decide)).mono ?_
    rintro e w9 ⟨j, rfl, hj0, hj1, hr9, hc9⟩
    have hC9 := Lib.hid (hC4.out.trans hc9)
    have hI9 := Lib.hid (show IOwn w9 w2.heap.size o (ds) from owns_chg hI4.out hc9 hlt2)
    have hB9 := Lib.hid (hB2.out.trans (hC9.out.below (B := w.heap.size) (Nat.le_refl _) (by omega)))
    have hzr := hr9.lt
    have hz9 := hC9.out.size
    clear hr4 hr9 hc9
    have hO81 : w9.ownsRow w2.heap.size 3 1 o 81 (ints (ds)) := by
      have := hI9.out
      unfold IOwn at this
      rwa [hl3] at this
    obtain ⟨A3, c3, rfl, hc30, hcm3⟩ := owns_form hO81
    obtain ⟨G, cur, rfl, hwb, hH, hc31, _, _, hcl⟩ := owns_open hO81 (by decide)
    have hfin := Lib.hid (show ∀ (u : Value) (es : List Int) (wz : World), Chg w2 wz w.heap.size → IOwn wz w2.heap.size u es → es.length ≤ 82 → Below w.heap.size w wz → Psd w (.returned (.tuple #[.slice A' ps.length c', u])) wz from
      fun u es wz q1 q2 q3 q4 => ⟨_, u, ps, es, rfl, owns_le (own_chg hO2.out q1 (Nat.lt_succ_self _)) (Nat.le_succ _), hl, owns_le q2 hz2, q3, q4⟩)
    by_cases e0 : j = 0
    · subst e0
      have hT := owns_take hO81 (show 0 < 80 by decide) (by decide)
      have hI10 := Lib.hid (show IOwn w9 w2.heap.size (.slice (some ⟨G, 0, none⟩) 80 c3) ((ds).take 80) from by
        unfold IOwn
        rw [List.length_take, hl3]
        have e : (ints (ds)).take (80 * 1) = ints ((ds).take 80) := by
          unfold ints
          rw [← List.map_take]
        rw [← e]
        exact hT)
      have h80 : (80 : Int) ≤ (c3 : Int) := by omega
      have h80n : 80 ≤ c3 := by omega
      clear hcl hH hO81 hT
      go_wp2_with fail
      go_ret2
      exact hfin.out _ _ _ hC9.out hI10.out (by rw [List.length_take]; omega) hB9.out
    · have g0 : (j == 0) = false := by simpa using e0
      by_cases e1 : j = 1
      · subst e1
        have hc1 := hcl 2 (by omega)
        have hl2 : 2 < (ds).length := by rw [hl3]; decide
        rw [ints_get (d := (ds)[2]) (List.getElem?_eq_getElem hl2)] at hc1
        generalize (ds)[2] = d0 at hc1
        have hfz := hH.frozen 2
        have hs5 := owns_set (x := 10) hO81 (show 2 < 81 by decide)
        have hI5 := Lib.hid (show IOwn (w9.setCell ⟨G, 2, none⟩ (.int .i64 10)) w2.heap.size (.slice (some ⟨G, 0, none⟩) 81 c3) ((ds).set 2 10) from by
          unfold IOwn
          rw [List.length_set, hl3]
          exact hs5)
        have hO5 := Lib.hid (hC9.out.new (q := ⟨G, 2, none⟩) hwb (.int .i64 10))
        have hB5 := Lib.hid (hB9.out.setCell (p := ⟨G, 2, none⟩) (by show w.heap.size ≤ G; omega) (.int .i64 10))
        clear hcl hs5 hH hO81
        go_wp2_with fail
        go_ret2
        exact hfin.out _ _ _ hO5.out hI5.out (by rw [List.length_set]; omega) hB5.out
      · have g1 : (j == 1) = false := by simpa using e1
        clear hcl hH hO81 e0 e1
        go_wp2_with fail
        go_ret2
        exact hfin.out _ _ _ hC9.out hI9.out (by omega) hB9.out

def Pair (w : World) (e : Ending) (w' : World) : Prop := ∃ v x : Int, e = .returned (.tuple #[.int .i64 v, .int .i64 x]) ∧ Below w.heap.size w w'
theorem DrawEventOf_any (A : Option Addr) (n c : Nat) (w : World) (h : Byt w w.heap.size A n) (hn : n ≤ c) (hc : c ≤ maxLen) :
    Calls Try.prog 40 #[.slice A n c] w (Pair w) := by
  have hO := Lib.hid (l40Open_any A n c _ h hn hc)
  clear h hc
  go_enter Try.func40, Try.ntmps40
  go_wp2_with fail
  refine (hO.out).mono ?_
  rintro e w1 ⟨rfl, ⟨n', hn', hr1⟩, hb1⟩
  have hz := hr1.lt
  clear hO
  have hN1 := Lib.hid (show Nums (w1.alloc (.cells #[.int .i64 0, .int .i64 1, .int .i64 2, .int .i64 3, .int .i64 0, .int .i64 1, .int .i64 2, .int .i64 3, .int .i64 4, .int .i64 (-1)] 3)) w1.heap.size 10 (fun _ => True) from Nums.of (Has.new w1 3 #[.int .i64 0, .int .i64 1, .int .i64 2, .int .i64 3, .int .i64 0, .int .i64 1, .int .i64 2, .int .i64 3, .int .i64 4, .int .i64 (-1)]) (fun i hi => by
    obtain rfl | rfl | rfl | rfl | rfl | rfl | rfl | rfl | rfl | rfl : i = 0 ∨ i = 1 ∨ i = 2 ∨ i = 3 ∨ i = 4 ∨ i = 5 ∨ i = 6 ∨ i = 7 ∨ i = 8 ∨ i = 9 := by omega
    all_goals exact ⟨_, rfl, trivial⟩))
  go_wp2_with fail
  refine (num_any w.heap.size A n' c _ w.heap.size w1.heap.size 10 _ (fun _ => True) _ (hr1.alloc (by omega) _) (by omega) hn' (by omega) (by omega) (by simp) (by omega) hN1.out).mono ?_
  rintro e w2 ⟨t1, rfl, _, hr2, hc2⟩
  have hb2 := (hb1.alloc (by omega) (.cells #[.int .i64 0, .int .i64 1, .int .i64 2, .int .i64 3, .int .i64 0, .int .i64 1, .int .i64 2, .int .i64 3, .int .i64 4, .int .i64 (-1)] 3)).trans (hc2.below (B := w.heap.size) (Nat.le_refl _) (by simp; omega))
  have hz2 := hr2.lt
  have hN2 := Lib.hid (show Nums (w2.alloc (.cells #[.int .i64 0, .int .i64 1, .int .i64 2, .int .i64 0, .int .i64 1, .int .i64 2, .int .i64 3] 3)) w2.heap.size 7 (fun _ => True) from Nums.of (Has.new w2 3 #[.int .i64 0, .int .i64 1, .int .i64 2, .int .i64 0, .int .i64 1, .int .i64 2, .int .i64 3]) (fun i hi => by
    obtain rfl | rfl | rfl | rfl | rfl | rfl | rfl : i = 0 ∨ i = 1 ∨ i = 2 ∨ i = 3 ∨ i = 4 ∨ i = 5 ∨ i = 6 := by omega
    all_goals exact ⟨_, rfl, trivial⟩))
  go_wp2_with fail
  refine (num_any w.heap.size A n' c _ w.heap.size w2.heap.size 7 _ (fun _ => True) _ (hr2.alloc (by omega) _) (by omega) hn' (by omega) (by omega) (by simp) (by omega) hN2.out).mono ?_
  rintro e w3 ⟨t2, rfl, _, hr3, hc3⟩
  have hb3 := (hb2.alloc (by omega) (.cells #[.int .i64 0, .int .i64 1, .int .i64 2, .int .i64 0, .int .i64 1, .int .i64 2, .int .i64 3] 3)).trans (hc3.below (B := w.heap.size) (Nat.le_refl _) (by simp; omega))
  go_wp2_with fail
  go_ret2
  exact ⟨_, _, rfl, hb3⟩

def Chn (w : World) (e : Ending) (w' : World) : Prop := ∃ (u : Value) (ps : List St) (v x : Int), e = .returned (.tuple #[u, .int .i64 v, .int .i64 x]) ∧ Own w' w.heap.size u ps ∧ ps.length ≤ 11 ∧ Below w.heap.size w w'
theorem DrawChanceOf_any (A : Option Addr) (n c : Nat) (w : World) (h : Byt w w.heap.size A n) (hn : n ≤ c) (hc : c ≤ maxLen) :
    Calls Try.prog 11 #[.slice A n c] w (Chn w) := by
  have c1 := Lib.hid (l5Case_any A n c w h hn hc)
  have c2 := Lib.hid (fun wx (hb : Below w.heap.size w wx) => DrawEventOf_any A n c wx ((h.keep hb).more hb.size) hn hc)
  clear h hc
  go_enter Try.func11, Try.ntmps11
  go_wp2_with fail
  refine (c1.out).mono ?_
  rintro e w1 ⟨v, u, ps, ds, rfl, ho, hl, hi, hd, hb⟩
  have ho' := Lib.hid ho
  clear ho hi
  go_wp2_with fail
  refine (c2.out _ hb).mono ?_
  rintro e w2 ⟨t1, t2, rfl, hb2⟩
  go_wp2_with fail
  go_ret3
  exact ⟨_, ps, _, _, rfl, ho'.out.below hb2, hl, hb.trans (hb2.mono hb.size)⟩
end Go.Proofs.Ytcphclkaddhfmaa
