/- Programs that are drawn one behind the other: l1Any, once more; DrawWeightsOf and DrawJoined. -/
import Derived.Test.YtbjpodgmmpchjaaDw
namespace Go.Proofs.Ytbjpodgmmpchjaa
set_option maxRecDepth 100000
set_option linter.unusedVariables false
open Go.RowKit

/-- How a drawn program ends: in memory of the call's own; of what was there the source alone has turned. -/
def Anyc (w : World) (R : Nat) (A : Option Addr) (n c p : Nat) (e : Ending) (w' : World) : Prop :=
  ∃ (v : Value) (os : List St) (p' : Nat), e = .returned v ∧ Own w' w.heap.size v os ∧ os.length ≤ 11 ∧ Chg w w' R ∧ p' ≤ p + 300 ∧ Rdr w' R R A n c p'

set_option maxHeartbeats 2000000 in
theorem l1Any_ch (A : Option Addr) (n c p R : Nat) (m : Int) (w w0 : World) (h : Rdr w R R A n c p) (hp : p ≤ 700000) (hn : n ≤ 2000) (hB : R ≤ w.heap.size) (hw : Below R w0 w) (hR : w0.heap.size = R) :
    Calls Try.prog 66 #[.pointer (some ⟨R, 0, none⟩), .int .i64 m] w (Anyc w R A n c p) := by
  have hlt := h.lt
  obtain ⟨i0, hi0, hz0, hz1', hz2'⟩ := info_parts info_stmt
  subst hR
  go_enter Try.func66, Try.ntmps66
  go_wp2_with fail
  refine (l1Draw_any _ A n c p _ m _ h (by omega) hn hB).mono ?_
  rintro e w1 ⟨v, os, p1, rfl, hown, hl1, hl10, hp1, hr1, hc1⟩
  obtain ⟨A', c', hv, hlc, hcm⟩ := hown.form
  subst hv
  have hO1 := Lib.hid hown
  clear hown
  have hb1 := hw.trans (hc1.below (Nat.le_refl _) hB)
  have hz1 := hc1.size
  have hc1' := Lib.hid hc1
  clear hc1 h
  go_wp2_with fail
  refine (pick_any _ A n c p1 _ _ _ hr1 (by omega) hn (by omega)).mono ?_
  rintro e w2 ⟨k, rfl, k0, k1, hr2, hc2⟩
  have hO2 := Lib.hid (hO1.out.chg hc2 hlt)
  have hC12 := Lib.hid (hc1'.out.trans hc2)
  have hb2 := hb1.trans (hc2.below (Nat.le_refl _) (by omega))
  have hz2 := hc2.size
  have hbOld := Lib.hid hb2
  have hRd2 := Lib.hid hr2
  replace hb2 : Below w.heap.size w2 w2 := Below.refl _ _
  clear hc2 hr1 hr2 hb1 hO1
  have hfin : ∀ (vv : Value) (qs : List St) (wz : World), Own wz w.heap.size vv qs → qs.length ≤ 11 → Below w.heap.size w2 wz → Anyc w w0.heap.size A n c p (.returned vv) wz := fun vv qs wz q1 q2 q3 =>
    ⟨vv, qs, p1 + 1, rfl, q1, q2, chg_below hC12.out q3, by omega, hRd2.out.below q3 hlt⟩
  have hFin := Lib.hid hfin
  clear hfin
  obtain ⟨g, cur, rfl, hgb, hHas, hcs⟩ := own_has hO2.out (by omega)
  have hfz := hHas.frozen
  obtain rfl | rfl | rfl | rfl | hk : k = 0 ∨ k = 1 ∨ k = 2 ∨ k = 3 ∨ 3 < k := by omega
  · obtain ⟨u0, y0⟩ := cell_in hHas (x := 1) (by omega)
    obtain ⟨qs, hql, hqo⟩ := own_put hO2.out 1 4
    have hQ := Lib.hid hqo
    have hb3 := hb2.setCell (p := ⟨g, 1, none⟩) (by show w.heap.size ≤ g; omega) (.int .i64 4)
    clear hqo
    have hq11 : qs.length ≤ 11 := by omega
    clear hql
    go_wp2
    go_ret
    exact hFin.out _ qs _ hQ.out hq11 hb3
  · obtain ⟨u0, y0⟩ := cell_in hHas (x := (os.length - 1) * 7) (by omega)
    obtain ⟨qs, hql, hqo⟩ := own_put hO2.out ((os.length - 1) * 7) 8
    have hQ := Lib.hid hqo
    have hb3 := hb2.setCell (p := ⟨g, (os.length - 1) * 7, none⟩) (by show w.heap.size ≤ g; omega) (.int .i64 8)
    clear hqo
    have hq11 : qs.length ≤ 11 := by omega
    clear hql
    go_wp2
    go_ret
    exact hFin.out _ qs _ hQ.out hq11 hb3
  · have hO3 := Lib.hid (hO2.out.alloc (.cells #[.int .i64 7, .int .i64 0, .int .i64 3, .int .i64 2, .int .i64 0, .int .i64 0, .int .i64 0] 64))
    have hb3 := hb2.alloc (by omega) (.cells #[.int .i64 7, .int .i64 0, .int .i64 3, .int .i64 2, .int .i64 0, .int .i64 0, .int .i64 0] 64)
    have hNew := Lib.hid (new_stmt w2 (⟨7, 0, 3, 2, 0, 0, 0⟩ : St))
    clear hHas hfz
    go_wp2_with (at_builtin; refine wpList_append_own _ rfl (.tmp 27) (.tmp 29) 26 rfl w.heap.size 64 i0 _ 7 56 Try.underlying26 hi0 hz0 hz1' hz2' rfl (by decide) (.slice (some ⟨g, 0, none⟩) os.length c') _ _ rfl hO3.out ⟨w2.heap.size, 0, none⟩ 1 1 (flat [(⟨7, 0, 3, 2, 0, 0, 0⟩ : St)]) ?hx ?c1 ?c2 ?c3 ?c4 ?c5 ?c6 ?_)
    case hx => first | rfl | simp [Act.eval]
    case c1 => rfl
    case c2 => exact hNew.out
    case c3 => exact flat_one _
    case c4 => unfold maxLen; omega
    case c5 => omega
    case c6 => (simp; omega)
    intro v' w3 hown' hgrow _
    have hN := hO3.out.append_ (news := [(⟨7, 0, 3, 2, 0, 0, 0⟩ : St)]) hown' hgrow (Below.refl _ _) (by simp; omega)
    have hb4 := hb3.grown hgrow (by simp; omega) (fun k hk => by have := (World.ownsRow.lt hO3.out k hk).1; omega)
    have hN1 := Lib.hid hN.1
    clear hN hown' hgrow hO3 hNew
    go_wp2
    go_ret
    exact hFin.out _ _ _ hN1.out (by rw [List.length_append]; show os.length + 1 ≤ 11; omega) hb4
  · clear hHas hfz
    go_wp2
    go_loopw [5] (fun l wr => ∃ qs : List St, qs.length ≤ 11 ∧ lenOf l = qs.length ∧ Own wr w.heap.size l qs ∧ Below w.heap.size w2 wr ∧ w.heap.size ≤ wr.heap.size) (fun l _ => 11 - lenOf l)
    case atStart => exact ⟨os, by omega, rfl, hO2.out, hb2, by omega⟩
    case round =>
      obtain ⟨qs, hq11, _, hown, hb3, hzw⟩ := hrel
      obtain ⟨A3, c3, hv3, hlc3, hcm3⟩ := hown.form
      subst hv3
      have hOq := Lib.hid hown
      have hzq := hb3.size
      clear hown
      by_cases hq : qs.length ≤ 10
      · have hO3 := Lib.hid (hOq.out.alloc (.cells #[.int .i64 0, .int .i64 1, .int .i64 (-1), .int .i64 1, .int .i64 0, .int .i64 0, .int .i64 0] 64))
        have hNew := Lib.hid (new_stmt wr (⟨0, 1, -1, 1, 0, 0, 0⟩ : St))
        have hb4 := hb3.alloc (by omega) (.cells #[.int .i64 0, .int .i64 1, .int .i64 (-1), .int .i64 1, .int .i64 0, .int .i64 0, .int .i64 0] 64)
        go_wp2_with (at_builtin; refine wpList_append_own _ rfl (.tmp 36) (.tmp 38) 26 rfl w.heap.size 64 i0 _ 7 56 Try.underlying26 hi0 hz0 hz1' hz2' rfl (by decide) (.slice A3 qs.length c3) _ _ rfl hO3.out ⟨wr.heap.size, 0, none⟩ 1 1 (flat [(⟨0, 1, -1, 1, 0, 0, 0⟩ : St)]) ?hx ?c1 ?c2 ?c3 ?c4 ?c5 ?c6 ?_)
        case c1 => rfl
        case c2 => first | exact hNew.out | (intro j u hu; simpa [flat, St.cells] using hu)
        case c3 => exact flat_one _
        case c4 => unfold maxLen; omega
        case c5 => omega
        case c6 => first | omega | (simp; omega)
        intro v' w3 hown' hgrow _
        have hN := hO3.out.append_ (news := [(⟨0, 1, -1, 1, 0, 0, 0⟩ : St)]) hown' hgrow (Below.refl _ _) (by simp; omega)
        have hb5 := hb4.grown hgrow (by simp; omega) (fun k hk => by have := (World.ownsRow.lt hO3.out k hk).1; omega)
        have hgz0 : wr.heap.size ≤ w3.heap.size := Nat.le_trans (by simp) hgrow.size
        have hN1 := hN.1
        obtain ⟨A5, c5, hv5, _, _⟩ := hN1.form
        subst hv5
        have hN2 := Lib.hid hN1
        clear hN hN1 hown' hgrow hO3 hNew
        have hgz : wr.heap.size ≤ w3.heap.size := hgz0
        go_wp2
        go_roundw
        case rel => exact ⟨_, by rw [List.length_append]; show qs.length + 1 ≤ 11; omega, rfl, hN2.out, hb5, by omega⟩
        case measure => (simp [lenOf]; try omega)
      · go_wp2
        go_ret
        exact hFin.out _ qs _ hOq.out hq11 hb3
  · have h0 : (k == 0) = false := by simp; omega
    have h1 : (k == 1) = false := by simp; omega
    have h2 : (k == 2) = false := by simp; omega
    have h3 : (k == 3) = false := by simp; omega
    go_wp2
    go_ret
    exact hFin.out _ os _ hO2.out (by omega) hb2

theorem DrawWeightsOf_any (A : Option Addr) (n c : Nat) (w : World) (h : Byt w w.heap.size A n) (hn : n ≤ c) (hc : c ≤ maxLen) :
    Calls Try.prog 32 #[.slice A n c] w (Anyd w) := by
  have hO := Lib.hid (l40Open_any A n c _ h hn hc)
  clear h hc
  go_enter Try.func32, Try.ntmps32
  go_wp2_with fail
  refine (hO.out).mono ?_
  rintro e w1 ⟨rfl, ⟨n', hn', hrd⟩, hb1⟩
  have hz1 : w.heap.size < w1.heap.size := hrd.lt
  clear hO
  go_wp2_with fail
  refine (l1Any_any A n' c 0 w.heap.size 5 w1 w hrd (by omega) hn' (by omega) hb1 rfl).mono ?_
  rintro e w2 ⟨v, os, rfl, hown, hl, hb2⟩
  obtain ⟨A', c', hv, hlc, hcm⟩ := hown.form
  subst hv
  have hO1 := Lib.hid hown
  clear hown hrd hb1
  go_wp2
  go_ret
  exact ⟨_, os, rfl, hO1.out, hl, hb2⟩

theorem own_short {w : World} {base n c k : Nat} {A : Option Addr} {ps : List St} (h : w.ownsRow base 64 7 (.slice A n c) n (flat ps)) (h0 : 0 < k) (hk : k ≤ n) (hl : ps.length = n) : w.ownsRow base 64 7 (.slice A k c) k (flat (ps.take k)) := by
  have h1 := owns_take h h0 hk
  have e : (flat ps).take (k * 7) = flat (ps.take k) := by
    have h2 : flat ps = flat (ps.take k) ++ flat (ps.drop k) := by rw [← flat_append, List.take_append_drop]
    have h3 : (flat (ps.take k)).length = k * 7 := by rw [flat_length, List.length_take]; omega
    rw [h2, ← h3, List.take_left]
  rwa [e] at h1

/-- How drawing two programs ends. -/
def Jnd (w : World) (e : Ending) (w' : World) : Prop :=
  ∃ (A1 A2 : Option Addr) (c1 c2 : Nat) (ps qs : List St), e = .returned (.tuple #[.slice A1 ps.length c1, .slice A2 qs.length c2]) ∧ Own w' w.heap.size (.slice A1 ps.length c1) ps ∧ ps.length ≤ 11 ∧ ps.length ≤ c1 ∧ c1 ≤ maxLen ∧ Own w' w.heap.size (.slice A2 qs.length c2) qs ∧ qs.length ≤ 11 ∧ qs.length ≤ c2 ∧ c2 ≤ maxLen ∧ Below w.heap.size w w'

set_option maxHeartbeats 1000000 in
theorem DrawJoined_any (A : Option Addr) (n c : Nat) (w : World) (h : Byt w w.heap.size A n) (hn : n ≤ c) (hc : c ≤ maxLen) :
    Calls Try.prog 39 #[.slice A n c] w (Jnd w) := by
  have hO := Lib.hid (l40Open_any A n c _ h hn hc)
  clear h hc
  go_enter Try.func39, Try.ntmps39
  go_wp2_with fail
  refine (hO.out).mono ?_
  rintro e w1 ⟨rfl, ⟨n', hn', hrd⟩, hb1⟩
  have hz1 : w.heap.size < w1.heap.size := hrd.lt
  clear hO
  go_wp2_with fail
  refine (l1Any_ch A n' c 0 w.heap.size 2 w1 w hrd (by omega) hn' (by omega) hb1 rfl).mono ?_
  rintro e w2 ⟨v, ps, p2, rfl, hP, hl, hc2, hp2, hr2⟩
  obtain ⟨A1, c1, hv, hlc, hcm⟩ := hP.form
  subst hv
  have hB2 := hb1.trans (hc2.below (Nat.le_refl _) (by omega))
  have hz2 := hr2.lt
  clear hrd hc2
  go_wp2_with fail
  refine (l1Any_ch A n' c p2 w.heap.size 2 w2 w hr2 (by omega) hn' (by omega) hB2 rfl).mono ?_
  rintro e w3 ⟨v, qs, p3, rfl, hQ, hl2, hc3, hp3, hr3⟩
  obtain ⟨A2, c2, hv, hlc2, hcm2⟩ := hQ.form
  subst hv
  have hP3 := Lib.hid (show w3.ownsRow w.heap.size 64 7 (.slice A1 ps.length c1) ps.length (flat ps) from owns_le (owns_chg hP hc3 (by omega)) (by omega))
  have hQ3 := Lib.hid (show w3.ownsRow w.heap.size 64 7 (.slice A2 qs.length c2) qs.length (flat qs) from owns_le hQ (by omega))
  have hB3 := Lib.hid (hB2.trans (hc3.below (Nat.le_refl _) (by omega)))
  clear hr2 hr3 hc3 hP hQ hB2 hb1
  have hfin := Lib.hid (show ∀ (k j : Nat), 0 < k ∨ k = ps.length → 0 < j ∨ j = qs.length → k ≤ ps.length → j ≤ qs.length → Jnd w (.returned (.tuple #[.slice A1 k c1, .slice A2 j c2])) w3 from fun k j hk hj hk2 hj2 => by
    have key : ∀ {A : Option Addr} {c k : Nat} {ps : List St}, w3.ownsRow w.heap.size 64 7 (.slice A ps.length c) ps.length (flat ps) → (0 < k ∨ k = ps.length) → k ≤ ps.length → Own w3 w.heap.size (.slice A k c) (ps.take k) := fun {A c k ps} h1 h2 h3 => by
      unfold Own
      rw [List.length_take, Nat.min_eq_left h3]
      rcases h2 with h2 | h2
      · exact own_short h1 h2 h3 rfl
      · subst h2
        rw [List.take_length]
        exact h1
    have e1 : (ps.take k).length = k := by rw [List.length_take]; omega
    have e2 : (qs.take j).length = j := by rw [List.length_take]; omega
    refine ⟨A1, A2, c1, c2, ps.take k, qs.take j, by rw [e1, e2], by rw [e1]; exact key hP3.out hk hk2, by omega, by omega, hcm, by rw [e2]; exact key hQ3.out hj hj2, by omega, by omega, hcm2, hB3.out⟩)
  by_cases h5 : 5 < ps.length
  · by_cases h6 : 5 < qs.length
    · go_wp2_with fail
      go_ret2
      exact hfin.out 5 5 (.inl (by decide)) (.inl (by decide)) (by omega) (by omega)
    · go_wp2_with fail
      go_ret2
      exact hfin.out 5 qs.length (.inl (by decide)) (.inr rfl) (by omega) (by omega)
  · by_cases h6 : 5 < qs.length
    · go_wp2_with fail
      go_ret2
      exact hfin.out ps.length 5 (.inr rfl) (.inl (by decide)) (by omega) (by omega)
    · go_wp2_with fail
      go_ret2
      exact hfin.out ps.length qs.length (.inr rfl) (.inr rfl) (by omega) (by omega)

end Go.Proofs.Ytbjpodgmmpchjaa
