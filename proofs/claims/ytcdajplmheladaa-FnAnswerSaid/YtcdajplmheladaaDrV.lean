/- Drawn programs, and what the source of numbers is behind them. A drawn program and draws for it. Drawn traces, and drawn texts of traces. A drawn argument of Unrolled. Drawn programs for the laws of traces, alone and with draws. -/
import Derived.Test.YtcdajplmheladaaDr
import Derived.Test.YtcdajplmheladaaFm
import Derived.Test.YtcdajplmheladaaTx
import Derived.Test.YtcdajplmheladaaOpB
namespace Go.Proofs.Ytcdajplmheladaa
set_option maxRecDepth 100000
set_option linter.unusedVariables false
open Go.RowKit

/-- How a drawn program ends: it is well formed, in memory of its own behind the source, and the source goes on. -/
def Anyr (w : World) (R : Nat) (A : Option Addr) (n c p : Nat) (e : Ending) (w' : World) : Prop :=
  ∃ (v : Value) (os : List St) (p' : Nat), e = .returned v ∧ Own w' (w.heap.size + 1) v os ∧ os.length ≤ 11 ∧ Below w.heap.size w w' ∧ p' ≤ p + 300 ∧ Rdr w' R R A n c p'

set_option maxHeartbeats 2000000 in
theorem l1Any_rd (A : Option Addr) (n c p R : Nat) (m : Int) (w w0 : World) (h : Rdr w R R A n c p) (hp : p ≤ 700000) (hn : n ≤ 2000) (hB : R ≤ w.heap.size) (hw : Below R w0 w) (hR : w0.heap.size = R) :
    Calls Try.prog 63 #[.pointer (some ⟨R, 0, none⟩), .int .i64 m] w (Anyr w0 R A n c p) := by
  have hlt := h.lt
  obtain ⟨i0, hi0, hz0, hz1', hz2'⟩ := info_parts info_stmt
  subst hR
  go_enter Try.func63, Try.ntmps63
  go_wp2_with fail
  refine (l1Draw_any _ A n c p _ m _ h (by omega) hn hB).mono ?_
  rintro e w1 ⟨v, os, p1, rfl, hown, hl1, hl10, hp1, hr1, hc1⟩
  obtain ⟨A', c', hv, hlc, hcm⟩ := hown.form
  subst hv
  have hO1 := Lib.hid hown
  clear hown
  have hb1 := hw.trans (hc1.below (Nat.le_refl _) hB)
  have hz1 := hc1.size
  clear hc1 h
  go_wp2_with fail
  refine (pick_any _ A n c p1 _ _ _ hr1 (by omega) hn (by omega)).mono ?_
  rintro e w2 ⟨k, rfl, k0, k1, hr2, hc2⟩
  have hO2 := Lib.hid (hO1.out.chg hc2 hlt)
  have hb2 := hb1.trans (hc2.below (Nat.le_refl _) (by omega))
  have hz2 := hc2.size
  have hbOld := Lib.hid hb2
  have hRd2 := Lib.hid hr2
  replace hb2 : Below (w0.heap.size + 1) w2 w2 := Below.refl _ _
  have hbase : ∀ (wz : World) (vv : Value) (qs : List St), Own wz w.heap.size vv qs → Own wz (w0.heap.size + 1) vv qs := fun wz vv qs hh => by
    refine ⟨hh.1, ?_⟩
    rcases hh.2 with hx | ⟨g, cap, cur, q1, q2, q3⟩
    · exact .inl hx
    · exact .inr ⟨g, cap, cur, q1, by omega, q3⟩
  have hBase := Lib.hid hbase
  clear hc2 hr1 hr2 hb1 hO1 hbase
  have hfin : ∀ (vv : Value) (qs : List St) (wz : World), Own wz w.heap.size vv qs → qs.length ≤ 11 → Below (w0.heap.size + 1) w2 wz → Anyr w0 w0.heap.size A n c p (.returned vv) wz := fun vv qs wz q1 q2 q3 =>
    ⟨vv, qs, p1 + 1, rfl, hBase.out _ _ _ q1, q2, hbOld.out.trans (q3.mono (Nat.le_succ _)), by omega, ⟨hRd2.out.1.below q3 (Nat.lt_succ_self _), hRd2.out.2.1, hRd2.out.2.2.keep (q3.mono (Nat.le_succ _))⟩⟩
  have hFin := Lib.hid hfin
  clear hfin
  obtain ⟨g, cur, rfl, hgb, hHas, hcs⟩ := own_has hO2.out (by omega)
  have hfz := hHas.frozen
  obtain rfl | rfl | rfl | rfl | hk : k = 0 ∨ k = 1 ∨ k = 2 ∨ k = 3 ∨ 3 < k := by omega
  · obtain ⟨u0, y0⟩ := cell_in hHas (x := 1) (by omega)
    obtain ⟨qs, hql, hqo⟩ := own_put hO2.out 1 4
    have hQ := Lib.hid hqo
    have hb3 := hb2.setCell (p := ⟨g, 1, none⟩) (by show w0.heap.size + 1 ≤ g; omega) (.int .i64 4)
    clear hqo
    have hq11 : qs.length ≤ 11 := by omega
    clear hql
    go_wp2
    go_ret
    exact hFin.out _ qs _ hQ.out hq11 hb3
  · obtain ⟨u0, y0⟩ := cell_in hHas (x := (os.length - 1) * 7) (by omega)
    obtain ⟨qs, hql, hqo⟩ := own_put hO2.out ((os.length - 1) * 7) 8
    have hQ := Lib.hid hqo
    have hb3 := hb2.setCell (p := ⟨g, (os.length - 1) * 7, none⟩) (by show w0.heap.size + 1 ≤ g; omega) (.int .i64 8)
    clear hqo
    have hq11 : qs.length ≤ 11 := by omega
    clear hql
    go_wp2
    go_ret
    exact hFin.out _ qs _ hQ.out hq11 hb3
  · have hO3 := Lib.hid (hO2.out.alloc (.cells #[.int .i64 7, .int .i64 0, .int .i64 3, .int .i64 2, .int .i64 0, .int .i64 0, .int .i64 0] 69))
    have hb3 := hb2.alloc (by omega) (.cells #[.int .i64 7, .int .i64 0, .int .i64 3, .int .i64 2, .int .i64 0, .int .i64 0, .int .i64 0] 69)
    have hNew := Lib.hid (new_stmt w2 (⟨7, 0, 3, 2, 0, 0, 0⟩ : St))
    clear hHas hfz
    go_wp2_with (at_builtin; refine wpList_append_own _ rfl (.tmp 27) (.tmp 29) 27 rfl w.heap.size 69 i0 _ 7 56 Try.underlying27 hi0 hz0 hz1' hz2' rfl (by decide) (.slice (some ⟨g, 0, none⟩) os.length c') _ _ rfl hO3.out ⟨w2.heap.size, 0, none⟩ 1 1 (flat [(⟨7, 0, 3, 2, 0, 0, 0⟩ : St)]) ?hx ?c1 ?c2 ?c3 ?c4 ?c5 ?c6 ?_)
    case hx => first | rfl | simp [Act.eval]
    case c1 => rfl
    case c2 => exact hNew.out
    case c3 => exact flat_one _
    case c4 => unfold maxLen; omega
    case c5 => omega
    case c6 => (simp; omega)
    intro v' w3 hown' hgrow _
    have hN := hO3.out.append_ (news := [(⟨7, 0, 3, 2, 0, 0, 0⟩ : St)]) hown' hgrow (Below.refl _ _) (by simp; omega)
    have hb4 := hb3.grown hgrow (by simp; omega) (fun k hk => by have := (World.ownsRow.lt hO3.out k hk).1; omega)
    have hN1 := Lib.hid hN.1
    clear hN hown' hgrow hO3 hNew
    go_wp2
    go_ret
    exact hFin.out _ _ _ hN1.out (by rw [List.length_append]; show os.length + 1 ≤ 11; omega) hb4
  · clear hHas hfz
    go_wp2
    go_loopw [5] (fun l wr => ∃ qs : List St, qs.length ≤ 11 ∧ lenOf l = qs.length ∧ Own wr w.heap.size l qs ∧ Below (w0.heap.size + 1) w2 wr ∧ w.heap.size ≤ wr.heap.size) (fun l _ => 11 - lenOf l)
    case atStart => exact ⟨os, by omega, rfl, hO2.out, hb2, by omega⟩
    case round =>
      obtain ⟨qs, hq11, _, hown, hb3, hzw⟩ := hrel
      obtain ⟨A3, c3, hv3, hlc3, hcm3⟩ := hown.form
      subst hv3
      have hOq := Lib.hid hown
      have hzq := hb3.size
      clear hown
      by_cases hq : qs.length ≤ 10
      · have hO3 := Lib.hid (hOq.out.alloc (.cells #[.int .i64 0, .int .i64 1, .int .i64 (-1), .int .i64 1, .int .i64 0, .int .i64 0, .int .i64 0] 69))
        have hNew := Lib.hid (new_stmt wr (⟨0, 1, -1, 1, 0, 0, 0⟩ : St))
        have hb4 := hb3.alloc (by omega) (.cells #[.int .i64 0, .int .i64 1, .int .i64 (-1), .int .i64 1, .int .i64 0, .int .i64 0, .int .i64 0] 69)
        go_wp2_with (at_builtin; refine wpList_append_own _ rfl (.tmp 36) (.tmp 38) 27 rfl w.heap.size 69 i0 _ 7 56 Try.underlying27 hi0 hz0 hz1' hz2' rfl (by decide) (.slice A3 qs.length c3) _ _ rfl hO3.out ⟨wr.heap.size, 0, none⟩ 1 1 (flat [(⟨0, 1, -1, 1, 0, 0, 0⟩ : St)]) ?hx ?c1 ?c2 ?c3 ?c4 ?c5 ?c6 ?_)
        case c1 => rfl
        case c2 => first | exact hNew.out | (intro j u hu; simpa [flat, St.cells] using hu)
        case c3 => exact flat_one _
        case c4 => unfold maxLen; omega
        case c5 => omega
        case c6 => first | omega | (simp; omega)
        intro v' w3 hown' hgrow _
        have hN := hO3.out.append_ (news := [(⟨0, 1, -1, 1, 0, 0, 0⟩ : St)]) hown' hgrow (Below.refl _ _) (by simp; omega)
        have hb5 := hb4.grown hgrow (by simp; omega) (fun k hk => by have := (World.ownsRow.lt hO3.out k hk).1; omega)
        have hgz0 : wr.heap.size ≤ w3.heap.size := Nat.le_trans (by simp) hgrow.size
        have hN1 := hN.1
        obtain ⟨A5, c5, hv5, _, _⟩ := hN1.form
        subst hv5
        have hN2 := Lib.hid hN1
        clear hN hN1 hown' hgrow hO3 hNew
        have hgz : wr.heap.size ≤ w3.heap.size := hgz0
        go_wp2
        go_roundw
        case rel => exact ⟨_, by rw [List.length_append]; show qs.length + 1 ≤ 11; omega, rfl, hN2.out, hb5, by omega⟩
        case measure => (simp [lenOf]; try omega)
      · go_wp2
        go_ret
        exact hFin.out _ qs _ hOq.out hq11 hb3
  · have h0 : (k == 0) = false := by simp; omega
    have h1 : (k == 1) = false := by simp; omega
    have h2 : (k == 2) = false := by simp; omega
    have h3 : (k == 3) = false := by simp; omega
    go_wp2
    go_ret
    exact hFin.out _ os _ hO2.out (by omega) hb2

end Go.Proofs.Ytcdajplmheladaa

namespace Go.Proofs.Ytcdajplmheladaa
set_option maxRecDepth 100000
set_option linter.unusedVariables false
open Go.RowKit

theorem rowsT_len {ps : List St} : ∀ ds ∈ rowsT (tracesOf ps), ds.length ≤ 6 := by
  intro ds hd
  unfold rowsT at hd
  obtain ⟨l, hl, rfl⟩ := List.mem_map.1 hd
  cases hu : unrolled ps with
  | none => rw [tracesOf_none hu] at hl; simp at hl
  | some os =>
    by_cases hm : 6 < (os.filter St.draws).length
    · rw [tracesOf_many hu hm] at hl; simp at hl
    · rw [tracesOf_some hu (by omega)] at hl
      obtain ⟨_, _, _, _, hOK⟩ := unrolled_parts hu
      have := (traces_fit (fun s hs => List.all_eq_true.1 hOK s hs) hl).2.2.2
      omega

theorem Rdr.below {w w' : World} {R : Nat} {A : Option Addr} {n c p B : Nat} (h : Rdr w R R A n c p) (hb : Below B w w') (hB : R < B) : Rdr w' R R A n c p :=
  ⟨h.1.below hb hB, h.2.1, h.2.2.keep (hb.mono (Nat.le_of_lt hB))⟩

/-- How drawing a program and draws ends. -/
def Cased (w : World) (e : Ending) (w' : World) : Prop :=
  ∃ (v u : Value) (os : List St) (ds : List Int), e = .returned (.tuple #[v, u]) ∧ Own w' w.heap.size v os ∧ os.length ≤ 11 ∧ IOwn w' w.heap.size u ds ∧ ds.length ≤ 12 ∧ Below w.heap.size w w'
theorem own_le {w : World} {base base' : Nat} {v : Value} {os : List St} (h : Own w base v os) (hb : base' ≤ base) : Own w base' v os := owns_le h hb

set_option maxHeartbeats 4000000 in
theorem l2Case_any (A : Option Addr) (n c : Nat) (w : World) (h : Byt w w.heap.size A n) (hn : n ≤ c) (hc : c ≤ maxLen) :
    Calls Try.prog 67 #[.slice A n c] w (Cased w) := by
  have hO := Lib.hid (l40Open_any A n c _ h hn hc)
  obtain ⟨j0, kj0, kz0, kz1, kz2⟩ := info_parts info_int
  clear h hc
  go_enter Try.func67, Try.ntmps67
  go_wp2_with fail
  refine (hO.out).mono ?_
  rintro e w1 ⟨rfl, ⟨n', hn', hrd⟩, hb1⟩
  have hz1 : w.heap.size < w1.heap.size := hrd.lt
  clear hO
  go_wp2_with fail
  refine (l1Any_rd A n' c 0 w.heap.size 4 w1 w hrd (by omega) hn' (by omega) hb1 rfl).mono ?_
  rintro e w2 ⟨v, os, p2, rfl, hown, hl, hb2, hp2, hr2⟩
  obtain ⟨A', c', hv, hlc, hcm⟩ := hown.form
  subst hv
  have hz2 : w.heap.size < w2.heap.size := hr2.lt
  clear hrd hb1
  generalize hlm : os.length = m at hl hlc ⊢
  have hLst : Lst w2 w2.heap.size A' m os := by rw [← hlm]; exact hown.lst
  have cT := Lib.hid (specTracesOf_any A' m c' os w2 hLst hlc hcm (by omega))
  have hrl := Lib.hid (rowsT_len (ps := os))
  unfold TrOd at cT
  generalize rowsT (tracesOf os) = rs at cT hrl
  generalize (tracesOf os).isSome = bb at cT
  clear hLst
  go_wp2_with fail
  refine (cT.out).mono ?_
  rintro e w3 ⟨v3, vs3, rfl, hR3, hb3⟩
  obtain ⟨A3, c3, hv3, _, _⟩ := RowsV.form hR3
  subst hv3
  have hB3 := Lib.hid (hb2.trans (hb3.mono (Nat.le_of_lt hz2)))
  have hr3 := hr2.below hb3 hz2
  have hO3 := Lib.hid (hown.below hb3)
  have hz3 : w.heap.size < w3.heap.size := hr3.lt
  have hlm' := Lib.hid hlm
  clear hown hb2 hb3 hr2 cT hlm
  generalize hq : rs.length = q at hR3 ⊢
  have hRR := Lib.hid hR3
  clear hR3
  by_cases hgo : bb = true ∧ 0 < q
  · obtain ⟨hbb, hq0⟩ := hgo
    subst hbb
    go_wp2_with fail
    refine (pick_any w.heap.size A n' c p2 w.heap.size 5 _ hr3 (by omega) hn' (by omega)).mono ?_
    rintro e w4 ⟨k, rfl, k0, k1, hr4, hc4⟩
    have hO4 := Lib.hid (hO3.out.chg hc4 (Nat.lt_succ_self _))
    have hz4 := hc4.size
    have hB4 := Lib.hid (hB3.out.trans (hc4.below (Nat.le_refl _) (by omega)))
    have hR4 := Lib.hid (hRR.out.but (KeptBut.of_grown hc4 (S := fun i => i = w.heap.size) (fun k e => by injection e with e; exact e.symm)) (fun k hk e => by have := (World.ownsRow.lt hRR.out.1 k hk).1; omega) (fun k cur hk hb hx e => by omega))
    clear hc4 hr3
    by_cases hk : 0 < k
    · have hA3 : ∃ g3, A3 = some ⟨g3, 0, none⟩ := by
        rcases hR4.out.1.2 with ⟨hv, hn0⟩ | ⟨g, cap, cur, hv, _⟩
        · rw [hq] at hn0; omega
        · injection hv with e1 _ _
          exact ⟨g, e1⟩
      obtain ⟨g3, rfl⟩ := hA3
      have hPk := Lib.hid (show ∀ (w5 : World) (i : Nat), i < q → Chg w4 w5 w.heap.size → ∃ (Ax : Option Addr) (cx : Nat) (ds : List Int), w5.cell? ⟨g3, i, none⟩ = some (.slice Ax ds.length cx) ∧ IOwn w5 w.heap.size (.slice Ax ds.length cx) ds ∧ ds.length ≤ 6 ∧ Own w5 (w.heap.size + 1) (.slice A' m c') os ∧ Below w.heap.size w w5 from by
        intro w5 i hiq hc5
        have hR5 := hR4.out.but (KeptBut.of_grown hc5 (S := fun i => i = w.heap.size) (fun k e => by injection e with e; exact e.symm)) (fun k hk e => by have := (World.ownsRow.lt hR4.out.1 k hk).1; omega) (fun k cur hk hb hx e => by omega)
        have hvl := hR5.length
        obtain ⟨x, hx⟩ : ∃ x, vs3[i]? = some x := ⟨_, List.getElem?_eq_getElem (by omega)⟩
        obtain ⟨ds, hds, hxo⟩ := hR5.2 i x hx
        have hdl := hrl.out ds (List.mem_of_getElem? hds)
        obtain ⟨Ax, cx, hvx, _, _⟩ := IOwn.form hxo
        subst hvx
        refine ⟨Ax, cx, ds, ?_, owns_le hxo (by omega), hdl, hlm'.out ▸ hO4.out.chg hc5 (Nat.lt_succ_self _), hB4.out.trans (hc5.below (Nat.le_refl _) (by omega))⟩
        rw [← World.ownsRow.cells hR5.1 (g := g3) rfl i _ hx]
        congr 1
        unfold Addr.add
        split
        · (rename_i h0; simp at h0 ⊢; try omega)
        · (simp; try omega))
      go_wp2_with fail
      go_region_law (first | (go_simp; go_at_call 65; refine (pick_any w.heap.size A n' c (p2 + 1) w.heap.size q _ (by exact ⟨hr4.1, hr4.2.1, hr4.2.2⟩) (by omega) hn' (by omega)).mono ?_; rintro e w5 ⟨i5, rfl, i50, i51, hr5, hc5⟩; obtain ⟨i, rfl⟩ : ∃ i : Nat, i5 = i := ⟨i5.toNat, by omega⟩; obtain ⟨Ax, cx, ds, hcl, hXo', hdl, hOw', hBw'⟩ := hPk.out w5 i (by omega) (((Chg.refl w4 _).drewN 1).trans (by exact hc5)); have hk0 : (0 : Int) ≤ (i : Int) := Int.natCast_nonneg _; have hk1 : (i : Int) < (q : Int) := (by omega); have hXo := Lib.hid hXo'; have hOw := Lib.hid hOw'; have hBw := Lib.hid hBw'; clear hXo' hOw' hBw' hr5 hc5))
      all_goals
        go_wp2
        go_ret2
        exact ⟨_, _, os, ds, rfl, own_le hOw.out (Nat.le_succ _), by rw [hlm'.out]; omega, hXo.out, by omega, hBw.out⟩
    · have hkk : k = 0 := by omega
      subst hkk
      have hra := Rdr.alloc hr4 (by omega) (.cells #[] 3)
      have hOa := Lib.hid (hO4.out.alloc (.cells #[] 3))
      have hBa := Lib.hid (hB4.out.alloc (by omega) (.cells #[] 3))
      have hIa := Lib.hid (own_none w4 3 w4.heap.size rfl)
      go_wp2_with fail
      refine (pick_any w.heap.size A n' c (p2 + 1) w.heap.size 5 _ hra (by omega) hn' (by omega)).mono ?_
      rintro e w5 ⟨k5, rfl, k50, k51, hr5, hc5⟩
      have hO5 := Lib.hid (hOa.out.chg hc5 (Nat.lt_succ_self _))
      have hz5 := hc5.size
      have hB5 := Lib.hid (hBa.out.trans (hc5.below (Nat.le_refl _) (by simp; omega)))
      have hI5 := Lib.hid (owns_but hIa.out (KeptBut.of_grown hc5 (S := fun i => i = w.heap.size) (fun k e => by injection e with e; exact e.symm)) (fun k hk e => by have := (World.ownsRow.lt hIa.out k hk).1; omega))
      clear hc5 hra
      go_wp2_with fail
      obtain ⟨kj, rfl⟩ : ∃ j : Nat, k5 = j := ⟨k5.toNat, by omega⟩
      have hR5 := Lib.hid hr5
      clear hr5
      go_loopw [8, 9] (fun v i wr => ∃ (j p' : Nat) (es : List Int), j ≤ 4 ∧ i = .int .i64 j ∧ es.length + j ≤ 4 ∧ p' + 2 * j ≤ 400 ∧ IOwn wr (w.heap.size + 1) v es ∧ Own wr (w.heap.size + 1) (.slice A' os.length c') os ∧ Rdr wr w.heap.size w.heap.size A n' c p' ∧ Below w.heap.size w wr) (fun _ i _ => (intOf i).toNat)
      case atStart => exact ⟨kj, _, [], by omega, rfl, by simp; omega, by omega, owns_le hI5.out (by omega), hO5.out, hR5.out, hB5.out⟩
      case round =>
        obtain ⟨j, p', es, hj, rfl, hej, hpj, hIe, hOw, hrw, hbw⟩ := hrel
        have hzw := hrw.lt
        by_cases hj0 : 0 < j
        · have hIw := Lib.hid hIe
          have hOww := Lib.hid hOw
          clear hIe hOw
          go_wp2_with fail
          refine (pick_any w.heap.size A n' c p' w.heap.size 3 _ hrw (by omega) hn' (by omega)).mono ?_
          rintro e w6 ⟨x, rfl, x0, x1, hr6, hc6⟩
          have hI6 := Lib.hid (owns_but hIw.out (KeptBut.of_grown hc6 (S := fun i => i = w.heap.size) (fun k e => by injection e with e; exact e.symm)) (fun k hk e => by have := (World.ownsRow.lt hIw.out k hk).1; omega))
          have hO6 := Lib.hid (hOww.out.chg hc6 (Nat.lt_succ_self _))
          have hB6 := Lib.hid (hbw.trans (hc6.below (Nat.le_refl _) (by omega)))
          have hz6 := hr6.lt
          clear hc6 hrw hbw
          go_wp2_with fail
          refine (pick_any w.heap.size A n' c (p' + 1) w.heap.size 30 _ hr6 (by omega) hn' (by omega)).mono ?_
          rintro e w7 ⟨y, rfl, y0, y1, hr7, hc7⟩
          have hI7 := owns_but hI6.out (KeptBut.of_grown hc7 (S := fun i => i = w.heap.size) (fun k e => by injection e with e; exact e.symm)) (fun k hk e => by have := (World.ownsRow.lt hI6.out k hk).1; omega)
          have hO7 := Lib.hid ((hO6.out.chg hc7 (Nat.lt_succ_self _)).alloc (.cells #[.int .i64 (x + y / 29)] 3))
          have hB7 := hB6.out.trans (hc7.below (Nat.le_refl _) (by omega))
          have hz7 := hr7.lt
          have hIa7 := Lib.hid (World.ownsRow.alloc hI7 (.cells #[.int .i64 (x + y / 29)] 3))
          have hNew := Lib.hid (new_one w7 (.int .i64 (x + y / 29)) 3)
          have hBa7 := hB7.alloc (by omega) (.cells #[.int .i64 (x + y / 29)] 3)
          have hra7 := Lib.hid (Rdr.alloc hr7 (by omega) (.cells #[.int .i64 (x + y / 29)] 3))
          clear hc7 hr6 hr7 hI7 hB7
          go_wp2_with (at_builtin; refine wpList_append_own_at _ rfl (.tmp 45) (.tmp 52) 23 rfl (w.heap.size + 1) 3 j0 _ 1 8 Try.underlying23 kj0 kz0 kz1 kz2 rfl (by decide) _ es.length (ints es) rfl hIa7.out ⟨w7.heap.size, 0, none⟩ 1 1 [.int .i64 (x + y / 29)] ?hx ?c1 ?c2 ?c3 ?c4 ?c5 ?c6 ?_)
          all_goals try (case hx => first | rfl | (simp; done))
          all_goals try (case c1 => rfl)
          all_goals try (case c2 => first | exact hNew.out | (intro j u hu; simpa using hu))
          all_goals try (case c3 => simp [Value.oneCell'])
          all_goals try (case c4 => unfold maxLen; omega)
          all_goals try (case c5 => omega)
          all_goals try (case c6 => first | omega | (simp; done) | (simp; omega))
          intro v' w8 hown8 hgrow8 _ _
          obtain ⟨A8, c8, hv8, _, _⟩ := owns_form hown8
          subst hv8
          have hI8 := Lib.hid (show IOwn w8 (w.heap.size + 1) (.slice A8 (es.length + 1) c8) (es ++ [x + y / 29]) from by
            unfold IOwn
            rw [List.length_append, ints_append]
            exact hown8)
          have hO8 := Lib.hid (show Own w8 (w.heap.size + 1) (.slice A' os.length c') os from owns_but hO7.out (KeptBut.of_grown hgrow8 (S := fun i => Value.ownBlock _ = some i) (fun k e => e)) (fun k hk e => by
            obtain ⟨q1, h1⟩ := owns_has hO7.out hk
            obtain ⟨q2, h2⟩ := owns_has hIa7.out e
            exact has_ne h1 h2 (by decide) rfl))
          have hB8 := Lib.hid (hBa7.grown hgrow8 (by simp; omega) (fun k hk => by have := (World.ownsRow.lt hIa7.out k hk).1; omega))
          have hr8 := Lib.hid (hra7.out.grown hgrow8 (fun k hk => by have := (World.ownsRow.lt hIa7.out k hk).1; omega) (by simp; omega))
          clear hown8 hgrow8 hBa7 hNew hIa7 hra7 hO7
          go_wp2
          go_roundw
          case rel => exact ⟨j - 1, p' + 1 + 1, es ++ [x + y / 29], by omega, congrArg (Value.int .i64) (by omega), by simp; omega, by omega, hI8.out, hO8.out, hr8.out, hB8.out⟩
          case measure => (simp [intOf]; try omega)
        · have hI9 := Lib.hid (owns_le hIe (Nat.le_succ _))
          have hO9 := Lib.hid (own_le hOw (Nat.le_succ _))
          have hj00 : j = 0 := by omega
          subst hj00
          clear hIe hOw
          go_wp2
          go_ret2
          exact ⟨_, _, os, es, rfl, hlm'.out ▸ hO9.out, by rw [hlm'.out]; omega, hI9.out, by omega, hbw⟩
  · cases hbb : bb
    · skip
      have hra := Rdr.alloc hr3 (by omega) (.cells #[] 3)
      have hOa := Lib.hid (hO3.out.alloc (.cells #[] 3))
      have hBa := Lib.hid (hB3.out.alloc (by omega) (.cells #[] 3))
      have hIa := Lib.hid (own_none w3 3 w3.heap.size rfl)
      go_wp2_with fail
      refine (pick_any w.heap.size A n' c (p2) w.heap.size 5 _ hra (by omega) hn' (by omega)).mono ?_
      rintro e w5 ⟨k5, rfl, k50, k51, hr5, hc5⟩
      have hO5 := Lib.hid (hOa.out.chg hc5 (Nat.lt_succ_self _))
      have hz5 := hc5.size
      have hB5 := Lib.hid (hBa.out.trans (hc5.below (Nat.le_refl _) (by simp; omega)))
      have hI5 := Lib.hid (owns_but hIa.out (KeptBut.of_grown hc5 (S := fun i => i = w.heap.size) (fun k e => by injection e with e; exact e.symm)) (fun k hk e => by have := (World.ownsRow.lt hIa.out k hk).1; omega))
      clear hc5 hra
      go_wp2_with fail
      obtain ⟨kj, rfl⟩ : ∃ j : Nat, k5 = j := ⟨k5.toNat, by omega⟩
      have hR5 := Lib.hid hr5
      clear hr5
      go_loopw [8, 9] (fun v i wr => ∃ (j p' : Nat) (es : List Int), j ≤ 4 ∧ i = .int .i64 j ∧ es.length + j ≤ 4 ∧ p' + 2 * j ≤ 400 ∧ IOwn wr (w.heap.size + 1) v es ∧ Own wr (w.heap.size + 1) (.slice A' os.length c') os ∧ Rdr wr w.heap.size w.heap.size A n' c p' ∧ Below w.heap.size w wr) (fun _ i _ => (intOf i).toNat)
      case atStart => exact ⟨kj, _, [], by omega, rfl, by simp; omega, by omega, owns_le hI5.out (by omega), hO5.out, hR5.out, hB5.out⟩
      case round =>
        obtain ⟨j, p', es, hj, rfl, hej, hpj, hIe, hOw, hrw, hbw⟩ := hrel
        have hzw := hrw.lt
        by_cases hj0 : 0 < j
        · have hIw := Lib.hid hIe
          have hOww := Lib.hid hOw
          clear hIe hOw
          go_wp2_with fail
          refine (pick_any w.heap.size A n' c p' w.heap.size 3 _ hrw (by omega) hn' (by omega)).mono ?_
          rintro e w6 ⟨x, rfl, x0, x1, hr6, hc6⟩
          have hI6 := Lib.hid (owns_but hIw.out (KeptBut.of_grown hc6 (S := fun i => i = w.heap.size) (fun k e => by injection e with e; exact e.symm)) (fun k hk e => by have := (World.ownsRow.lt hIw.out k hk).1; omega))
          have hO6 := Lib.hid (hOww.out.chg hc6 (Nat.lt_succ_self _))
          have hB6 := Lib.hid (hbw.trans (hc6.below (Nat.le_refl _) (by omega)))
          have hz6 := hr6.lt
          clear hc6 hrw hbw
          go_wp2_with fail
          refine (pick_any w.heap.size A n' c (p' + 1) w.heap.size 30 _ hr6 (by omega) hn' (by omega)).mono ?_
          rintro e w7 ⟨y, rfl, y0, y1, hr7, hc7⟩
          have hI7 := owns_but hI6.out (KeptBut.of_grown hc7 (S := fun i => i = w.heap.size) (fun k e => by injection e with e; exact e.symm)) (fun k hk e => by have := (World.ownsRow.lt hI6.out k hk).1; omega)
          have hO7 := Lib.hid ((hO6.out.chg hc7 (Nat.lt_succ_self _)).alloc (.cells #[.int .i64 (x + y / 29)] 3))
          have hB7 := hB6.out.trans (hc7.below (Nat.le_refl _) (by omega))
          have hz7 := hr7.lt
          have hIa7 := Lib.hid (World.ownsRow.alloc hI7 (.cells #[.int .i64 (x + y / 29)] 3))
          have hNew := Lib.hid (new_one w7 (.int .i64 (x + y / 29)) 3)
          have hBa7 := hB7.alloc (by omega) (.cells #[.int .i64 (x + y / 29)] 3)
          have hra7 := Lib.hid (Rdr.alloc hr7 (by omega) (.cells #[.int .i64 (x + y / 29)] 3))
          clear hc7 hr6 hr7 hI7 hB7
          go_wp2_with (at_builtin; refine wpList_append_own_at _ rfl (.tmp 45) (.tmp 52) 23 rfl (w.heap.size + 1) 3 j0 _ 1 8 Try.underlying23 kj0 kz0 kz1 kz2 rfl (by decide) _ es.length (ints es) rfl hIa7.out ⟨w7.heap.size, 0, none⟩ 1 1 [.int .i64 (x + y / 29)] ?hx ?c1 ?c2 ?c3 ?c4 ?c5 ?c6 ?_)
          all_goals try (case hx => first | rfl | (simp; done))
          all_goals try (case c1 => rfl)
          all_goals try (case c2 => first | exact hNew.out | (intro j u hu; simpa using hu))
          all_goals try (case c3 => simp [Value.oneCell'])
          all_goals try (case c4 => unfold maxLen; omega)
          all_goals try (case c5 => omega)
          all_goals try (case c6 => first | omega | (simp; done) | (simp; omega))
          intro v' w8 hown8 hgrow8 _ _
          obtain ⟨A8, c8, hv8, _, _⟩ := owns_form hown8
          subst hv8
          have hI8 := Lib.hid (show IOwn w8 (w.heap.size + 1) (.slice A8 (es.length + 1) c8) (es ++ [x + y / 29]) from by
            unfold IOwn
            rw [List.length_append, ints_append]
            exact hown8)
          have hO8 := Lib.hid (show Own w8 (w.heap.size + 1) (.slice A' os.length c') os from owns_but hO7.out (KeptBut.of_grown hgrow8 (S := fun i => Value.ownBlock _ = some i) (fun k e => e)) (fun k hk e => by
            obtain ⟨q1, h1⟩ := owns_has hO7.out hk
            obtain ⟨q2, h2⟩ := owns_has hIa7.out e
            exact has_ne h1 h2 (by decide) rfl))
          have hB8 := Lib.hid (hBa7.grown hgrow8 (by simp; omega) (fun k hk => by have := (World.ownsRow.lt hIa7.out k hk).1; omega))
          have hr8 := Lib.hid (hra7.out.grown hgrow8 (fun k hk => by have := (World.ownsRow.lt hIa7.out k hk).1; omega) (by simp; omega))
          clear hown8 hgrow8 hBa7 hNew hIa7 hra7 hO7
          go_wp2
          go_roundw
          case rel => exact ⟨j - 1, p' + 1 + 1, es ++ [x + y / 29], by omega, congrArg (Value.int .i64) (by omega), by simp; omega, by omega, hI8.out, hO8.out, hr8.out, hB8.out⟩
          case measure => (simp [intOf]; try omega)
        · have hI9 := Lib.hid (owns_le hIe (Nat.le_succ _))
          have hO9 := Lib.hid (own_le hOw (Nat.le_succ _))
          have hj00 : j = 0 := by omega
          subst hj00
          clear hIe hOw
          go_wp2
          go_ret2
          exact ⟨_, _, os, es, rfl, hlm'.out ▸ hO9.out, by rw [hlm'.out]; omega, hI9.out, by omega, hbw⟩
    · have hq0 : q = 0 := by
        rcases Nat.eq_zero_or_pos q with h0 | h0
        · exact h0
        · exact absurd ⟨hbb, h0⟩ hgo
      subst hq0
      have hra := Rdr.alloc hr3 (by omega) (.cells #[] 3)
      have hOa := Lib.hid (hO3.out.alloc (.cells #[] 3))
      have hBa := Lib.hid (hB3.out.alloc (by omega) (.cells #[] 3))
      have hIa := Lib.hid (own_none w3 3 w3.heap.size rfl)
      go_wp2_with fail
      refine (pick_any w.heap.size A n' c (p2) w.heap.size 5 _ hra (by omega) hn' (by omega)).mono ?_
      rintro e w5 ⟨k5, rfl, k50, k51, hr5, hc5⟩
      have hO5 := Lib.hid (hOa.out.chg hc5 (Nat.lt_succ_self _))
      have hz5 := hc5.size
      have hB5 := Lib.hid (hBa.out.trans (hc5.below (Nat.le_refl _) (by simp; omega)))
      have hI5 := Lib.hid (owns_but hIa.out (KeptBut.of_grown hc5 (S := fun i => i = w.heap.size) (fun k e => by injection e with e; exact e.symm)) (fun k hk e => by have := (World.ownsRow.lt hIa.out k hk).1; omega))
      clear hc5 hra
      go_wp2_with fail
      obtain ⟨kj, rfl⟩ : ∃ j : Nat, k5 = j := ⟨k5.toNat, by omega⟩
      have hR5 := Lib.hid hr5
      clear hr5
      go_loopw [8, 9] (fun v i wr => ∃ (j p' : Nat) (es : List Int), j ≤ 4 ∧ i = .int .i64 j ∧ es.length + j ≤ 4 ∧ p' + 2 * j ≤ 400 ∧ IOwn wr (w.heap.size + 1) v es ∧ Own wr (w.heap.size + 1) (.slice A' os.length c') os ∧ Rdr wr w.heap.size w.heap.size A n' c p' ∧ Below w.heap.size w wr) (fun _ i _ => (intOf i).toNat)
      case atStart => exact ⟨kj, _, [], by omega, rfl, by simp; omega, by omega, owns_le hI5.out (by omega), hO5.out, hR5.out, hB5.out⟩
      case round =>
        obtain ⟨j, p', es, hj, rfl, hej, hpj, hIe, hOw, hrw, hbw⟩ := hrel
        have hzw := hrw.lt
        by_cases hj0 : 0 < j
        · have hIw := Lib.hid hIe
          have hOww := Lib.hid hOw
          clear hIe hOw
          go_wp2_with fail
          refine (pick_any w.heap.size A n' c p' w.heap.size 3 _ hrw (by omega) hn' (by omega)).mono ?_
          rintro e w6 ⟨x, rfl, x0, x1, hr6, hc6⟩
          have hI6 := Lib.hid (owns_but hIw.out (KeptBut.of_grown hc6 (S := fun i => i = w.heap.size) (fun k e => by injection e with e; exact e.symm)) (fun k hk e => by have := (World.ownsRow.lt hIw.out k hk).1; omega))
          have hO6 := Lib.hid (hOww.out.chg hc6 (Nat.lt_succ_self _))
          have hB6 := Lib.hid (hbw.trans (hc6.below (Nat.le_refl _) (by omega)))
          have hz6 := hr6.lt
          clear hc6 hrw hbw
          go_wp2_with fail
          refine (pick_any w.heap.size A n' c (p' + 1) w.heap.size 30 _ hr6 (by omega) hn' (by omega)).mono ?_
          rintro e w7 ⟨y, rfl, y0, y1, hr7, hc7⟩
          have hI7 := owns_but hI6.out (KeptBut.of_grown hc7 (S := fun i => i = w.heap.size) (fun k e => by injection e with e; exact e.symm)) (fun k hk e => by have := (World.ownsRow.lt hI6.out k hk).1; omega)
          have hO7 := Lib.hid ((hO6.out.chg hc7 (Nat.lt_succ_self _)).alloc (.cells #[.int .i64 (x + y / 29)] 3))
          have hB7 := hB6.out.trans (hc7.below (Nat.le_refl _) (by omega))
          have hz7 := hr7.lt
          have hIa7 := Lib.hid (World.ownsRow.alloc hI7 (.cells #[.int .i64 (x + y / 29)] 3))
          have hNew := Lib.hid (new_one w7 (.int .i64 (x + y / 29)) 3)
          have hBa7 := hB7.alloc (by omega) (.cells #[.int .i64 (x + y / 29)] 3)
          have hra7 := Lib.hid (Rdr.alloc hr7 (by omega) (.cells #[.int .i64 (x + y / 29)] 3))
          clear hc7 hr6 hr7 hI7 hB7
          go_wp2_with (at_builtin; refine wpList_append_own_at _ rfl (.tmp 45) (.tmp 52) 23 rfl (w.heap.size + 1) 3 j0 _ 1 8 Try.underlying23 kj0 kz0 kz1 kz2 rfl (by decide) _ es.length (ints es) rfl hIa7.out ⟨w7.heap.size, 0, none⟩ 1 1 [.int .i64 (x + y / 29)] ?hx ?c1 ?c2 ?c3 ?c4 ?c5 ?c6 ?_)
          all_goals try (case hx => first | rfl | (simp; done))
          all_goals try (case c1 => rfl)
          all_goals try (case c2 => first | exact hNew.out | (intro j u hu; simpa using hu))
          all_goals try (case c3 => simp [Value.oneCell'])
          all_goals try (case c4 => unfold maxLen; omega)
          all_goals try (case c5 => omega)
          all_goals try (case c6 => first | omega | (simp; done) | (simp; omega))
          intro v' w8 hown8 hgrow8 _ _
          obtain ⟨A8, c8, hv8, _, _⟩ := owns_form hown8
          subst hv8
          have hI8 := Lib.hid (show IOwn w8 (w.heap.size + 1) (.slice A8 (es.length + 1) c8) (es ++ [x + y / 29]) from by
            unfold IOwn
            rw [List.length_append, ints_append]
            exact hown8)
          have hO8 := Lib.hid (show Own w8 (w.heap.size + 1) (.slice A' os.length c') os from owns_but hO7.out (KeptBut.of_grown hgrow8 (S := fun i => Value.ownBlock _ = some i) (fun k e => e)) (fun k hk e => by
            obtain ⟨q1, h1⟩ := owns_has hO7.out hk
            obtain ⟨q2, h2⟩ := owns_has hIa7.out e
            exact has_ne h1 h2 (by decide) rfl))
          have hB8 := Lib.hid (hBa7.grown hgrow8 (by simp; omega) (fun k hk => by have := (World.ownsRow.lt hIa7.out k hk).1; omega))
          have hr8 := Lib.hid (hra7.out.grown hgrow8 (fun k hk => by have := (World.ownsRow.lt hIa7.out k hk).1; omega) (by simp; omega))
          clear hown8 hgrow8 hBa7 hNew hIa7 hra7 hO7
          go_wp2
          go_roundw
          case rel => exact ⟨j - 1, p' + 1 + 1, es ++ [x + y / 29], by omega, congrArg (Value.int .i64) (by omega), by simp; omega, by omega, hI8.out, hO8.out, hr8.out, hB8.out⟩
          case measure => (simp [intOf]; try omega)
        · have hI9 := Lib.hid (owns_le hIe (Nat.le_succ _))
          have hO9 := Lib.hid (own_le hOw (Nat.le_succ _))
          have hj00 : j = 0 := by omega
          subst hj00
          clear hIe hOw
          go_wp2
          go_ret2
          exact ⟨_, _, os, es, rfl, hlm'.out ▸ hO9.out, by rw [hlm'.out]; omega, hI9.out, by omega, hbw⟩
end Go.Proofs.Ytcdajplmheladaa

namespace Go.Proofs.Ytcdajplmheladaa
set_option maxRecDepth 100000
set_option linter.unusedVariables false
open Go.RowKit

end Go.Proofs.Ytcdajplmheladaa

namespace Go.Proofs.Ytcdajplmheladaa
set_option maxRecDepth 100000
open Go.RowKit

end Go.Proofs.Ytcdajplmheladaa

namespace Go.Proofs.Ytcdajplmheladaa
set_option maxRecDepth 100000
set_option linter.unusedVariables false
open Go.RowKit

theorem DrawRunTrace_any (A : Option Addr) (n c : Nat) (w : World) (h : Byt w w.heap.size A n) (hn : n ≤ c) (hc : c ≤ maxLen) :
    Calls Try.prog 28 #[.slice A n c] w (Cased w) := by
  have hO := Lib.hid (l2Case_any A n c _ h hn hc)
  clear h hc
  go_enter Try.func28, Try.ntmps28
  go_wp2_with fail
  refine (hO.out).mono ?_
  rintro e w1 ⟨v, u, os, ds, rfl, hown, hl, hI, hd, hb⟩
  obtain ⟨A', c', hv, _, _⟩ := hown.form
  subst hv
  obtain ⟨A2, c2, hu, _, _⟩ := hI.form
  subst hu
  have hIh := Lib.hid hI
  have hOh := Lib.hid hown
  clear hown hI hO
  go_wp2
  go_ret2
  exact ⟨_, _, os, ds, rfl, hOh.out, hl, hIh.out, hd, hb⟩
end Go.Proofs.Ytcdajplmheladaa
