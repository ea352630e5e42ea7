/- Drawn programs, and what the source of numbers is behind them. A drawn program and draws for it. Drawn traces, and drawn texts of traces. A drawn argument of Unrolled. Drawn programs for the laws of traces, alone and with draws. -/
import Derived.Test.YtkibkmheomlafaaDr
import Derived.Test.YtkibkmheomlafaaFm
import Derived.Test.YtkibkmheomlafaaTx
import Derived.Test.YtkibkmheomlafaaOpB
namespace Go.Proofs.Ytkibkmheomlafaa
set_option maxRecDepth 100000
set_option linter.unusedVariables false
open Go.RowKit

/-- How a drawn program ends: it is well formed, in memory of its own behind the source, and the source goes on. -/
def Anyr (w : World) (R : Nat) (A : Option Addr) (n c p : Nat) (e : Ending) (w' : World) : Prop :=
  ∃ (v : Value) (os : List St) (p' : Nat), e = .returned v ∧ Own w' (w.heap.size + 1) v os ∧ os.length ≤ 11 ∧ Below w.heap.size w w' ∧ p' ≤ p + 300 ∧ Rdr w' R R A n c p'

set_option maxHeartbeats 2000000 in
theorem l1Any_rd (A : Option Addr) (n c p R : Nat) (m : Int) (w w0 : World) (h : Rdr w R R A n c p) (hp : p ≤ 700000) (hn : n ≤ 2000) (hB : R ≤ w.heap.size) (hw : Below R w0 w) (hR : w0.heap.size = R) :
    Calls Try.prog 94 #[.pointer (some ⟨R, 0, none⟩), .int .i64 m] w (Anyr w0 R A n c p) := by
  have hlt := h.lt
  obtain ⟨i0, hi0, hz0, hz1', hz2'⟩ := info_parts info_stmt
  subst hR
  go_enter Try.func94, Try.ntmps94
  go_wp2_with fail
  refine (l1Draw_any _ A n c p _ m _ h (by omega) hn hB).mono ?_
  rintro e w1 ⟨v, os, p1, rfl, hown, hl1, hl10, hp1, hr1, hc1⟩
  obtain ⟨A', c', hv, hlc, hcm⟩ := hown.form
  subst hv
  have hO1 := Lib.hid hown
  clear hown
  have hb1 := hw.trans (hc1.below (Nat.le_refl _) hB)
  have hz1 := hc1.size
  clear hc1 h
  go_wp2_with fail
  refine (pick_any _ A n c p1 _ _ _ hr1 (by omega) hn (by omega)).mono ?_
  rintro e w2 ⟨k, rfl, k0, k1, hr2, hc2⟩
  have hO2 := Lib.hid (hO1.out.chg hc2 hlt)
  have hb2 := hb1.trans (hc2.below (Nat.le_refl _) (by omega))
  have hz2 := hc2.size
  have hbOld := Lib.hid hb2
  have hRd2 := Lib.hid hr2
  replace hb2 : Below (w0.heap.size + 1) w2 w2 := Below.refl _ _
  have hbase : ∀ (wz : World) (vv : Value) (qs : List St), Own wz w.heap.size vv qs → Own wz (w0.heap.size + 1) vv qs := fun wz vv qs hh => by
    refine ⟨hh.1, ?_⟩
    rcases hh.2 with hx | ⟨g, cap, cur, q1, q2, q3⟩
    · exact .inl hx
    · exact .inr ⟨g, cap, cur, q1, by omega, q3⟩
  have hBase := Lib.hid hbase
  clear hc2 hr1 hr2 hb1 hO1 hbase
  have hfin : ∀ (vv : Value) (qs : List St) (wz : World), Own wz w.heap.size vv qs → qs.length ≤ 11 → Below (w0.heap.size + 1) w2 wz → Anyr w0 w0.heap.size A n c p (.returned vv) wz := fun vv qs wz q1 q2 q3 =>
    ⟨vv, qs, p1 + 1, rfl, hBase.out _ _ _ q1, q2, hbOld.out.trans (q3.mono (Nat.le_succ _)), by omega, ⟨hRd2.out.1.below q3 (Nat.lt_succ_self _), hRd2.out.2.1, hRd2.out.2.2.keep (q3.mono (Nat.le_succ _))⟩⟩
  have hFin := Lib.hid hfin
  clear hfin
  obtain ⟨g, cur, rfl, hgb, hHas, hcs⟩ := own_has hO2.out (by omega)
  have hfz := hHas.frozen
  obtain rfl | rfl | rfl | rfl | hk : k = 0 ∨ k = 1 ∨ k = 2 ∨ k = 3 ∨ 3 < k := by omega
  · obtain ⟨u0, y0⟩ := cell_in hHas (x := 1) (by omega)
    obtain ⟨qs, hql, hqo⟩ := own_put hO2.out 1 4
    have hQ := Lib.hid hqo
    have hb3 := hb2.setCell (p := ⟨g, 1, none⟩) (by show w0.heap.size + 1 ≤ g; omega) (.int .i64 4)
    clear hqo
    have hq11 : qs.length ≤ 11 := by omega
    clear hql
    go_wp2
    go_ret
    exact hFin.out _ qs _ hQ.out hq11 hb3
  · obtain ⟨u0, y0⟩ := cell_in hHas (x := (os.length - 1) * 7) (by omega)
    obtain ⟨qs, hql, hqo⟩ := own_put hO2.out ((os.length - 1) * 7) 8
    have hQ := Lib.hid hqo
    have hb3 := hb2.setCell (p := ⟨g, (os.length - 1) * 7, none⟩) (by show w0.heap.size + 1 ≤ g; omega) (.int .i64 8)
    clear hqo
    have hq11 : qs.length ≤ 11 := by omega
    clear hql
    go_wp2
    go_ret
    exact hFin.out _ qs _ hQ.out hq11 hb3
  · have hO3 := Lib.hid (hO2.out.alloc (.cells #[.int .i64 7, .int .i64 0, .int .i64 3, .int .i64 2, .int .i64 0, .int .i64 0, .int .i64 0] 65))
    have hb3 := hb2.alloc (by omega) (.cells #[.int .i64 7, .int .i64 0, .int .i64 3, .int .i64 2, .int .i64 0, .int .i64 0, .int .i64 0] 65)
    have hNew := Lib.hid (new_stmt w2 (⟨7, 0, 3, 2, 0, 0, 0⟩ : St))
    clear hHas hfz
    go_wp2_with (at_builtin; refine wpList_append_own _ rfl (.tmp 27) (.tmp 29) 23 rfl w.heap.size 65 i0 _ 7 56 Try.underlying23 hi0 hz0 hz1' hz2' rfl (by decide) (.slice (some ⟨g, 0, none⟩) os.length c') _ _ rfl hO3.out ⟨w2.heap.size, 0, none⟩ 1 1 (flat [(⟨7, 0, 3, 2, 0, 0, 0⟩ : St)]) ?hx ?c1 ?c2 ?c3 ?c4 ?c5 ?c6 ?_)
    case hx => first | rfl | simp [Act.eval]
    case c1 => rfl
    case c2 => exact hNew.out
    case c3 => exact flat_one _
    case c4 => unfold maxLen; omega
    case c5 => omega
    case c6 => (simp; omega)
    intro v' w3 hown' hgrow _
    have hN := hO3.out.append_ (news := [(⟨7, 0, 3, 2, 0, 0, 0⟩ : St)]) hown' hgrow (Below.refl _ _) (by simp; omega)
    have hb4 := hb3.grown hgrow (by simp; omega) (fun k hk => by have := (World.ownsRow.lt hO3.out k hk).1; omega)
    have hN1 := Lib.hid hN.1
    clear hN hown' hgrow hO3 hNew
    go_wp2
    go_ret
    exact hFin.out _ _ _ hN1.out (by rw [List.length_append]; show os.length + 1 ≤ 11; omega) hb4
  · clear hHas hfz
    go_wp2
    go_loopw [5] (fun l wr => ∃ qs : List St, qs.length ≤ 11 ∧ lenOf l = qs.length ∧ Own wr w.heap.size l qs ∧ Below (w0.heap.size + 1) w2 wr ∧ w.heap.size ≤ wr.heap.size) (fun l _ => 11 - lenOf l)
    case atStart => exact ⟨os, by omega, rfl, hO2.out, hb2, by omega⟩
    case round =>
      obtain ⟨qs, hq11, _, hown, hb3, hzw⟩ := hrel
      obtain ⟨A3, c3, hv3, hlc3, hcm3⟩ := hown.form
      subst hv3
      have hOq := Lib.hid hown
      have hzq := hb3.size
      clear hown
      by_cases hq : qs.length ≤ 10
      · have hO3 := Lib.hid (hOq.out.alloc (.cells #[.int .i64 0, .int .i64 1, .int .i64 (-1), .int .i64 1, .int .i64 0, .int .i64 0, .int .i64 0] 65))
        have hNew := Lib.hid (new_stmt wr (⟨0, 1, -1, 1, 0, 0, 0⟩ : St))
        have hb4 := hb3.alloc (by omega) (.cells #[.int .i64 0, .int .i64 1, .int .i64 (-1), .int .i64 1, .int .i64 0, .int .i64 0, .int .i64 0] 65)
        go_wp2_with (at_builtin; refine wpList_append_own _ rfl (.tmp 36) (.tmp 38) 23 rfl w.heap.size 65 i0 _ 7 56 Try.underlying23 hi0 hz0 hz1' hz2' rfl (by decide) (.slice A3 qs.length c3) _ _ rfl hO3.out ⟨wr.heap.size, 0, none⟩ 1 1 (flat [(⟨0, 1, -1, 1, 0, 0, 0⟩ : St)]) ?hx ?c1 ?c2 ?c3 ?c4 ?c5 ?c6 ?_)
        case c1 => rfl
        case c2 => first | exact hNew.out | (intro j u hu; simpa [flat, St.cells] using hu)
        case c3 => exact flat_one _
        case c4 => unfold maxLen; omega
        case c5 => omega
        case c6 => first | omega | (simp; omega)
        intro v' w3 hown' hgrow _
        have hN := hO3.out.append_ (news := [(⟨0, 1, -1, 1, 0, 0, 0⟩ : St)]) hown' hgrow (Below.refl _ _) (by simp; omega)
        have hb5 := hb4.grown hgrow (by simp; omega) (fun k hk => by have := (World.ownsRow.lt hO3.out k hk).1; omega)
        have hgz0 : wr.heap.size ≤ w3.heap.size := Nat.le_trans (by simp) hgrow.size
        have hN1 := hN.1
        obtain ⟨A5, c5, hv5, _, _⟩ := hN1.form
        subst hv5
        have hN2 := Lib.hid hN1
        clear hN hN1 hown' hgrow hO3 hNew
        have hgz : wr.heap.size ≤ w3.heap.size := hgz0
        go_wp2
        go_roundw
        case rel => exact ⟨_, by rw [List.length_append]; show qs.length + 1 ≤ 11; omega, rfl, hN2.out, hb5, by omega⟩
        case measure => (simp [lenOf]; try omega)
      · go_wp2
        go_ret
        exact hFin.out _ qs _ hOq.out hq11 hb3
  · have h0 : (k == 0) = false := by simp; omega
    have h1 : (k == 1) = false := by simp; omega
    have h2 : (k == 2) = false := by simp; omega
    have h3 : (k == 3) = false := by simp; omega
    go_wp2
    go_ret
    exact hFin.out _ os _ hO2.out (by omega) hb2

end Go.Proofs.Ytkibkmheomlafaa

namespace Go.Proofs.Ytkibkmheomlafaa
set_option maxRecDepth 100000
set_option linter.unusedVariables false
open Go.RowKit

theorem rowsT_len {ps : List St} : ∀ ds ∈ rowsT (tracesOf ps), ds.length ≤ 6 := by
  intro ds hd
  unfold rowsT at hd
  obtain ⟨l, hl, rfl⟩ := List.mem_map.1 hd
  cases hu : unrolled ps with
  | none => rw [tracesOf_none hu] at hl; simp at hl
  | some os =>
    by_cases hm : 6 < (os.filter St.draws).length
    · rw [tracesOf_many hu hm] at hl; simp at hl
    · rw [tracesOf_some hu (by omega)] at hl
      obtain ⟨_, _, _, _, hOK⟩ := unrolled_parts hu
      have := (traces_fit (fun s hs => List.all_eq_true.1 hOK s hs) hl).2.2.2
      omega

theorem Rdr.below {w w' : World} {R : Nat} {A : Option Addr} {n c p B : Nat} (h : Rdr w R R A n c p) (hb : Below B w w') (hB : R < B) : Rdr w' R R A n c p :=
  ⟨h.1.below hb hB, h.2.1, h.2.2.keep (hb.mono (Nat.le_of_lt hB))⟩

/-- How drawing a program and draws ends. -/
def Cased (w : World) (e : Ending) (w' : World) : Prop :=
  ∃ (v u : Value) (os : List St) (ds : List Int), e = .returned (.tuple #[v, u]) ∧ Own w' w.heap.size v os ∧ os.length ≤ 11 ∧ IOwn w' w.heap.size u ds ∧ ds.length ≤ 12 ∧ Below w.heap.size w w'
theorem own_le {w : World} {base base' : Nat} {v : Value} {os : List St} (h : Own w base v os) (hb : base' ≤ base) : Own w base' v os := owns_le h hb

end Go.Proofs.Ytkibkmheomlafaa

namespace Go.Proofs.Ytkibkmheomlafaa
set_option maxRecDepth 100000
set_option linter.unusedVariables false
open Go.RowKit

end Go.Proofs.Ytkibkmheomlafaa

namespace Go.Proofs.Ytkibkmheomlafaa
set_option maxRecDepth 100000
open Go.RowKit

end Go.Proofs.Ytkibkmheomlafaa

namespace Go.Proofs.Ytkibkmheomlafaa
set_option maxRecDepth 100000
set_option linter.unusedVariables false
open Go.RowKit

end Go.Proofs.Ytkibkmheomlafaa
