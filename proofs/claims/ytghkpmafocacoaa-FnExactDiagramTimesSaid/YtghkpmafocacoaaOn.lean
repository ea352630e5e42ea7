/- Diagrams: the model's l11At, DiagramAt, DiagramList. -/
import Derived.Test.YtghkpmafocacoaaOm
import Derived.Test.YtghkpmafocacoaaO6
import Derived.Test.YtghkpmafocacoaaOa
import Derived.Test.YtghkpmafocacoaaSm
namespace Go.Proofs.Ytghkpmafocacoaa
set_option maxRecDepth 100000
set_option linter.unusedVariables false
open Go.RowKit

theorem l1At_dig (s v : Nat) (hs : s ≤ 80) (hv : v ≤ 3) (w : World) :
    Calls Try.prog 126 #[.int .i64 (s : Int), .int .i64 (v : Int)] w fun e w' => e = .returned (.int .i64 (dig s v : Nat)) ∧ w = w' := by
  have h1 := l1At_any (s : Int) v (by omega) (by omega) hv w
  have h2 := valueAt_dig hs hv
  rw [valueAt_yes (k := v) (by omega) (by omega) rfl hv] at h2
  rw [h2] at h1
  exact h1
theorem put5_same (s t : Ce) : put5c #[.int .i64 s.v, .int .i64 s.n, .int .i64 s.a, .int .i64 s.b, .int .i64 s.c] 0 t = #[.int .i64 t.v, .int .i64 t.n, .int .i64 t.a, .int .i64 t.b, .int .i64 t.c] := by
  unfold put5c
  simp
theorem l11At_any (A : Option Addr) (n c s : Nat) (ds : List Ce) (w : World) (h : CLst w w.heap.size A n ds) (h1 : 1 ≤ n) (hn : n ≤ 121) (hok : allOk ds ds.length = true) (hs : s ≤ 80) :
    Calls Try.prog 72 #[.slice A n c, .int .i64 (s : Int)] w fun e w' => e = .returned (.int .i64 (dnum ds s)) ∧ Below w.heap.size w w' := by
  have hH := Lib.hid h
  have hL := Lib.hid h.1
  have hO := Lib.hid hok
  obtain ⟨m, rfl⟩ : ∃ m, n = m + 1 := ⟨n - 1, by omega⟩
  obtain ⟨g, off, rfl, hg, hat⟩ := h.gt_ (k := m) (by omega)
  obtain ⟨c0, c1, c2, c3, c4⟩ := hat.open_
  clear h hat hok
  have hm0 : (0 : Int) ≤ (m : Int) := by omega
  have hm1 : (m : Int) < (m : Int) + 1 := by omega
  have hmw : IntKind.i64.wrap (m : Int) = m := by rw [IntKind.wrap_i64]; omega
  have hW := Lib.hid (Has.new w 47 #[.int .i64 (gt ds m).v, .int .i64 (gt ds m).n, .int .i64 (gt ds m).a, .int .i64 (gt ds m).b, .int .i64 (gt ds m).c])
  have hB := Lib.hid (show Below w.heap.size w (w.alloc (.cells #[.int .i64 (gt ds m).v, .int .i64 (gt ds m).n, .int .i64 (gt ds m).a, .int .i64 (gt ds m).b, .int .i64 (gt ds m).c] 47)) from (Below.refl _ _).alloc (Nat.le_refl _) _)
  have hnum0 := Lib.hid (show num ds s m = dnum ds s by unfold dnum; rw [hL.out, Nat.add_sub_cancel])
  go_enter Try.func72, Try.ntmps72
  go_wp2_with fail
  clear c0 c1 c2 c3 c4
  generalize w.alloc (.cells #[.int .i64 (gt ds m).v, .int .i64 (gt ds m).n, .int .i64 (gt ds m).a, .int .i64 (gt ds m).b, .int .i64 (gt ds m).c] 47) = W at hW hB ⊢
  generalize hG : w.heap.size = G at hW hB hH hg ⊢
  go_loopg [] m (fun gn wr => ∃ k : Nat, gn = k ∧ k < m + 1 ∧ Has wr G 47 #[.int .i64 (gt ds k).v, .int .i64 (gt ds k).n, .int .i64 (gt ds k).a, .int .i64 (gt ds k).b, .int .i64 (gt ds k).c] ∧ num ds s k = dnum ds s ∧ Below G w wr)
  case atStart => exact ⟨m, rfl, by omega, hW.out, hnum0.out, by rw [← hG]; rw [hG]; exact hB.out⟩
  case round =>
    obtain ⟨k, hgn, hk, hhas, hnum, hb⟩ := hrel
    have hgk : gk = k := hgn
    clear hgn
    have hNum := Lib.hid hnum
    have hcel := hhas.cell
    have hfr := hhas.frozen
    have hkl : k < ds.length := by rw [hL.out]; exact hk
    by_cases hv : (gt ds k).v = -1
    · have hR := Lib.hid (show dnum ds s = (gt ds k).n by rw [← hNum.out, num_leaf hv])
      have hd : decide ((0 : Int) ≤ (gt ds k).v) = false := decide_eq_false (by omega)
      have hBh := Lib.hid hb
      generalize gt ds k = t at *
      clear hv hkl hnum hhas hb
      go_wp2_with fail
      go_ret
      exact ⟨ret_int hR.out, by rw [hG]; exact hBh.out⟩
    · obtain ⟨⟨hv0, hv3⟩, hkid⟩ := up_of hO.out k hkl hv
      obtain ⟨v, hvv⟩ : ∃ v : Nat, (gt ds k).v = v := ⟨_, (Int.toNat_of_nonneg hv0).symm⟩
      obtain ⟨k2, hk2⟩ : ∃ k2 : Nat, (gt ds k).kid (dig s v) = k2 := ⟨_, (Int.toNat_of_nonneg (hkid (dig s v)).1).symm⟩
      obtain ⟨hlt, hnx⟩ := num_next (up_of hO.out) hkl hv hvv hk2
      have hN2 := Lib.hid (hnx.trans hNum.out)
      have hv3' : v ≤ 3 := by omega
      have cA := Lib.hid (fun wx => l1At_dig s v hs hv3' wx)
      obtain ⟨g', off', eA, hg', hat⟩ := (hH.out.below hb).gt_ (k := k2) (by omega)
      injection eA with eA
      injection eA with eA1 eA2 _
      subst eA1 eA2
      obtain ⟨f0, f1, f2, f3, f4⟩ := hat.open_
      have hne : g ≠ G := by omega
      have hN := Lib.hid (hhas.put5c 0 (gt ds k2))
      rw [put5_same] at hN
      have hBn := Lib.hid (((((hb.setCell (p := ⟨G, 0, none⟩) (Nat.le_refl _) (.int .i64 (gt ds k2).v)).setCell (p := ⟨G, 0 + 1, none⟩) (Nat.le_refl _) (.int .i64 (gt ds k2).n)).setCell (p := ⟨G, 0 + 2, none⟩) (Nat.le_refl _) (.int .i64 (gt ds k2).a)).setCell (p := ⟨G, 0 + 3, none⟩) (Nat.le_refl _) (.int .i64 (gt ds k2).b)).setCell (p := ⟨G, 0 + 4, none⟩) (Nat.le_refl _) (.int .i64 (gt ds k2).c))
      have d0 := hcel 0
      have d2 := hcel 2
      have d3 := hcel 3
      have d4 := hcel 4
      have e0 : wr.cell? ⟨G, 0, none⟩ = some (.int .i64 (v : Int)) := by rw [d0, ← hvv]; rfl
      have x1 : wr.cell? ⟨G, 1, none⟩ = some (.int .i64 (gt ds k).n) := (hcel 1).trans rfl
      have x2 : wr.cell? ⟨G, 2, none⟩ = some (.int .i64 (gt ds k).a) := d2.trans rfl
      have x3 : wr.cell? ⟨G, 3, none⟩ = some (.int .i64 (gt ds k).b) := d3.trans rfl
      have x4 : wr.cell? ⟨G, 4, none⟩ = some (.int .i64 (gt ds k).c) := d4.trans rfl
      clear d0 d2 d3 d4 hcel
      have d2 := x2
      have d3 := x3
      have d4 := x4
      clear x2 x3 x4
      have hdv : decide ((0 : Int) ≤ (v : Int)) = true := decide_eq_true (by omega)
      have hj0 : (0 : Int) ≤ (k2 : Int) := by omega
      have hj1 : (k2 : Int) < (m : Int) + 1 := by omega
      generalize gt ds k = t at *
      generalize hg2 : gt ds k2 = t2 at *
      have hg2h := Lib.hid hg2
      clear hg2
      clear hkid hv hv0 hv3 hvv hnx hkl hat hNum hnum hhas hb hg'
      rcases dig_lt s v with hd | hd | hd
      all_goals
        rw [hd] at cA hk2
        clear hd
      · have hk3 : t.a = (k2 : Int) := hk2
        clear hk2
        rw [hk3] at d2
        go_wp2_with fail
        refine (cA.out _).mono ?_
        rintro e w' ⟨rfl, rfl⟩
        go_wp2_with fail
        go_roundg k2
        case measure => omega
        case rel => exact ⟨k2, rfl, by omega, by rw [hg2h.out]; exact hN.out, hN2.out, hBn.out⟩
      · have hk3 : t.b = (k2 : Int) := hk2
        clear hk2
        rw [hk3] at d3
        go_wp2_with fail
        refine (cA.out _).mono ?_
        rintro e w' ⟨rfl, rfl⟩
        go_wp2_with fail
        go_roundg k2
        case measure => omega
        case rel => exact ⟨k2, rfl, by omega, by rw [hg2h.out]; exact hN.out, hN2.out, hBn.out⟩
      · have hk3 : t.c = (k2 : Int) := hk2
        clear hk2
        rw [hk3] at d4
        go_wp2_with fail
        refine (cA.out _).mono ?_
        rintro e w' ⟨rfl, rfl⟩
        go_wp2_with fail
        go_roundg k2
        case measure => omega
        case rel => exact ⟨k2, rfl, by omega, by rw [hg2h.out]; exact hN.out, hN2.out, hBn.out⟩
theorem specDiagramAt_any (A : Option Addr) (n c : Nat) (ds : List Ce) (s : Int) (w : World) (h : CLst w w.heap.size A n ds) (hn : n ≤ maxLen) (hc : c ≤ maxLen) (hnc : n ≤ c) :
    Calls Try.prog 20 #[.slice A n c, .int .i64 s] w fun e w' => e = .returned (.int .i64 (dAt ds s)) ∧ Below w.heap.size w w' := by
  have cD := Lib.hid (specDiagramOk_any A n c ds w h hn hc hnc)
  have cI := Lib.hid (fun wx => l1In_any s 0 80 wx)
  have hH := Lib.hid h
  have hL := h.1
  clear h
  cases hd : diaOk ds
  · have hR := Lib.hid (show dAt ds s = -1 by unfold dAt; rw [hd]; simp)
    rw [hd] at cD
    clear hd hL hn hc hnc
    go_enter Try.func20, Try.ntmps20
    go_wp2_with fail
    refine cD.out.mono ?_
    rintro e w1 ⟨rfl, hb⟩
    have hB := Lib.hid hb
    clear hb
    go_wp2_with fail
    go_ret
    exact ⟨ret_int hR.out, hB.out⟩
  · rw [hd] at cD
    rcases inB_cases s 0 80 with ⟨q1, q2, q3⟩ | ⟨q1, q3⟩
    · obtain ⟨z, rfl⟩ : ∃ z : Nat, s = z := ⟨s.toNat, by omega⟩
      have hR := Lib.hid (show dAt ds (z : Int) = dnum ds z by unfold dAt; rw [if_pos ⟨hd, q3⟩, Int.toNat_natCast])
      rw [q3] at cI
      obtain ⟨d1, d2, d3⟩ := dia_parts hd
      have cN := Lib.hid (fun (wx : World) (hx : CLst wx wx.heap.size A n ds) => l11At_any A n c z ds wx hx (by omega) (by omega) d3 (by omega))
      clear hd q1 q2 q3 d1 d2 d3 hL hn hc hnc
      go_enter Try.func20, Try.ntmps20
      go_wp2_with fail
      refine cD.out.mono ?_
      rintro e w1 ⟨rfl, hb⟩
      have hB := Lib.hid hb
      clear hb
      go_wp2_with fail
      refine (cI.out _).mono ?_
      rintro e w2 ⟨rfl, rfl⟩
      go_wp2_with fail
      refine (cN.out _ ((hH.out.below hB.out).more hB.out.size)).mono ?_
      rintro e w2 ⟨rfl, hb2⟩
      have hB2 := Lib.hid (hB.out.trans (hb2.mono hB.out.size))
      clear hb2
      go_wp2_with fail
      go_ret
      exact ⟨ret_int hR.out, hB2.out⟩
    · have hR := Lib.hid (show dAt ds s = -1 by unfold dAt; rw [q3]; simp)
      rw [q3] at cI
      clear hd q1 q3 hL hn hc hnc
      go_enter Try.func20, Try.ntmps20
      go_wp2_with fail
      refine cD.out.mono ?_
      rintro e w1 ⟨rfl, hb⟩
      have hB := Lib.hid hb
      clear hb
      go_wp2_with fail
      refine (cI.out _).mono ?_
      rintro e w2 ⟨rfl, rfl⟩
      go_wp2_with fail
      go_ret
      exact ⟨ret_int hR.out, hB.out⟩
end Go.Proofs.Ytghkpmafocacoaa
