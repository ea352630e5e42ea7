/- Diagrams: the model's l11At, DiagramAt, DiagramList. Diagrams: the model's DiagramList. Diagrams: the model's l11Make, DiagramOf, Least. -/
import Derived.Test.YtghkpmafocacoaaOm
import Derived.Test.YtghkpmafocacoaaO6
import Derived.Test.YtghkpmafocacoaaOa
import Derived.Test.YtghkpmafocacoaaSm
import Derived.Deep.LoopGhost
import Derived.Deep.AppendLies
import Derived.Test.YtghkpmafocacoaaOq
import Derived.Test.YtghkpmafocacoaaAm
namespace Go.Proofs.Ytghkpmafocacoaa
set_option maxRecDepth 100000
set_option linter.unusedVariables false
open Go.RowKit

theorem l1At_dig (s v : Nat) (hs : s ≤ 80) (hv : v ≤ 3) (w : World) :
    Calls Try.prog 126 #[.int .i64 (s : Int), .int .i64 (v : Int)] w fun e w' => e = .returned (.int .i64 (dig s v : Nat)) ∧ w = w' := by
  have h1 := l1At_any (s : Int) v (by omega) (by omega) hv w
  have h2 := valueAt_dig hs hv
  rw [valueAt_yes (k := v) (by omega) (by omega) rfl hv] at h2
  rw [h2] at h1
  exact h1
theorem put5_same (s t : Ce) : put5c #[.int .i64 s.v, .int .i64 s.n, .int .i64 s.a, .int .i64 s.b, .int .i64 s.c] 0 t = #[.int .i64 t.v, .int .i64 t.n, .int .i64 t.a, .int .i64 t.b, .int .i64 t.c] := by
  unfold put5c
  simp
theorem l11At_any (A : Option Addr) (n c s : Nat) (ds : List Ce) (w : World) (h : CLst w w.heap.size A n ds) (h1 : 1 ≤ n) (hn : n ≤ 121) (hok : allOk ds ds.length = true) (hs : s ≤ 80) :
    Calls Try.prog 72 #[.slice A n c, .int .i64 (s : Int)] w fun e w' => e = .returned (.int .i64 (dnum ds s)) ∧ Below w.heap.size w w' := by
  have hH := Lib.hid h
  have hL := Lib.hid h.1
  have hO := Lib.hid hok
  obtain ⟨m, rfl⟩ : ∃ m, n = m + 1 := ⟨n - 1, by omega⟩
  obtain ⟨g, off, rfl, hg, hat⟩ := h.gt_ (k := m) (by omega)
  obtain ⟨c0, c1, c2, c3, c4⟩ := hat.open_
  clear h hat hok
  have hm0 : (0 : Int) ≤ (m : Int) := by omega
  have hm1 : (m : Int) < (m : Int) + 1 := by omega
  have hmw : IntKind.i64.wrap (m : Int) = m := by rw [IntKind.wrap_i64]; omega
  have hW := Lib.hid (Has.new w 47 #[.int .i64 (gt ds m).v, .int .i64 (gt ds m).n, .int .i64 (gt ds m).a, .int .i64 (gt ds m).b, .int .i64 (gt ds m).c])
  have hB := Lib.hid (show Below w.heap.size w (w.alloc (.cells #[.int .i64 (gt ds m).v, .int .i64 (gt ds m).n, .int .i64 (gt ds m).a, .int .i64 (gt ds m).b, .int .i64 (gt ds m).c] 47)) from (Below.refl _ _).alloc (Nat.le_refl _) _)
  have hnum0 := Lib.hid (show num ds s m = dnum ds s by unfold dnum; rw [hL.out, Nat.add_sub_cancel])
  go_enter Try.func72, Try.ntmps72
  go_wp2_with fail
  clear c0 c1 c2 c3 c4
  generalize w.alloc (.cells #[.int .i64 (gt ds m).v, .int .i64 (gt ds m).n, .int .i64 (gt ds m).a, .int .i64 (gt ds m).b, .int .i64 (gt ds m).c] 47) = W at hW hB ⊢
  generalize hG : w.heap.size = G at hW hB hH hg ⊢
  go_loopg [] m (fun gn wr => ∃ k : Nat, gn = k ∧ k < m + 1 ∧ Has wr G 47 #[.int .i64 (gt ds k).v, .int .i64 (gt ds k).n, .int .i64 (gt ds k).a, .int .i64 (gt ds k).b, .int .i64 (gt ds k).c] ∧ num ds s k = dnum ds s ∧ Below G w wr)
  case atStart => exact ⟨m, rfl, by omega, hW.out, hnum0.out, by rw [← hG]; rw [hG]; exact hB.out⟩
  case round =>
    obtain ⟨k, hgn, hk, hhas, hnum, hb⟩ := hrel
    have hgk : gk = k := hgn
    clear hgn
    have hNum := Lib.hid hnum
    have hcel := hhas.cell
    have hfr := hhas.frozen
    have hkl : k < ds.length := by rw [hL.out]; exact hk
    by_cases hv : (gt ds k).v = -1
    · have hR := Lib.hid (show dnum ds s = (gt ds k).n by rw [← hNum.out, num_leaf hv])
      have hd : decide ((0 : Int) ≤ (gt ds k).v) = false := decide_eq_false (by omega)
      have hBh := Lib.hid hb
      generalize gt ds k = t at *
      clear hv hkl hnum hhas hb
      go_wp2_with fail
      go_ret
      exact ⟨ret_int hR.out, by rw [hG]; exact hBh.out⟩
    · obtain ⟨⟨hv0, hv3⟩, hkid⟩ := up_of hO.out k hkl hv
      obtain ⟨v, hvv⟩ : ∃ v : Nat, (gt ds k).v = v := ⟨_, (Int.toNat_of_nonneg hv0).symm⟩
      obtain ⟨k2, hk2⟩ : ∃ k2 : Nat, (gt ds k).kid (dig s v) = k2 := ⟨_, (Int.toNat_of_nonneg (hkid (dig s v)).1).symm⟩
      obtain ⟨hlt, hnx⟩ := num_next (up_of hO.out) hkl hv hvv hk2
      have hN2 := Lib.hid (hnx.trans hNum.out)
      have hv3' : v ≤ 3 := by omega
      have cA := Lib.hid (fun wx => l1At_dig s v hs hv3' wx)
      obtain ⟨g', off', eA, hg', hat⟩ := (hH.out.below hb).gt_ (k := k2) (by omega)
      injection eA with eA
      injection eA with eA1 eA2 _
      subst eA1 eA2
      obtain ⟨f0, f1, f2, f3, f4⟩ := hat.open_
      have hne : g ≠ G := by omega
      have hN := Lib.hid (hhas.put5c 0 (gt ds k2))
      rw [put5_same] at hN
      have hBn := Lib.hid (((((hb.setCell (p := ⟨G, 0, none⟩) (Nat.le_refl _) (.int .i64 (gt ds k2).v)).setCell (p := ⟨G, 0 + 1, none⟩) (Nat.le_refl _) (.int .i64 (gt ds k2).n)).setCell (p := ⟨G, 0 + 2, none⟩) (Nat.le_refl _) (.int .i64 (gt ds k2).a)).setCell (p := ⟨G, 0 + 3, none⟩) (Nat.le_refl _) (.int .i64 (gt ds k2).b)).setCell (p := ⟨G, 0 + 4, none⟩) (Nat.le_refl _) (.int .i64 (gt ds k2).c))
      have d0 := hcel 0
      have d2 := hcel 2
      have d3 := hcel 3
      have d4 := hcel 4
      have e0 : wr.cell? ⟨G, 0, none⟩ = some (.int .i64 (v : Int)) := by rw [d0, ← hvv]; rfl
      have x1 : wr.cell? ⟨G, 1, none⟩ = some (.int .i64 (gt ds k).n) := (hcel 1).trans rfl
      have x2 : wr.cell? ⟨G, 2, none⟩ = some (.int .i64 (gt ds k).a) := d2.trans rfl
      have x3 : wr.cell? ⟨G, 3, none⟩ = some (.int .i64 (gt ds k).b) := d3.trans rfl
      have x4 : wr.cell? ⟨G, 4, none⟩ = some (.int .i64 (gt ds k).c) := d4.trans rfl
      clear d0 d2 d3 d4 hcel
      have d2 := x2
      have d3 := x3
      have d4 := x4
      clear x2 x3 x4
      have hdv : decide ((0 : Int) ≤ (v : Int)) = true := decide_eq_true (by omega)
      have hj0 : (0 : Int) ≤ (k2 : Int) := by omega
      have hj1 : (k2 : Int) < (m : Int) + 1 := by omega
      generalize gt ds k = t at *
      generalize hg2 : gt ds k2 = t2 at *
      have hg2h := Lib.hid hg2
      clear hg2
      clear hkid hv hv0 hv3 hvv hnx hkl hat hNum hnum hhas hb hg'
      rcases dig_lt s v with hd | hd | hd
      all_goals
        rw [hd] at cA hk2
        clear hd
      · have hk3 : t.a = (k2 : Int) := hk2
        clear hk2
        rw [hk3] at d2
        go_wp2_with fail
        refine (cA.out _).mono ?_
        rintro e w' ⟨rfl, rfl⟩
        go_wp2_with fail
        go_roundg k2
        case measure => omega
        case rel => exact ⟨k2, rfl, by omega, by rw [hg2h.out]; exact hN.out, hN2.out, hBn.out⟩
      · have hk3 : t.b = (k2 : Int) := hk2
        clear hk2
        rw [hk3] at d3
        go_wp2_with fail
        refine (cA.out _).mono ?_
        rintro e w' ⟨rfl, rfl⟩
        go_wp2_with fail
        go_roundg k2
        case measure => omega
        case rel => exact ⟨k2, rfl, by omega, by rw [hg2h.out]; exact hN.out, hN2.out, hBn.out⟩
      · have hk3 : t.c = (k2 : Int) := hk2
        clear hk2
        rw [hk3] at d4
        go_wp2_with fail
        refine (cA.out _).mono ?_
        rintro e w' ⟨rfl, rfl⟩
        go_wp2_with fail
        go_roundg k2
        case measure => omega
        case rel => exact ⟨k2, rfl, by omega, by rw [hg2h.out]; exact hN.out, hN2.out, hBn.out⟩
theorem specDiagramAt_any (A : Option Addr) (n c : Nat) (ds : List Ce) (s : Int) (w : World) (h : CLst w w.heap.size A n ds) (hn : n ≤ maxLen) (hc : c ≤ maxLen) (hnc : n ≤ c) :
    Calls Try.prog 20 #[.slice A n c, .int .i64 s] w fun e w' => e = .returned (.int .i64 (dAt ds s)) ∧ Below w.heap.size w w' := by
  have cD := Lib.hid (specDiagramOk_any A n c ds w h hn hc hnc)
  have cI := Lib.hid (fun wx => l1In_any s 0 80 wx)
  have hH := Lib.hid h
  have hL := h.1
  clear h
  cases hd : diaOk ds
  · have hR := Lib.hid (show dAt ds s = -1 by unfold dAt; rw [hd]; simp)
    rw [hd] at cD
    clear hd hL hn hc hnc
    go_enter Try.func20, Try.ntmps20
    go_wp2_with fail
    refine cD.out.mono ?_
    rintro e w1 ⟨rfl, hb⟩
    have hB := Lib.hid hb
    clear hb
    go_wp2_with fail
    go_ret
    exact ⟨ret_int hR.out, hB.out⟩
  · rw [hd] at cD
    rcases inB_cases s 0 80 with ⟨q1, q2, q3⟩ | ⟨q1, q3⟩
    · obtain ⟨z, rfl⟩ : ∃ z : Nat, s = z := ⟨s.toNat, by omega⟩
      have hR := Lib.hid (show dAt ds (z : Int) = dnum ds z by unfold dAt; rw [if_pos ⟨hd, q3⟩, Int.toNat_natCast])
      rw [q3] at cI
      obtain ⟨d1, d2, d3⟩ := dia_parts hd
      have cN := Lib.hid (fun (wx : World) (hx : CLst wx wx.heap.size A n ds) => l11At_any A n c z ds wx hx (by omega) (by omega) d3 (by omega))
      clear hd q1 q2 q3 d1 d2 d3 hL hn hc hnc
      go_enter Try.func20, Try.ntmps20
      go_wp2_with fail
      refine cD.out.mono ?_
      rintro e w1 ⟨rfl, hb⟩
      have hB := Lib.hid hb
      clear hb
      go_wp2_with fail
      refine (cI.out _).mono ?_
      rintro e w2 ⟨rfl, rfl⟩
      go_wp2_with fail
      refine (cN.out _ ((hH.out.below hB.out).more hB.out.size)).mono ?_
      rintro e w2 ⟨rfl, hb2⟩
      have hB2 := Lib.hid (hB.out.trans (hb2.mono hB.out.size))
      clear hb2
      go_wp2_with fail
      go_ret
      exact ⟨ret_int hR.out, hB2.out⟩
    · have hR := Lib.hid (show dAt ds s = -1 by unfold dAt; rw [q3]; simp)
      rw [q3] at cI
      clear hd q1 q3 hL hn hc hnc
      go_enter Try.func20, Try.ntmps20
      go_wp2_with fail
      refine cD.out.mono ?_
      rintro e w1 ⟨rfl, hb⟩
      have hB := Lib.hid hb
      clear hb
      go_wp2_with fail
      refine (cI.out _).mono ?_
      rintro e w2 ⟨rfl, rfl⟩
      go_wp2_with fail
      go_ret
      exact ⟨ret_int hR.out, hB.out⟩
end Go.Proofs.Ytghkpmafocacoaa

namespace Go.Proofs.Ytghkpmafocacoaa
set_option maxRecDepth 100000
set_option linter.unusedVariables false
open Go.RowKit

theorem dlist_take (os : List Int) {k : Nat} {x : Int} (h : os[k]? = some x) : os.take (k + 1) = os.take k ++ [x] := by
  have hl : k < os.length := (List.getElem?_eq_some_iff.1 h).1
  rw [List.take_succ_eq_append_getElem hl, (List.getElem?_eq_some_iff.1 h).2]
theorem specDiagramList_any (A : Option Addr) (n c : Nat) (ds : List Ce) (w : World) (h : CLst w w.heap.size A n ds) (hn : n ≤ maxLen) (hc : c ≤ maxLen) (hnc : n ≤ c) :
    Calls Try.prog 22 #[.slice A n c] w fun e w' => ∃ v, e = .returned v ∧ IOwn w' w.heap.size v (dlistOf ds) ∧ Below w.heap.size w w' := by
  have hL := h.1
  have hb0 : Below w.heap.size w (w.alloc (.cells #[] 3)) := (Below.refl _ _).alloc (Nat.le_refl _) _
  have cD := Lib.hid (specDiagramOk_any A n c ds (w.alloc (.cells #[] 3)) ((h.below hb0).more hb0.size) hn hc hnc)
  have hO0 := Lib.hid (IOwn.of_has (ds := []) (n := 0) (base := w.heap.size) (Has.new w 3 #[]) rfl rfl (Nat.le_refl _) (by decide))
  have hB0 := Lib.hid hb0
  have hH := Lib.hid h
  clear h hb0
  obtain ⟨i0, hi0, hz0, hz1', hz2'⟩ := info_parts info_int
  cases hd : diaOk ds
  · have hR := Lib.hid (show dlistOf ds = [] by unfold dlistOf; rw [hd]; rfl)
    rw [hd] at cD
    clear hd hL hn hc hnc
    go_enter Try.func22, Try.ntmps22
    go_wp2_with fail
    refine cD.out.mono ?_
    rintro e w1 ⟨rfl, hb⟩
    have hB := Lib.hid (hB0.out.trans (hb.mono hB0.out.size))
    have hO := Lib.hid (hO0.out.below hb)
    clear hb
    go_wp2_with fail
    go_ret
    exact ⟨_, rfl, by rw [hR.out]; exact hO.out, hB.out⟩
  · have hR := Lib.hid (show dlistOf ds = dlist ds by unfold dlistOf; rw [hd]; rfl)
    rw [hd] at cD
    obtain ⟨d1, d2, d3⟩ := dia_parts hd
    have cN := Lib.hid (fun (z : Nat) (hz : z < 81) (wx : World) (hx : CLst wx wx.heap.size A n ds) => l11At_any A n c z ds wx hx (by omega) (by omega) d3 (by omega))
    have hG := Lib.hid (fun (k : Nat) (h : k < 81) => dlist_get ds h)
    have hdl := Lib.hid (dlist_length ds)
    generalize dlist ds = os at *
    clear hd d1 d2 d3 hL hn hc hnc
    go_enter Try.func22, Try.ntmps22
    go_wp2_with fail
    refine cD.out.mono ?_
    rintro e w1 ⟨rfl, hb⟩
    have hB1 := Lib.hid (hB0.out.trans (hb.mono hB0.out.size))
    have hO1 := Lib.hid (hO0.out.below hb)
    clear hb
    generalize hgo : w.heap.size = go at hO1 ⊢
    have hgoh := Lib.hid hgo
    clear hgo
    go_wp2_with fail
    go_loopg [3, 4] 81 (fun gn v i wr => ∃ k : Nat, k ≤ 81 ∧ gn = 81 - k ∧ i = .int .i64 k ∧ IOwn wr go v (os.take k) ∧ Below w.heap.size w wr)
    case atStart => exact ⟨0, Nat.zero_le _, rfl, rfl, hO1.out, hB1.out⟩
    case round =>
      obtain ⟨k, hk, hgn, rfl, hO, hB⟩ := hrel
      have hgk : gk = 81 - k := hgn
      clear hgn
      obtain ⟨Ao, co, hvo, hco1, hco2⟩ := hO.form
      have hlk : (os.take k).length = k := by rw [List.length_take, hdl.out]; omega
      rw [hlk] at hvo
      subst hvo
      have hO' := Lib.hid hO
      have hB' := Lib.hid hB
      have hBz := hB.size
      have hHr := Lib.hid ((hH.out.below hB).more hBz)
      clear hO hB
      by_cases hlt : k < 81
      · have hk0 : (0 : Int) ≤ (k : Int) := by omega
        have hk1 : (k : Int) < 81 := by omega
        have cK := Lib.hid (cN.out k hlt wr hHr.out)
        have hSn := Lib.hid (dlist_take os (hG.out k hlt))
        generalize dnum ds k = x at *
        go_wp2_with fail
        refine cK.out.mono ?_
        rintro e w5 ⟨rfl, hb5⟩
        have hO5 := Lib.hid (hO'.out.below hb5)
        have hB5 := Lib.hid (hB'.out.trans (hb5.mono hBz))
        have hO3 := Lib.hid (hO5.out.alloc (.cells #[.int .i64 x] 3))
        have hnw := Lib.hid (new_one w5 (.int .i64 x) 3)
        have hB3 := Lib.hid (hB5.out.alloc hB5.out.size (.cells #[.int .i64 x] 3))
        have hBz5 := hB5.out.size
        have hgz : go ≤ w5.heap.size := by rw [← hgoh.out]; exact hBz5
        clear hb5
        go_wp2_with (at_builtin; refine wpList_append_lies _ rfl (.tmp 14) (.tmp 18) 31 rfl go 3 i0 _ 1 8 Try.underlying31 hi0 hz0 hz1' hz2' rfl (by decide) (.slice Ao k co) k (ints (os.take k)) rfl (by have := hO3.out; unfold IOwn at this; rwa [hlk] at this) ⟨w5.heap.size, 0, none⟩ 1 1 [.int .i64 x] rfl rfl (by exact hnw.out) (by simp [Value.oneCell']) (by omega) (by unfold maxLen; omega) (by omega) (by simp; omega) (w5.heap.size + 1) (by simp) ?_; intro gr cr2 w8 hown8 hgrow8 hat8 hlt8)
        have hF := Lib.hid (IOwn.append_ (news := [x]) hO3.out (by rw [hlk]; exact hown8) hgrow8 (show Below go w (w5.alloc (.cells #[.int .i64 x] 3)) from by rw [← hgoh.out]; exact hB3.out) (by simp; omega))
        clear hown8 hgrow8 hat8
        go_wp2_with fail
        go_roundg (81 - (k + 1))
        case measure => omega
        case rel => exact ⟨k + 1, by omega, rfl, by go_num, by rw [hSn.out]; exact hF.out.1, by have := hF.out.2; rw [← hgoh.out] at this; exact this⟩
      · obtain rfl : k = 81 := by omega
        have hAll := Lib.hid (show os.take 81 = os from List.take_of_length_le (by rw [hdl.out]; omega))
        clear hlk
        go_wp2_with fail
        go_ret
        exact ⟨_, rfl, by rw [hR.out, hgoh.out, ← hAll.out]; exact hO'.out, hB'.out⟩
end Go.Proofs.Ytghkpmafocacoaa

namespace Go.Proofs.Ytghkpmafocacoaa
set_option maxRecDepth 100000
set_option linter.unusedVariables false
open Go.RowKit

theorem ils_wk {w w' : World} {Bl B : Nat} {v v' : Value} {A : Option Addr} {n : Nat} {os : List Int} {ds : List Ce} (h : Ils w Bl A n os) (hf : Wk w w' v v') (ho : COwn w B v ds) (hB : Bl ≤ B) (hs : Bl ≤ w.heap.size) : Ils w' Bl A n os :=
  h.below (hf.but.below (fun i hi e => by have := (World.ownsRow.lt ho i e).1; omega) hs)
theorem l1With_low {s v x : Nat} (hs : s < 3 ^ v) (hv : v ≤ 3) (hx : x ≤ 2) (w : World) :
    Calls Try.prog 129 #[.int .i64 (s : Int), .int .i64 (v : Int), .int .i64 (x : Int)] w fun e w' => e = .returned (.int .i64 ((s + x * 3 ^ v : Nat) : Int)) ∧ w = w' := by
  have h81 : s ≤ 80 := by have := pow81 hs (by omega); omega
  have h1 := l1With_any (s : Int) (x : Int) v (by omega) (by omega) hv (by omega) (by omega) w
  have h2 := wv_low hs hv hx
  rw [withValue_yes (k := v) (by omega) (by omega) rfl hv (by omega) (by omega)] at h2
  rw [h2] at h1
  exact h1
set_option maxHeartbeats 4000000 in
theorem l11Make_any (B Bl n c : Nat) (A : Option Addr) (os : List Int) (hBB : Bl ≤ B) (hn : n = 81) :
    ∀ (r u : Nat), u + r = 4 → ∀ (v : Value) (ds : List Ce) (s : Nat) (w : World), s < 3 ^ u → COwn w B v ds → B ≤ w.heap.size → Ils w Bl A n os → ds.length + nc r ≤ 250 →
    Calls Try.prog 75 #[v, .slice A n c, .int .i64 (u : Int), .int .i64 (s : Int)] w (Mpd w B v (mkC (fl os) r ds s)) := by
  intro r
  induction r with
  | zero =>
    intro u hu v ds s w hs h hBw hI hl
    obtain rfl : u = 4 := by omega
    have hs81 := pow81 hs (by decide)
    have hl' : ds.length ≤ 250 := by rw [nc] at hl; omega
    have cN := l11Put_any B v ds ⟨-1, fl os s, 0, 0, 0⟩ w h hBw hl'
    dsimp only at cN
    have cNh := Lib.hid cN
    have hE := Lib.hid (show mkC (fl os) 0 ds s = cput ds ⟨-1, fl os s, 0, 0, 0⟩ from rfl)
    obtain ⟨g, off, rfl, hg, hc⟩ := hI.2 (by omega)
    have e0 := hc s _ (fl_get (by rw [hI.1]; omega))
    have hk0 : (0 : Int) ≤ (s : Int) := by omega
    have hk1 : (s : Int) < (n : Int) := by omega
    obtain ⟨Av, cv, hvf, _, _⟩ := h.form
    subst hvf
    rw [hE.out]
    generalize fl os s = x at *
    clear h hI hl hl' hc hE hs hs81 hu hn cN
    go_enter Try.func75, Try.ntmps75
    go_wp2_with fail
    refine cNh.out.mono ?_
    rintro e w' ⟨v', rfl, hW, hF⟩
    have hW' := Lib.hid hW
    have hF' := Lib.hid hF
    clear hW hF
    go_wp2_with fail
    go_ret2
    exact ⟨v', rfl, hW'.out, hF'.out⟩
  | succ r ih =>
    intro u hu v ds s w hs h hBw hI hl
    have hu3 : u ≤ 3 := by omega
    obtain ⟨P, hP⟩ : ∃ P, P = mkC (fl os) r ds s := ⟨_, rfl⟩
    obtain ⟨Q, hQ⟩ : ∃ Q, Q = mkC (fl os) r P.1 (s + 3 ^ (3 - r)) := ⟨_, rfl⟩
    obtain ⟨R, hR⟩ : ∃ R, R = mkC (fl os) r Q.1 (s + 2 * 3 ^ (3 - r)) := ⟨_, rfl⟩
    have hE := Lib.hid (mk_step3 (fl os) r ds s hP hQ hR)
    have l1 := mk_len (fl os) r ds s
    have l2 := mk_len (fl os) r P.1 (s + 3 ^ (3 - r))
    have l3 := mk_len (fl os) r Q.1 (s + 2 * 3 ^ (3 - r))
    rw [← hP] at l1
    rw [← hQ] at l2
    rw [← hR] at l3
    have hl0 : ds.length + (3 * nc r + 1) ≤ 250 := hl
    have hu' : 3 - r = u := by omega
    rw [hu'] at hQ hR hE
    have c0 := Lib.hid (fun wx v1 (hx : COwn wx B v1 ds) (hz : B ≤ wx.heap.size) (hi : Ils wx Bl A n os) => ih (u + 1) (by omega) v1 ds s wx (by have := pow_low hs (x := 0) (by decide); simpa using this) hx hz hi (by omega))
    have c1 := Lib.hid (fun wx v1 (hx : COwn wx B v1 P.1) (hz : B ≤ wx.heap.size) (hi : Ils wx Bl A n os) => ih (u + 1) (by omega) v1 P.1 (s + 1 * 3 ^ u) wx (pow_low hs (by decide)) hx hz hi (by omega))
    have c2 := Lib.hid (fun wx v1 (hx : COwn wx B v1 Q.1) (hz : B ≤ wx.heap.size) (hi : Ils wx Bl A n os) => ih (u + 1) (by omega) v1 Q.1 (s + 2 * 3 ^ u) wx (pow_low hs (by decide)) hx hz hi (by omega))
    have cV := Lib.hid (fun v1 wx (hx : COwn wx B v1 R.1) (hz : B ≤ wx.heap.size) => l11Put_any B v1 R.1 ⟨u, 0, P.2, Q.2, R.2⟩ wx hx hz (by omega))
    dsimp only at cV
    have w0 := Lib.hid (fun wx => (show Calls Try.prog 129 #[.int .i64 (s : Int), .int .i64 (u : Int), .int .i64 0] wx fun e w' => e = .returned (.int .i64 (s : Nat)) ∧ wx = w' from by have := l1With_low (x := 0) hs hu3 (by decide) wx; rw [Nat.zero_mul, Nat.add_zero] at this; exact this))
    have w1 := Lib.hid (fun wx => (show Calls Try.prog 129 #[.int .i64 (s : Int), .int .i64 (u : Int), .int .i64 1] wx fun e w' => e = .returned (.int .i64 ((s + 3 ^ u : Nat) : Int)) ∧ wx = w' from by have := l1With_low (x := 1) hs hu3 (by decide) wx; rw [Nat.one_mul] at this; exact this))
    have w2 := Lib.hid (fun wx => (show Calls Try.prog 129 #[.int .i64 (s : Int), .int .i64 (u : Int), .int .i64 2] wx fun e w' => e = .returned (.int .i64 ((s + 2 * 3 ^ u : Nat) : Int)) ∧ wx = w' from l1With_low (x := 2) hs hu3 (by decide) wx))
    rw [← hP] at c0
    rw [Nat.one_mul, ← hQ] at c1
    rw [← hR] at c2
    have hb0 : Below w.heap.size w (w.alloc (.cells #[.int .i64 (u : Int), .int .i64 0, .int .i64 0, .int .i64 0, .int .i64 0] 47)) := (Below.refl _ _).alloc (Nat.le_refl _) _
    have hO0 := Lib.hid (h.below hb0)
    have hsz : (w.alloc (.cells #[.int .i64 (u : Int), .int .i64 0, .int .i64 0, .int .i64 0, .int .i64 0] 47)).heap.size = w.heap.size + 1 := by simp
    have hI0 := Lib.hid (hI.below (hb0.mono (by omega)))
    have hK0 := Lib.hid (Has.new w 47 #[.int .i64 (u : Int), .int .i64 0, .int .i64 0, .int .i64 0, .int .i64 0])
    have hF0 := Lib.hid (Wk.of_below hb0 v)
    have hfar := Lib.hid (fun k (hk : v.ownBlock = some k) => World.ownsRow.lt h k hk)
    obtain ⟨Av, cv, hvf, _, _⟩ := h.form
    generalize s + 2 * 3 ^ u = s2 at *
    generalize s + 3 ^ u = s1 at *
    clear h hI hl hl0 hP hQ hR ih hs l1 l2 l3 hb0 hu' hu hn
    subst hvf
    go_enter Try.func75, Try.ntmps75
    have hu4 : ((u : Int) == 4) = false := by
      rw [beq_eq_false_iff_ne]
      omega
    have huw : IntKind.i64.wrap ((u : Int) + 1) = (u : Int) + 1 := by rw [IntKind.wrap_i64]; omega
    go_wp2_with fail
    generalize w.alloc (.cells #[.int .i64 (u : Int), .int .i64 0, .int .i64 0, .int .i64 0, .int .i64 0] 47) = wA at hO0 hI0 hK0 hF0 hsz ⊢
    generalize hkb : w.heap.size = kb at hK0 hBw hsz hfar ⊢
    have hAz : kb < wA.heap.size := by omega
    clear hsz
    go_loopw [0, 11] (fun vk i wr => Wk w wr (.slice Av ds.length cv) vk ∧ kb < wr.heap.size ∧ (∀ k, vk.ownBlock = some k → B ≤ k ∧ k ≠ kb) ∧ Ils wr Bl A n os ∧
        ((i = .int .i64 0 ∧ COwn wr B vk ds ∧ Has wr kb 47 #[.int .i64 (u : Int), .int .i64 0, .int .i64 0, .int .i64 0, .int .i64 0]) ∨
         (i = .int .i64 1 ∧ COwn wr B vk P.1 ∧ Has wr kb 47 #[.int .i64 (u : Int), .int .i64 0, .int .i64 (P.2 : Nat), .int .i64 0, .int .i64 0]) ∨
         (i = .int .i64 2 ∧ COwn wr B vk Q.1 ∧ Has wr kb 47 #[.int .i64 (u : Int), .int .i64 0, .int .i64 (P.2 : Nat), .int .i64 (Q.2 : Nat), .int .i64 0]) ∨
         (i = .int .i64 3 ∧ COwn wr B vk R.1 ∧ Has wr kb 47 #[.int .i64 (u : Int), .int .i64 0, .int .i64 (P.2 : Nat), .int .i64 (Q.2 : Nat), .int .i64 (R.2 : Nat)]))) (fun _ i _ => 3 - (intOf i).toNat)
    case atStart => exact ⟨hF0.out, hAz, fun k hk => ⟨(hfar.out k hk).1, by have := (hfar.out k hk).2; omega⟩, hI0.out, .inl ⟨rfl, hO0.out, hK0.out⟩⟩
    case round =>
      obtain ⟨hF, hkz, hfk, hI, hrel⟩ := hrel
      clear hO0 hI0 hK0 hF0 hAz
      have hIh := Lib.hid hI
      have hFh := Lib.hid hF
      have hfh := Lib.hid hfk
      clear hI hF hfk
      rcases hrel with ⟨rfl, hWv, hKb⟩ | ⟨rfl, hWv, hKb⟩ | ⟨rfl, hWv, hKb⟩ | ⟨rfl, hWv, hKb⟩
      · obtain ⟨Ak, ck, hvk, _, _⟩ := hWv.form
        subst hvk
        have hWq := Lib.hid hWv
        have hKq := Lib.hid hKb
        clear hWv hKb
        go_wp2_with fail
        refine (w0.out _).mono ?_
        rintro e w' ⟨rfl, rfl⟩
        go_wp2_with fail
        refine (c0.out _ _ hWq.out (by omega) hIh.out).mono ?_
        rintro e w5 ⟨vn, rfl, hWn0, hFn⟩
        have hKn0 := Has.but hKq.out hFn.but (fun e => (hfh.out _ e).2 rfl)
        have hz5 := hFn.but.size
        have hIn := Lib.hid (ils_wk hIh.out hFn hWq.out hBB (by omega))
        have hfn := Lib.hid (show ∀ q, vn.ownBlock = some q → B ≤ q ∧ q ≠ kb from fun q hq => ⟨(World.ownsRow.lt hWn0 q hq).1, fun e => by
          rcases hFn.new q hq with e2 | e2
          · exact (hfh.out q e2).2 e
          · omega⟩)
        have hFw := Lib.hid (hFh.out.trans hFn)
        have hkc := hKn0.cell
        have hkf := hKn0.frozen
        have hKn := Lib.hid (hKn0.put 2 (.int .i64 (P.2 : Nat)))
        have hP5 : KeptBut w5 (w5.setCell ⟨kb, 2, none⟩ (.int .i64 (P.2 : Nat))) (fun i => i = kb) := KeptBut.put (S := fun i => i = kb) (p := ⟨kb, 2, none⟩) (KeptBut.refl w5 (fun i => i = kb)) (fun _ => rfl) (.int .i64 (P.2 : Nat))
        have hWn := Lib.hid (show COwn (w5.setCell ⟨kb, 2, none⟩ (.int .i64 (P.2 : Nat))) B vn P.1 from owns_but hWn0 hP5 (fun q hq => (hfn.out q hq).2))
        have hIs := Lib.hid (hIn.out.below (hP5.below (B := Bl) (fun i hi e => by omega) (by omega)))
        have hFs := Lib.hid (show Wk w (w5.setCell ⟨kb, 2, none⟩ (.int .i64 (P.2 : Nat))) (.slice Av ds.length cv) vn from ⟨hFw.out.but.trans (hP5.mono (T := fun i => i = kb) (fun i _ e => e)) (fun i hi e => by omega), hFw.out.new⟩)
        have hzs := hP5.size
        clear hWn0 hFn hKn0 hP5
        go_wp2_with fail
        exact ⟨⟨hFs.out, by omega, hfn.out, hIs.out, .inr (.inl ⟨rfl, hWn.out, hKn.out⟩)⟩, by simp [intOf]⟩
      · obtain ⟨Ak, ck, hvk, _, _⟩ := hWv.form
        subst hvk
        have hWq := Lib.hid hWv
        have hKq := Lib.hid hKb
        clear hWv hKb
        go_wp2_with fail
        refine (w1.out _).mono ?_
        rintro e w' ⟨rfl, rfl⟩
        go_wp2_with fail
        refine (c1.out _ _ hWq.out (by omega) hIh.out).mono ?_
        rintro e w5 ⟨vn, rfl, hWn0, hFn⟩
        have hKn0 := Has.but hKq.out hFn.but (fun e => (hfh.out _ e).2 rfl)
        have hz5 := hFn.but.size
        have hIn := Lib.hid (ils_wk hIh.out hFn hWq.out hBB (by omega))
        have hfn := Lib.hid (show ∀ q, vn.ownBlock = some q → B ≤ q ∧ q ≠ kb from fun q hq => ⟨(World.ownsRow.lt hWn0 q hq).1, fun e => by
          rcases hFn.new q hq with e2 | e2
          · exact (hfh.out q e2).2 e
          · omega⟩)
        have hFw := Lib.hid (hFh.out.trans hFn)
        have hkc := hKn0.cell
        have hkf := hKn0.frozen
        have hKn := Lib.hid (hKn0.put 3 (.int .i64 (Q.2 : Nat)))
        have hP5 : KeptBut w5 (w5.setCell ⟨kb, 3, none⟩ (.int .i64 (Q.2 : Nat))) (fun i => i = kb) := KeptBut.put (S := fun i => i = kb) (p := ⟨kb, 3, none⟩) (KeptBut.refl w5 (fun i => i = kb)) (fun _ => rfl) (.int .i64 (Q.2 : Nat))
        have hWn := Lib.hid (show COwn (w5.setCell ⟨kb, 3, none⟩ (.int .i64 (Q.2 : Nat))) B vn Q.1 from owns_but hWn0 hP5 (fun q hq => (hfn.out q hq).2))
        have hIs := Lib.hid (hIn.out.below (hP5.below (B := Bl) (fun i hi e => by omega) (by omega)))
        have hFs := Lib.hid (show Wk w (w5.setCell ⟨kb, 3, none⟩ (.int .i64 (Q.2 : Nat))) (.slice Av ds.length cv) vn from ⟨hFw.out.but.trans (hP5.mono (T := fun i => i = kb) (fun i _ e => e)) (fun i hi e => by omega), hFw.out.new⟩)
        have hzs := hP5.size
        clear hWn0 hFn hKn0 hP5
        go_wp2_with fail
        exact ⟨⟨hFs.out, by omega, hfn.out, hIs.out, .inr (.inr (.inl ⟨rfl, hWn.out, hKn.out⟩))⟩, by simp [intOf]⟩
      · obtain ⟨Ak, ck, hvk, _, _⟩ := hWv.form
        subst hvk
        have hWq := Lib.hid hWv
        have hKq := Lib.hid hKb
        clear hWv hKb
        go_wp2_with fail
        refine (w2.out _).mono ?_
        rintro e w' ⟨rfl, rfl⟩
        go_wp2_with fail
        refine (c2.out _ _ hWq.out (by omega) hIh.out).mono ?_
        rintro e w5 ⟨vn, rfl, hWn0, hFn⟩
        have hKn0 := Has.but hKq.out hFn.but (fun e => (hfh.out _ e).2 rfl)
        have hz5 := hFn.but.size
        have hIn := Lib.hid (ils_wk hIh.out hFn hWq.out hBB (by omega))
        have hfn := Lib.hid (show ∀ q, vn.ownBlock = some q → B ≤ q ∧ q ≠ kb from fun q hq => ⟨(World.ownsRow.lt hWn0 q hq).1, fun e => by
          rcases hFn.new q hq with e2 | e2
          · exact (hfh.out q e2).2 e
          · omega⟩)
        have hFw := Lib.hid (hFh.out.trans hFn)
        have hkc := hKn0.cell
        have hkf := hKn0.frozen
        have hKn := Lib.hid (hKn0.put 4 (.int .i64 (R.2 : Nat)))
        have hP5 : KeptBut w5 (w5.setCell ⟨kb, 4, none⟩ (.int .i64 (R.2 : Nat))) (fun i => i = kb) := KeptBut.put (S := fun i => i = kb) (p := ⟨kb, 4, none⟩) (KeptBut.refl w5 (fun i => i = kb)) (fun _ => rfl) (.int .i64 (R.2 : Nat))
        have hWn := Lib.hid (show COwn (w5.setCell ⟨kb, 4, none⟩ (.int .i64 (R.2 : Nat))) B vn R.1 from owns_but hWn0 hP5 (fun q hq => (hfn.out q hq).2))
        have hIs := Lib.hid (hIn.out.below (hP5.below (B := Bl) (fun i hi e => by omega) (by omega)))
        have hFs := Lib.hid (show Wk w (w5.setCell ⟨kb, 4, none⟩ (.int .i64 (R.2 : Nat))) (.slice Av ds.length cv) vn from ⟨hFw.out.but.trans (hP5.mono (T := fun i => i = kb) (fun i _ e => e)) (fun i hi e => by omega), hFw.out.new⟩)
        have hzs := hP5.size
        clear hWn0 hFn hKn0 hP5
        go_wp2_with fail
        exact ⟨⟨hFs.out, by omega, hfn.out, hIs.out, .inr (.inr (.inr ⟨rfl, hWn.out, hKn.out⟩))⟩, by simp [intOf]⟩
      · obtain ⟨Ak, ck, hvk, _, _⟩ := hWv.form
        subst hvk
        have hKc := hKb.cell
        have hWq := Lib.hid hWv
        have hzB : B ≤ wr.heap.size := by omega
        clear hWv hKb
        by_cases hs1 : Q.2 = P.2
        · by_cases hs2 : R.2 = P.2
          · have hC := Lib.hid (show cvar R.1 u P.2 Q.2 R.2 = (R.1, P.2) from if_pos ⟨hs1, hs2⟩)
            have hb1 : ((P.2 : Int) == (Q.2 : Int)) = true := by simp [hs1]
            have hb2 : ((Q.2 : Int) == (R.2 : Int)) = true := by simp [hs1, hs2]
            clear hs1 hs2
            go_wp2_with fail
            go_quiet (fail)
            go_wp2_with fail
            go_ret2
            rw [hE.out, hC.out]
            exact ⟨_, rfl, hWq.out.below (below_drewN (Below.refl _ _) _), hFh.out.trans (Wk.of_below (below_drewN (Below.refl _ _) _) _)⟩
          · have hC := Lib.hid (show cvar R.1 u P.2 Q.2 R.2 = cput R.1 ⟨u, 0, P.2, Q.2, R.2⟩ from if_neg (fun q => hs2 q.2))
            have hb1 : ((P.2 : Int) == (Q.2 : Int)) = true := by simp [hs1]
            have hb2 : ((Q.2 : Int) == (R.2 : Int)) = false := by rw [beq_eq_false_iff_ne]; omega
            clear hs1 hs2
            go_wp2_with fail
            refine (cV.out _ _ hWq.out hzB).mono ?_
            rintro e w5 ⟨vn, rfl, hWn0, hFn⟩
            have hWn := Lib.hid hWn0
            have hFw := Lib.hid (hFh.out.trans hFn)
            clear hWn0 hFn hKc
            go_wp2_with fail
            go_ret2
            rw [hE.out, hC.out]
            exact ⟨vn, rfl, hWn.out, hFw.out⟩
        · have hC := Lib.hid (show cvar R.1 u P.2 Q.2 R.2 = cput R.1 ⟨u, 0, P.2, Q.2, R.2⟩ from if_neg (fun q => hs1 q.1))
          have hb1 : ((P.2 : Int) == (Q.2 : Int)) = false := by rw [beq_eq_false_iff_ne]; omega
          clear hs1
          go_wp2_with fail
          refine (cV.out _ _ hWq.out hzB).mono ?_
          rintro e w5 ⟨vn, rfl, hWn0, hFn⟩
          have hWn := Lib.hid hWn0
          have hFw := Lib.hid (hFh.out.trans hFn)
          clear hWn0 hFn hKc
          go_wp2_with fail
          go_ret2
          rw [hE.out, hC.out]
          exact ⟨vn, rfl, hWn.out, hFw.out⟩
theorem specDiagramOf_any (A : Option Addr) (n c : Nat) (os : List Int) (w : World) (h : Ils w w.heap.size A n os) (hn : n ≤ maxLen) :
    Calls Try.prog 28 #[.slice A n c] w (Cbd w (dOf os) (lstOk 1000000000 os)) := by
  have cL := Lib.hid (l4List_any A n c os w h hn)
  have hH := Lib.hid h
  have hL := h.1
  clear h hn
  cases hk : lstOk 1000000000 os
  · have hR := Lib.hid (show dOf os = [] by unfold dOf; rw [hk]; rfl)
    rw [hk] at cL
    clear hk hL
    go_enter Try.func28, Try.ntmps28
    go_wp2_with fail
    refine cL.out.mono ?_
    rintro e w1 ⟨rfl, hb⟩
    have hB := Lib.hid hb
    clear hb
    go_wp2_with fail
    go_ret2
    exact ⟨_, rfl, by rw [hR.out]; exact COwn.nil _ _, hB.out⟩
  · have hR := Lib.hid (show dOf os = (mkC (fl os) 4 [] 0).1 by unfold dOf; rw [if_pos hk]; rfl)
    have h81 := (lstOk_bd hk).1
    have hn81 : Hid (n = 81) := Lib.hid (by omega)
    rw [hk] at cL
    clear hk hL h81
    go_enter Try.func28, Try.ntmps28
    go_wp2_with fail
    refine cL.out.mono ?_
    rintro e w1 ⟨rfl, hb⟩
    have hb1 := hb.alloc hb.size (.cells #[] 47)
    have hB1 := Lib.hid hb1
    have hI1 := Lib.hid (hH.out.below hb1)
    have hz1 := hb.size
    have hO1 : COwn (w1.alloc (.cells #[] 47)) w1.heap.size (.slice (some ⟨w1.heap.size, 0, none⟩) 0 0) [] := ⟨rfl, .inr ⟨w1.heap.size, 0, #[], rfl, Nat.le_refl _, Has.new _ _ _, Nat.le_refl _, by decide, rfl, rfl⟩⟩
    have hO1h := Lib.hid hO1
    have hzA : w1.heap.size ≤ (w1.alloc (.cells #[] 47)).heap.size := by simp
    clear hb hb1 hO1
    go_wp2_with fail
    generalize w1.alloc (.cells #[] 47) = W at hB1 hI1 hO1h hzA ⊢
    generalize w1.heap.size = G at hz1 hO1h hzA ⊢
    have cW : Calls Try.prog 75 #[.slice (some ⟨G, 0, none⟩) 0 0, .slice A n c, .int .i64 0, .int .i64 0] W (Mpd W G (.slice (some ⟨G, 0, none⟩) 0 0) (mkC (fl os) 4 [] 0)) := l11Make_any G w.heap.size n c A os hz1 hn81.out 4 0 rfl (.slice (some ⟨G, 0, none⟩) 0 0) [] 0 W (by decide) hO1h.out hzA hI1.out (by decide)
    refine cW.mono ?_
    rintro e w2 ⟨v2, rfl, hO2, hF2⟩
    have hB2 := Lib.hid (hB1.out.trans (hF2.but.below (B := w.heap.size) (fun i hi e => by
      have : G = i := by injection e with e
      omega) (Nat.le_trans hz1 hzA)))
    have hO2h := Lib.hid (show COwn w2 w.heap.size v2 (mkC (fl os) 4 [] 0).1 from owns_le hO2 hz1)
    clear cW hF2 hO2
    go_wp2_with fail
    go_ret2
    exact ⟨_, rfl, by rw [hR.out]; exact hO2h.out, hB2.out⟩
theorem specLeast_any (A : Option Addr) (n c : Nat) (ds : List Ce) (w : World) (h : CLst w w.heap.size A n ds) (hn : n ≤ maxLen) (hc : c ≤ maxLen) (hnc : n ≤ c) :
    Calls Try.prog 32 #[.slice A n c] w (Cbd w (leastOf ds) (diaOk ds)) := by
  have cK := Lib.hid (specDiagramOk_any A n c ds w h hn hc hnc)
  have cD := Lib.hid (fun (wx : World) (hx : CLst wx wx.heap.size A n ds) => specDiagramList_any A n c ds wx hx hn hc hnc)
  have hK := Lib.hid (lst_dlist ds)
  have hH := Lib.hid h
  have hE := Lib.hid (show leastOf ds = dOf (dlistOf ds) from rfl)
  have hE0 := Lib.hid (fun (q : diaOk ds = false) => (show leastOf ds = [] by
    rw [hE.out]
    unfold dOf
    rw [hK.out, q]
    rfl))
  have hlen : (dlistOf ds).length ≤ 81 := by
    unfold dlistOf
    split
    · rw [dlist_length]; exact Nat.le_refl _
    · exact Nat.zero_le _
  clear h hn hc hnc
  cases hd : diaOk ds
  · rw [hd] at cK
    have hR := Lib.hid (hE0.out hd)
    clear hd cD
    go_enter Try.func32, Try.ntmps32
    go_wp2_with fail
    refine cK.out.mono ?_
    rintro e w1 ⟨rfl, hb⟩
    have hB := Lib.hid hb
    clear hb
    go_wp2_with fail
    go_ret2
    exact ⟨_, rfl, by rw [hR.out]; exact COwn.nil _ _, hB.out⟩
  · rw [hd] at cK hK
    rw [hE.out]
    generalize dlistOf ds = os at *
    clear hd hE hE0
    go_enter Try.func32, Try.ntmps32
    go_wp2_with fail
    refine cK.out.mono ?_
    rintro e w0 ⟨rfl, hb0⟩
    have hB0 := Lib.hid hb0
    clear hb0
    go_wp2_with fail
    refine (cD.out _ ((hH.out.below hB0.out).more hB0.out.size)).mono ?_
    rintro e w1 ⟨v, rfl, hO, hb⟩
    obtain ⟨A1, c1, rfl, _, _⟩ := hO.form
    have cO := Lib.hid (specDiagramOf_any A1 os.length c1 os w1 hO.lst (by unfold maxLen; omega))
    rw [hK.out] at cO
    have hB := Lib.hid (hB0.out.trans (hb.mono hB0.out.size))
    clear hO hb hK
    go_wp2_with fail
    refine cO.out.mono ?_
    rintro e w2 ⟨v2, rfl, hO2, hb2⟩
    have hB2 := Lib.hid (hB.out.trans (hb2.mono hB.out.size))
    have hO2' := Lib.hid (show COwn w2 w.heap.size v2 (dOf os) from owns_le hO2 hB.out.size)
    clear hO2 hb2
    go_wp2_with fail
    go_ret2
    exact ⟨_, rfl, hO2'.out, hB2.out⟩
end Go.Proofs.Ytghkpmafocacoaa
