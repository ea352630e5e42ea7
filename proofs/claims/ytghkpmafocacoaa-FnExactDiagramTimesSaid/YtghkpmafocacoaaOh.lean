/- Diagrams: the program's multiplied. -/
import Derived.Test.YtghkpmafocacoaaOg
namespace Go.Proofs.Ytghkpmafocacoaa
set_option maxRecDepth 100000
set_option linter.unusedVariables false
open Go.RowKit

theorem listed_no {listed : Array Bool} {i k : Nat} (hk : i ≠ k) (e : (listed.setIfInBounds i true).getD k false = false) : listed.getD k false = false := by
  rw [Array.getD_eq_getD_getElem?, Array.getElem?_setIfInBounds, if_neg hk, ← Array.getD_eq_getD_getElem?] at e
  exact e
theorem listed_at {listed : Array Bool} {i : Nat} (h : i < listed.size) : (listed.setIfInBounds i true).getD i false = true := by
  rw [Array.getD_eq_getD_getElem?, Array.getElem?_setIfInBounds, if_pos rfl, if_pos h]
  rfl
theorem listed_up {listed : Array Bool} {i k : Nat} (e : listed.getD k false = true) : (listed.setIfInBounds i true).getD k false = true := by
  by_cases hk : i = k
  · subst hk
    refine listed_at ?_
    rw [Array.getD_eq_getD_getElem?] at e
    cases he : listed[i]? with
    | none => rw [he] at e; cases e
    | some b => exact (Array.getElem?_eq_some_iff.1 he).1
  · rw [Array.getD_eq_getD_getElem?, Array.getElem?_setIfInBounds, if_neg hk, ← Array.getD_eq_getD_getElem?]
    exact e
set_option maxHeartbeats 8000000 in
theorem multiplied_any (B G Kb Bl n m c1 c2 i j : Nat) (A1 A2 : Option Addr) (d e : List Ce) (hL : PL B G Kb Bl) (hn : n ≤ 121) (hm : m ≤ 121) (hd : allOk d d.length = true) (he : allOk e e.length = true) (hi : i < n) (hj : j < m) (hdn : d.length = n) (hem : e.length = m)
    (ih : ∀ i' j', i' + j' < i + j → i' < n → j' < m → PairOk Try.prog 82 B G Kb Bl A1 A2 n m c1 c2 d e i' j') :
    PairOk Try.prog 132 B G Kb Bl A1 A2 n m c1 c2 d e i j := by
  intro w v sl ds kv h hl
  have ud := up_of hd
  have ue := up_of he
  have hi' : i < d.length := by omega
  have hj' : j < e.length := by omega
  have hp := plv_bd ud ue hi' hj'
  obtain ⟨u, hu⟩ : ∃ u, u = plv d e i j := ⟨_, rfl⟩
  have hBw := h.wv.le
  have hbb := hL.bb
  have hgb := hL.gb
  obtain ⟨g1, o1, rfl, hg1, hat1⟩ := h.l1.gt_ hi
  obtain ⟨g2, o2, rfl, hg2, hat2⟩ := h.l2.gt_ hj
  have hg1w : g1 < w.heap.size := by omega
  have hg2w : g2 < w.heap.size := by omega
  obtain ⟨f0, f1, f2, f3, f4⟩ := hat1.open_
  obtain ⟨h0, h1, h2, h3, h4⟩ := hat2.open_
  have e0 : w.cell? ⟨G, 0, none⟩ = some (.slice (some ⟨g1, o1, none⟩) n c1) := (h.wv.has.cell 0).trans rfl
  have e1 : w.cell? ⟨G, 1, none⟩ = some (.slice (some ⟨g2, o2, none⟩) m c2) := (h.wv.has.cell 1).trans rfl
  have hGw := h.wv.has.lt
  have hnum := Lib.hid (fun (hv : plv d e i j = 4) => pm_leaf ud ue hi' hj' hv ds)
  have hkid := Lib.hid (fun (hv : plv d e i j ≤ 3) (P Q T : List Ce × Nat) => @pm_step d e ud ue i j hi' hj' hv ds P Q T)
  have hbd1 := Lib.hid (fun hv => cOk_num (allOk_at hd hi') hv)
  have hbd2 := Lib.hid (fun hv => cOk_num (allOk_at he hj') hv)
  have hlb1 := lev_bd ud hi'
  have hlb2 := lev_bd ue hj'
  have cL1 := Lib.hid (fun wx => levelOf_any (gt d i) wx)
  have cL2 := Lib.hid (fun wx => levelOf_any (gt e j) wx)
  obtain ⟨p, hp1⟩ : ∃ p : Nat, (gt d i).lev = p := ⟨_, (Int.toNat_of_nonneg hlb1.1).symm⟩
  obtain ⟨z, hq1⟩ : ∃ z : Nat, (gt e j).lev = z := ⟨_, (Int.toNat_of_nonneg hlb2.1).symm⟩
  rw [hp1] at cL1 hp hlb1
  rw [hq1] at cL2 hp hlb2
  rw [← hu] at hp
  have hsum := Lib.hid (fun (hv : plv d e i j ≤ 3) x => kf_sum ud ue hi' hj' hv x)
  have hPW := Lib.hid h
  have hud := Lib.hid ud
  have hue := Lib.hid ue
  have hlen := Lib.hid (And.intro hdn hem)
  have hll := Lib.hid hl
  have hih := Lib.hid ih
  generalize hga : gt d i = a at *
  generalize hgb' : gt e j = b at *
  have hOk := Lib.hid (fun (wx : World) (hx : Below w.heap.size w wx) => (show Below w.heap.size w wx ∧ wx.cell? ⟨G, 0, none⟩ = some (.slice (some ⟨g1, o1, none⟩) n c1) ∧ wx.cell? ⟨G, 1, none⟩ = some (.slice (some ⟨g2, o2, none⟩) m c2) ∧ wx.cell? ⟨g1, o1 + i * 5, none⟩ = some (.int .i64 a.v) ∧ wx.cell? ⟨g1, o1 + i * 5 + 1, none⟩ = some (.int .i64 a.n) ∧ wx.cell? ⟨g1, o1 + i * 5 + 2, none⟩ = some (.int .i64 a.a) ∧ wx.cell? ⟨g1, o1 + i * 5 + 3, none⟩ = some (.int .i64 a.b) ∧ wx.cell? ⟨g1, o1 + i * 5 + 4, none⟩ = some (.int .i64 a.c) ∧ wx.cell? ⟨g2, o2 + j * 5, none⟩ = some (.int .i64 b.v) ∧ wx.cell? ⟨g2, o2 + j * 5 + 1, none⟩ = some (.int .i64 b.n) ∧ wx.cell? ⟨g2, o2 + j * 5 + 2, none⟩ = some (.int .i64 b.a) ∧ wx.cell? ⟨g2, o2 + j * 5 + 3, none⟩ = some (.int .i64 b.b) ∧ wx.cell? ⟨g2, o2 + j * 5 + 4, none⟩ = some (.int .i64 b.c) from
    ⟨hx, (hx.cell (p := ⟨G, 0, none⟩) (by exact hGw)).trans e0, (hx.cell (p := ⟨G, 1, none⟩) (by exact hGw)).trans e1, (hx.cell (p := ⟨g1, o1 + i * 5, none⟩) (by exact hg1w)).trans f0, (hx.cell (p := ⟨g1, o1 + i * 5 + 1, none⟩) (by exact hg1w)).trans f1, (hx.cell (p := ⟨g1, o1 + i * 5 + 2, none⟩) (by exact hg1w)).trans f2, (hx.cell (p := ⟨g1, o1 + i * 5 + 3, none⟩) (by exact hg1w)).trans f3, (hx.cell (p := ⟨g1, o1 + i * 5 + 4, none⟩) (by exact hg1w)).trans f4, (hx.cell (p := ⟨g2, o2 + j * 5, none⟩) (by exact hg2w)).trans h0, (hx.cell (p := ⟨g2, o2 + j * 5 + 1, none⟩) (by exact hg2w)).trans h1, (hx.cell (p := ⟨g2, o2 + j * 5 + 2, none⟩) (by exact hg2w)).trans h2, (hx.cell (p := ⟨g2, o2 + j * 5 + 3, none⟩) (by exact hg2w)).trans h3, (hx.cell (p := ⟨g2, o2 + j * 5 + 4, none⟩) (by exact hg2w)).trans h4⟩))
  have hi0 : (0 : Int) ≤ (i : Int) := by omega
  have hi1 : (i : Int) < (n : Int) := by omega
  have hj0 : (0 : Int) ≤ (j : Int) := by omega
  have hj1 : (j : Int) < (m : Int) := by omega
  have hun : (u : Int) = min (p : Int) (z : Int) := hp.1
  have hmin : (if z < p then (z : Int) else (p : Int)) = (u : Int) := by split <;> omega
  have hminh := Lib.hid hmin
  clear hmin
  have hu4 : u ≤ 4 := hp.2
  have huh := Lib.hid hu
  have hgah := Lib.hid hga
  have hgbh := Lib.hid hgb'
  have hp1h := Lib.hid hp1
  have hq1h := Lib.hid hq1
  clear h hat1 hat2 f0 f1 f2 f3 f4 h0 h1 h2 h3 h4 ih hdn hem hl hu hga hgb' hp ud ue hd he hi' hj' hp1 hq1 hi hj
  go_enter Try.func132, Try.ntmps132
  go_wp2_with fail
  clear e0 e1
  obtain ⟨_, e0, e1, x0, x1, x2, x3, x4, y0, y1, y2, y3, y4⟩ := hOk.out w (Below.refl _ _)
  go_region_held3 (fun wx => Below w.heap.size w wx ∧ wx.cell? ⟨G, 0, none⟩ = some (.slice (some ⟨g1, o1, none⟩) n c1) ∧ wx.cell? ⟨G, 1, none⟩ = some (.slice (some ⟨g2, o2, none⟩) m c2) ∧ wx.cell? ⟨g1, o1 + i * 5, none⟩ = some (.int .i64 a.v) ∧ wx.cell? ⟨g1, o1 + i * 5 + 1, none⟩ = some (.int .i64 a.n) ∧ wx.cell? ⟨g1, o1 + i * 5 + 2, none⟩ = some (.int .i64 a.a) ∧ wx.cell? ⟨g1, o1 + i * 5 + 3, none⟩ = some (.int .i64 a.b) ∧ wx.cell? ⟨g1, o1 + i * 5 + 4, none⟩ = some (.int .i64 a.c) ∧ wx.cell? ⟨g2, o2 + j * 5, none⟩ = some (.int .i64 b.v) ∧ wx.cell? ⟨g2, o2 + j * 5 + 1, none⟩ = some (.int .i64 b.n) ∧ wx.cell? ⟨g2, o2 + j * 5 + 2, none⟩ = some (.int .i64 b.a) ∧ wx.cell? ⟨g2, o2 + j * 5 + 3, none⟩ = some (.int .i64 b.b) ∧ wx.cell? ⟨g2, o2 + j * 5 + 4, none⟩ = some (.int .i64 b.c)) (first | exact hOk.out _ ((Below.refl _ _).drew) | exact hOk.out _ (bt6 (by assumption) hbq) | exact hOk.out _ (bs6 (by assumption)) | exact hOk.out _ (bd6 (by assumption)) | go_keep) (first | (go_at_call 81; first | (refine (cL1.out _).mono ?_; rintro ee wq ⟨rfl, hbq⟩) | (refine (cL2.out _).mono ?_; rintro ee wq ⟨rfl, hbq⟩)))
  rename_i hHeld
  have hBq := Lib.hid hHeld.1
  have hPq := Lib.hid (hPW.out.below hL hBq.out)
  have hzq := hBq.out.size
  have hPfq := Lib.hid (Pf.of_below hBq.out G Kb v)
  obtain ⟨_, s0, s1, x0', x1', x2', x3', x4', y0', y1', y2', y3', y4'⟩ := hHeld
  rw [hminh.out]
  clear hbq e0 e1 x0 x1 x2 x3 x4 y0 y1 y2 y3 y4 hOk cL1 cL2
  by_cases h4 : u = 4
  · have hpv : plv d e i j = 4 := huh.out.symm.trans h4
    have hE := Lib.hid (hnum.out hpv)
    have ha := hbd1.out (hlb1.2.2.2 (by omega))
    have hb := hbd2.out (hlb2.2.2.2 (by omega))
    have hmul : 0 ≤ a.n * b.n ∧ a.n * b.n ≤ 1000000000000000000 := by
      refine ⟨Int.mul_nonneg ha.1 hb.1, ?_⟩
      have := Int.mul_le_mul ha.2.1 hb.2.1 hb.1 (by decide)
      omega
    have hmw : IntKind.i64.wrap (a.n * b.n) = a.n * b.n := by rw [IntKind.wrap_i64]; omega
    have hu4e : ((u : Int) == 4) = true := by rw [h4]; rfl
    have cN := Lib.hid (fun (wx : World) (hx : Wv wx B G 88 (preP (some ⟨g1, o1, none⟩) (some ⟨g2, o2, none⟩) n m c1 c2 Kb) v sl ds) => numberCell_any B G 3 88 (preP (some ⟨g1, o1, none⟩) (some ⟨g2, o2, none⟩) n m c1 c2 Kb) v sl ds (a.n * b.n) wx hx rfl pairing_ne (by have := hll.out; rw [hpv] at this; have h9 : nc (4 - 4) = 1 := rfl; omega))
    have hW9 := Lib.hid (hPq.out.wv.below ((Below.refl _ _).drew))
    have hPd := Lib.hid (hPq.out.below hL ((Below.refl _ _).drew))
    clear hpv h4 ha hb hun hlb1 hlb2 hmul
    have hmw2 : RowKit.wrap64 (a.n * b.n) = a.n * b.n := (IntWalk.i64_left _).symm.trans hmw
    go_wp2_with fail
    go_still_tail 20, (by kernel_rfl)
    change wpList _ _ _ _ _ wq.drew
    go_wp2_with fail
    refine (cN.out _ hW9.out).mono ?_
    rintro ee w5 ⟨vn, sln, rfl, hWn, hFn⟩
    obtain ⟨t, ht⟩ := cput_sub ds (cnum (a.n * b.n))
    have hP5 := Lib.hid (hPd.out.step hL hFn hWn ht)
    have hF5 := Lib.hid (hPfq.out.trans ((Pf.of_below ((Below.refl _ _).drew) G Kb v).trans (Pf.of_wf hFn Kb)))
    clear hWn hFn
    go_wp2_with fail
    go_ret
    rw [hE.out]
    exact ⟨vn, sln, kv, rfl, hP5.out, hF5.out⟩
  · have hv3 : plv d e i j ≤ 3 := by rw [← huh.out]; omega
    have hs := hsum.out hv3
    have hk3 := hkid.out hv3
    rw [← huh.out] at hs hk3
    have hnc : nc (4 - u) = 3 * nc (3 - u) + 1 := by rw [show 4 - u = (3 - u) + 1 by omega]; rfl
    have hl0 := hll.out
    rw [← huh.out, hnc] at hl0
    obtain ⟨P, hP⟩ : ∃ P, P = pm d e ds (kf d i u 0) (kf e j u 0) := ⟨_, rfl⟩
    obtain ⟨Q, hQ⟩ : ∃ Q, Q = pm d e P.1 (kf d i u 1) (kf e j u 1) := ⟨_, rfl⟩
    obtain ⟨R, hR⟩ : ∃ R, R = pm d e Q.1 (kf d i u 2) (kf e j u 2) := ⟨_, rfl⟩
    have hE := Lib.hid (hk3 P Q R hP hQ hR)
    have hm0 : nc (4 - plv d e (kf d i u 0) (kf e j u 0)) ≤ nc (3 - u) := nc_mono (by have := (hs 0).2.2.2; omega)
    have hm1 : nc (4 - plv d e (kf d i u 1) (kf e j u 1)) ≤ nc (3 - u) := nc_mono (by have := (hs 1).2.2.2; omega)
    have hm2 : nc (4 - plv d e (kf d i u 2) (kf e j u 2)) ≤ nc (3 - u) := nc_mono (by have := (hs 2).2.2.2; omega)
    have l0 := pm_len d e ds (kf d i u 0) (kf e j u 0)
    have l1 := pm_len d e P.1 (kf d i u 1) (kf e j u 1)
    have l2 := pm_len d e Q.1 (kf d i u 2) (kf e j u 2)
    rw [← hP] at l0
    rw [← hQ] at l1
    rw [← hR] at l2
    have hin : i < n := by omega
    have hjm : j < m := by omega
    have hu3 : u ≤ 3 := by omega
    have q0 := hih.out _ _ (hs 0).2.2.1 (by have := (hs 0).1; rw [hlen.out.1] at this; exact this) (by have := (hs 0).2.1; rw [hlen.out.2] at this; exact this)
    have q1 := hih.out _ _ (hs 1).2.2.1 (by have := (hs 1).1; rw [hlen.out.1] at this; exact this) (by have := (hs 1).2.1; rw [hlen.out.2] at this; exact this)
    have q2 := hih.out _ _ (hs 2).2.2.1 (by have := (hs 2).1; rw [hlen.out.1] at this; exact this) (by have := (hs 2).2.1; rw [hlen.out.2] at this; exact this)
    have cP0 := Lib.hid (fun w v sl kv hp => q0 w v sl ds kv hp (by omega))
    have cP1 := Lib.hid (fun w v sl kv hp => q1 w v sl P.1 kv hp (by omega))
    have cP2 := Lib.hid (fun w v sl kv hp => q2 w v sl Q.1 kv hp (by omega))
    rw [← hP] at cP0
    rw [← hQ] at cP1
    rw [← hR] at cP2
    have cV := Lib.hid (fun v1 sl1 wx (hx : Wv wx B G 88 (preP (some ⟨g1, o1, none⟩) (some ⟨g2, o2, none⟩) n m c1 c2 Kb) v1 sl1 R.1) => varCell_any B G 3 88 _ v1 sl1 R.1 u P.2 Q.2 R.2 wx hx rfl pairing_ne (by omega))
    have hcv := Lib.hid (cvar_sub R.1 u P.2 Q.2 R.2)
    have cA := Lib.hid (fun (x : Nat) (hx : x < 3) wx hc => kidFor_any (some ⟨g1, o1, none⟩) n c1 i u x d wx hc hn hin hx hud.out hu3)
    have cB := Lib.hid (fun (x : Nat) (hx : x < 3) wx hc => kidFor_any (some ⟨g2, o2, none⟩) m c2 j u x e wx hc hm hjm hx hue.out hu3)
    have cA0 := Lib.hid (fun (wx : World) (hc : CLst wx wx.heap.size (some ⟨g1, o1, none⟩) n d) => (show Calls Try.prog 168 #[.slice (some ⟨g1, o1, none⟩) n c1, .int .i64 (i : Int), .int .i64 (u : Int), .int .i64 0] wx fun e w' => e = .returned (.int .i64 (kf d i u 0 : Nat)) ∧ wx = w' from cA.out 0 (by decide) wx hc))
    have cB0 := Lib.hid (fun (wx : World) (hc : CLst wx wx.heap.size (some ⟨g2, o2, none⟩) m e) => (show Calls Try.prog 168 #[.slice (some ⟨g2, o2, none⟩) m c2, .int .i64 (j : Int), .int .i64 (u : Int), .int .i64 0] wx fun ee w' => ee = .returned (.int .i64 (kf e j u 0 : Nat)) ∧ wx = w' from cB.out 0 (by decide) wx hc))
    have cA1 := Lib.hid (fun (wx : World) (hc : CLst wx wx.heap.size (some ⟨g1, o1, none⟩) n d) => (show Calls Try.prog 168 #[.slice (some ⟨g1, o1, none⟩) n c1, .int .i64 (i : Int), .int .i64 (u : Int), .int .i64 1] wx fun e w' => e = .returned (.int .i64 (kf d i u 1 : Nat)) ∧ wx = w' from cA.out 1 (by decide) wx hc))
    have cB1 := Lib.hid (fun (wx : World) (hc : CLst wx wx.heap.size (some ⟨g2, o2, none⟩) m e) => (show Calls Try.prog 168 #[.slice (some ⟨g2, o2, none⟩) m c2, .int .i64 (j : Int), .int .i64 (u : Int), .int .i64 1] wx fun ee w' => ee = .returned (.int .i64 (kf e j u 1 : Nat)) ∧ wx = w' from cB.out 1 (by decide) wx hc))
    have cA2 := Lib.hid (fun (wx : World) (hc : CLst wx wx.heap.size (some ⟨g1, o1, none⟩) n d) => (show Calls Try.prog 168 #[.slice (some ⟨g1, o1, none⟩) n c1, .int .i64 (i : Int), .int .i64 (u : Int), .int .i64 2] wx fun e w' => e = .returned (.int .i64 (kf d i u 2 : Nat)) ∧ wx = w' from cA.out 2 (by decide) wx hc))
    have cB2 := Lib.hid (fun (wx : World) (hc : CLst wx wx.heap.size (some ⟨g2, o2, none⟩) m e) => (show Calls Try.prog 168 #[.slice (some ⟨g2, o2, none⟩) m c2, .int .i64 (j : Int), .int .i64 (u : Int), .int .i64 2] wx fun ee w' => ee = .returned (.int .i64 (kf e j u 2 : Nat)) ∧ wx = w' from cB.out 2 (by decide) wx hc))
    have hb0 : Below wq.heap.size wq (wq.alloc (.cells #[.int .i64 0, .int .i64 0, .int .i64 0] 45)) := (Below.refl _ _).alloc (Nat.le_refl _) _
    have hW0 := Lib.hid (hPq.out.below hL hb0)
    have hsz : (wq.alloc (.cells #[.int .i64 0, .int .i64 0, .int .i64 0] 45)).heap.size = wq.heap.size + 1 := by simp
    have hK0 := Lib.hid (Has.new wq 45 #[.int .i64 0, .int .i64 0, .int .i64 0])
    have hF0 := Lib.hid (hPfq.out.trans (Pf.of_below hb0 G Kb v))
    have hfar := Lib.hid (fun k (hk : v.ownBlock = some k) => own_far hPq.out.wv hk)
    have hu4e : ((u : Int) == 4) = false := by
      rw [beq_eq_false_iff_ne]
      omega
    have hbq : B ≤ wq.heap.size := by omega
    generalize nc (3 - u) = N3 at *
    clear hs hk3 hnc hl0 hm0 hm1 hm2 l0 l1 l2 q0 q1 q2 hb0 hun hlb1 hlb2 h4 hv3 hP hQ hR cA cB
    go_wp2_with fail
    clear s0 s1 x0' x1' x2' x3' x4' y0' y1' y2' y3' y4'
    generalize wq.alloc (.cells #[.int .i64 0, .int .i64 0, .int .i64 0] 45) = wA at hW0 hK0 hF0 hsz ⊢
    generalize hkb : wq.heap.size = kb at hK0 hsz hfar hzq hbq ⊢
    have hAz : kb < wA.heap.size := by omega
    have hwk : w.heap.size ≤ kb := by omega
    clear hsz hkb
    go_loopw [50] (fun i wr => ∃ (vk : Value) (slk : List Int) (kvk : List Int), Pf w wr G Kb v vk ∧ kb < wr.heap.size ∧ (∀ k, vk.ownBlock = some k → B ≤ k ∧ k ≠ kb) ∧
        ((i = .int .i64 0 ∧ PW wr B G Kb Bl (some ⟨g1, o1, none⟩) (some ⟨g2, o2, none⟩) n m c1 c2 d e vk slk ds kvk ∧ Has wr kb 45 #[.int .i64 0, .int .i64 0, .int .i64 0]) ∨
         (i = .int .i64 1 ∧ PW wr B G Kb Bl (some ⟨g1, o1, none⟩) (some ⟨g2, o2, none⟩) n m c1 c2 d e vk slk P.1 kvk ∧ Has wr kb 45 #[.int .i64 (P.2 : Nat), .int .i64 0, .int .i64 0]) ∨
         (i = .int .i64 2 ∧ PW wr B G Kb Bl (some ⟨g1, o1, none⟩) (some ⟨g2, o2, none⟩) n m c1 c2 d e vk slk Q.1 kvk ∧ Has wr kb 45 #[.int .i64 (P.2 : Nat), .int .i64 (Q.2 : Nat), .int .i64 0]) ∨
         (i = .int .i64 3 ∧ PW wr B G Kb Bl (some ⟨g1, o1, none⟩) (some ⟨g2, o2, none⟩) n m c1 c2 d e vk slk R.1 kvk ∧ Has wr kb 45 #[.int .i64 (P.2 : Nat), .int .i64 (Q.2 : Nat), .int .i64 (R.2 : Nat)]))) (fun i _ => 3 - (intOf i).toNat)
    case atStart => exact ⟨v, sl, kv, hF0.out, hAz, fun k hk => ⟨(hfar.out k hk).1, by have := (hfar.out k hk).2; omega⟩, .inl ⟨rfl, hW0.out, hK0.out⟩⟩
    case round =>
      obtain ⟨vk, slk, kvk, hF, hkz, hfk, hrel⟩ := hrel
      clear hW0 hK0 hF0 hAz
      have hFh := Lib.hid hF
      have hfh := Lib.hid hfk
      clear hF hfk
      rcases hrel with ⟨rfl, hWv, hKb⟩ | ⟨rfl, hWv, hKb⟩ | ⟨rfl, hWv, hKb⟩ | ⟨rfl, hWv, hKb⟩
      · have hPk := Lib.hid hWv
        have hKq := Lib.hid hKb
        have hGr := hWv.wv.has.lt
        have hBr : Bl ≤ wr.heap.size := Nat.le_trans hL.bb hWv.wv.le
        have hOk2 := Lib.hid (fun (wx : World) (hx : Below wr.heap.size wr wx) => (show Below wr.heap.size wr wx ∧ wx.cell? ⟨G, 0, none⟩ = some (.slice (some ⟨g1, o1, none⟩) n c1) ∧ wx.cell? ⟨G, 1, none⟩ = some (.slice (some ⟨g2, o2, none⟩) m c2) from ⟨hx, (hx.cell (p := ⟨G, 0, none⟩) (by exact hGr)).trans ((hPk.out.wv.has.cell 0).trans rfl), (hx.cell (p := ⟨G, 1, none⟩) (by exact hGr)).trans ((hPk.out.wv.has.cell 1).trans rfl)⟩))
        have cAx := Lib.hid (fun (wx : World) (hx : Below wr.heap.size wr wx) => cA0.out wx (((hPk.out.below hL hx).l1).more (Nat.le_trans hBr hx.size)))
        have cBx := Lib.hid (fun (wx : World) (hx : Below wr.heap.size wr wx) => cB0.out wx (((hPk.out.below hL hx).l2).more (Nat.le_trans hBr hx.size)))
        have hkn := Lib.hid (show ¬ (kb = G ∨ kb = Kb ∨ vk.ownBlock = some kb) from fun e => by
          rcases e with e | e | e
          · have := hL.gb; omega
          · have := hL.kb; omega
          · exact (hfh.out _ e).2 rfl)
        generalize kf d i u 0 = k1 at *
        generalize kf e j u 0 = k2 at *
        clear hWv hKb
        go_wp2_with fail
        refine wp_region_any (by kernel_rfl) ?_
        change wpAny _ _ _ _ _ _ _ (World.drew _)
        refine wpAny_last (n := 20) (I := fun listed aq wx => listed.size = 21 ∧ ∃ v53 v54 v55 v56 v57 v58 v59 v60 v61 v62 v63 v64 v65 v66 v67 v68 v69 v70 v71 v72 : Value, aq = { tmps := #[.pointer (some ⟨G, 0, none⟩), .int .i64 ↑i, .int .i64 ↑j, undef, undef, undef, .int .i64 0, .int .i64 ↑u, .pointer (some ⟨kb, 0, none⟩), .int .i64 0, .pointer (some ⟨G, 0, none⟩), .pointer (some ⟨G, 0, none⟩), .pointer (some ⟨G, 0, none⟩), .slice (some ⟨g1, o1, none⟩) n c1, .int .i64 ↑i, .pointer (some ⟨g1, o1 + i * 5, none⟩), .agg #[.int .i64 a.v, .int .i64 a.n, .int .i64 a.a, .int .i64 a.b, .int .i64 a.c], .int .i64 ↑p, .pointer (some ⟨G, 0, none⟩), .pointer (some ⟨G, 0, none⟩), .pointer (some ⟨G, 1, none⟩), .slice (some ⟨g2, o2, none⟩) m c2, .int .i64 ↑j, .pointer (some ⟨g2, o2 + j * 5, none⟩), .agg #[.int .i64 b.v, .int .i64 b.n, .int .i64 b.a, .int .i64 b.b, .int .i64 b.c], .int .i64 ↑z, .int .i64 ↑u, .int .i64 ↑u, .bool false, undef, undef, undef, undef, undef, undef, undef, undef, undef, undef, undef, undef, undef, undef, undef, undef, undef, undef, undef, undef, undef, .int .i64 0, .bool true, .int .i64 0, v53, v54, v55, v56, v57, v58, v59, v60, v61, v62, v63, v64, v65, v66, v67, v68, v69, v70, v71, v72, u73, undef, undef, undef, undef, undef, undef], defers := [] } ∧ (listed.getD 0 false = true → v53 = .int .i64 0) ∧ (listed.getD 1 false = true → v54 = .pointer (some ⟨G, 0, none⟩)) ∧ (listed.getD 2 false = true → v55 = .pointer (some ⟨G, 0, none⟩)) ∧ (listed.getD 3 false = true → v56 = .pointer (some ⟨G, 0, none⟩)) ∧ (listed.getD 4 false = true → v57 = .pointer (some ⟨G, 0, none⟩)) ∧ (listed.getD 5 false = true → v58 = .slice (some ⟨g1, o1, none⟩) n c1) ∧ (listed.getD 6 false = true → v59 = .int .i64 ↑i) ∧ (listed.getD 7 false = true → v60 = .int .i64 ↑u) ∧ (listed.getD 8 false = true → v61 = .int .i64 0) ∧ (listed.getD 9 false = true → (v62 = .int .i64 (k1 : Nat) ∧ listed.getD 5 false = true)) ∧ (listed.getD 10 false = true → v63 = .pointer (some ⟨G, 0, none⟩)) ∧ (listed.getD 11 false = true → v64 = .pointer (some ⟨G, 0, none⟩)) ∧ (listed.getD 12 false = true → v65 = .pointer (some ⟨G, 1, none⟩)) ∧ (listed.getD 13 false = true → v66 = .slice (some ⟨g2, o2, none⟩) m c2) ∧ (listed.getD 14 false = true → v67 = .int .i64 ↑j) ∧ (listed.getD 15 false = true → v68 = .int .i64 ↑u) ∧ (listed.getD 16 false = true → v69 = .int .i64 0) ∧ (listed.getD 17 false = true → (v70 = .int .i64 (k2 : Nat) ∧ listed.getD 13 false = true)) ∧ (listed.getD 18 false = true → (∃ vn sln kvn, v71 = .int .i64 (P.2 : Nat) ∧ PW wx B G Kb Bl (some ⟨g1, o1, none⟩) (some ⟨g2, o2, none⟩) n m c1 c2 d e vn sln P.1 kvn ∧ Pf wr wx G Kb vk vn ∧ listed.getD 9 false = true ∧ listed.getD 17 false = true)) ∧ (listed.getD 19 false = true → v72 = .pointer (some ⟨kb, 0, none⟩)) ∧ (listed.getD 18 false = false → Below wr.heap.size wr wx)) rfl (by kernel_rfl) (by kernel_rfl) ?hs ?hl _ _ _ ?st rfl (by decide) _ (by decide)
        case st =>
          refine ⟨rfl, u53, u54, u55, u56, u57, u58, u59, u60, u61, u62, u63, u64, u65, u66, u67, u68, u69, u70, u71, u72, rfl, ?_, ?_, ?_, ?_, ?_, ?_, ?_, ?_, ?_, ?_, ?_, ?_, ?_, ?_, ?_, ?_, ?_, ?_, ?_, ?_, fun _ => (Below.refl _ _).drew⟩ <;> (intro e; exact absurd e (by decide))
        case hs =>
          rintro listed aq wx ⟨hz, v53, v54, v55, v56, v57, v58, v59, v60, v61, v62, v63, v64, v65, v66, v67, v68, v69, v70, v71, v72, rfl, hII⟩ i hin hi
          obtain ⟨h0, o, ho, hd⟩ := mem_ready.1 hi
          have K0 := Lib.hid hII.1
          have K1 := Lib.hid hII.2.1
          have K2 := Lib.hid hII.2.2.1
          have K3 := Lib.hid hII.2.2.2.1
          have K4 := Lib.hid hII.2.2.2.2.1
          have K5 := Lib.hid hII.2.2.2.2.2.1
          have K6 := Lib.hid hII.2.2.2.2.2.2.1
          have K7 := Lib.hid hII.2.2.2.2.2.2.2.1
          have K8 := Lib.hid hII.2.2.2.2.2.2.2.2.1
          have K9 := Lib.hid hII.2.2.2.2.2.2.2.2.2.1
          have K10 := Lib.hid hII.2.2.2.2.2.2.2.2.2.2.1
          have K11 := Lib.hid hII.2.2.2.2.2.2.2.2.2.2.2.1
          have K12 := Lib.hid hII.2.2.2.2.2.2.2.2.2.2.2.2.1
          have K13 := Lib.hid hII.2.2.2.2.2.2.2.2.2.2.2.2.2.1
          have K14 := Lib.hid hII.2.2.2.2.2.2.2.2.2.2.2.2.2.2.1
          have K15 := Lib.hid hII.2.2.2.2.2.2.2.2.2.2.2.2.2.2.2.1
          have K16 := Lib.hid hII.2.2.2.2.2.2.2.2.2.2.2.2.2.2.2.2.1
          have K17 := Lib.hid hII.2.2.2.2.2.2.2.2.2.2.2.2.2.2.2.2.2.1
          have K18 := Lib.hid hII.2.2.2.2.2.2.2.2.2.2.2.2.2.2.2.2.2.2.1
          have K19 := Lib.hid hII.2.2.2.2.2.2.2.2.2.2.2.2.2.2.2.2.2.2.2.1
          have hB : (listed.getD 18 false = false → Below wr.heap.size wr wx) := hII.2.2.2.2.2.2.2.2.2.2.2.2.2.2.2.2.2.2.2.2
          have hne := Lib.hid (fun k (hk : i ≠ k) => @listed_ne listed i k hk)
          have h0f : listed.getD i false = false := by rw [Array.getD_eq_getD_getElem?, getD_false h0]; rfl
          clear hII hi h0
          rcases (by omega : i = 0 ∨ i = 1 ∨ i = 2 ∨ i = 3 ∨ i = 4 ∨ i = 5 ∨ i = 6 ∨ i = 7 ∨ i = 8 ∨ i = 9 ∨ i = 10 ∨ i = 11 ∨ i = 12 ∨ i = 13 ∨ i = 14 ∨ i = 15 ∨ i = 16 ∨ i = 17 ∨ i = 18 ∨ i = 19) with rfl | rfl | rfl | rfl | rfl | rfl | rfl | rfl | rfl | rfl | rfl | rfl | rfl | rfl | rfl | rfl | rfl | rfl | rfl | rfl
          · cases ho
            refine wpOp_step rfl (fun K hK => ?_)
            go_simp
            refine hK _ _ ⟨by simpa using hz, .int .i64 0, v54, v55, v56, v57, v58, v59, v60, v61, v62, v63, v64, v65, v66, v67, v68, v69, v70, v71, v72, rfl, ?_⟩
            exact ⟨fun _ => rfl, fun e => K1.out (hne.out 1 (by decide) e), fun e => K2.out (hne.out 2 (by decide) e), fun e => K3.out (hne.out 3 (by decide) e), fun e => K4.out (hne.out 4 (by decide) e), fun e => K5.out (hne.out 5 (by decide) e), fun e => K6.out (hne.out 6 (by decide) e), fun e => K7.out (hne.out 7 (by decide) e), fun e => K8.out (hne.out 8 (by decide) e), fun e => (by obtain ⟨y1, y2⟩ := K9.out (hne.out 9 (by decide) e); exact ⟨y1, listed_up y2⟩), fun e => K10.out (hne.out 10 (by decide) e), fun e => K11.out (hne.out 11 (by decide) e), fun e => K12.out (hne.out 12 (by decide) e), fun e => K13.out (hne.out 13 (by decide) e), fun e => K14.out (hne.out 14 (by decide) e), fun e => K15.out (hne.out 15 (by decide) e), fun e => K16.out (hne.out 16 (by decide) e), fun e => (by obtain ⟨y1, y2⟩ := K17.out (hne.out 17 (by decide) e); exact ⟨y1, listed_up y2⟩), fun e => (by obtain ⟨y1, y2, y3, y4, y5, y6, y7, y8⟩ := K18.out (hne.out 18 (by decide) e); exact ⟨y1, y2, y3, y4, y5, y6, listed_up y7, listed_up y8⟩), fun e => K19.out (hne.out 19 (by decide) e), fun e => hB (listed_no (by decide) e)⟩
          · cases ho
            refine wpOp_step rfl (fun K hK => ?_)
            go_simp
            refine hK _ _ ⟨by simpa using hz, v53, .pointer (some ⟨G, 0, none⟩), v55, v56, v57, v58, v59, v60, v61, v62, v63, v64, v65, v66, v67, v68, v69, v70, v71, v72, rfl, ?_⟩
            exact ⟨fun e => K0.out (hne.out 0 (by decide) e), fun _ => rfl, fun e => K2.out (hne.out 2 (by decide) e), fun e => K3.out (hne.out 3 (by decide) e), fun e => K4.out (hne.out 4 (by decide) e), fun e => K5.out (hne.out 5 (by decide) e), fun e => K6.out (hne.out 6 (by decide) e), fun e => K7.out (hne.out 7 (by decide) e), fun e => K8.out (hne.out 8 (by decide) e), fun e => (by obtain ⟨y1, y2⟩ := K9.out (hne.out 9 (by decide) e); exact ⟨y1, listed_up y2⟩), fun e => K10.out (hne.out 10 (by decide) e), fun e => K11.out (hne.out 11 (by decide) e), fun e => K12.out (hne.out 12 (by decide) e), fun e => K13.out (hne.out 13 (by decide) e), fun e => K14.out (hne.out 14 (by decide) e), fun e => K15.out (hne.out 15 (by decide) e), fun e => K16.out (hne.out 16 (by decide) e), fun e => (by obtain ⟨y1, y2⟩ := K17.out (hne.out 17 (by decide) e); exact ⟨y1, listed_up y2⟩), fun e => (by obtain ⟨y1, y2, y3, y4, y5, y6, y7, y8⟩ := K18.out (hne.out 18 (by decide) e); exact ⟨y1, y2, y3, y4, y5, y6, listed_up y7, listed_up y8⟩), fun e => K19.out (hne.out 19 (by decide) e), fun e => hB (listed_no (by decide) e)⟩
          · cases ho
            refine wpOp_step rfl (fun K hK => ?_)
            go_simp
            refine hK _ _ ⟨by simpa using hz, v53, v54, .pointer (some ⟨G, 0, none⟩), v56, v57, v58, v59, v60, v61, v62, v63, v64, v65, v66, v67, v68, v69, v70, v71, v72, rfl, ?_⟩
            exact ⟨fun e => K0.out (hne.out 0 (by decide) e), fun e => K1.out (hne.out 1 (by decide) e), fun _ => rfl, fun e => K3.out (hne.out 3 (by decide) e), fun e => K4.out (hne.out 4 (by decide) e), fun e => K5.out (hne.out 5 (by decide) e), fun e => K6.out (hne.out 6 (by decide) e), fun e => K7.out (hne.out 7 (by decide) e), fun e => K8.out (hne.out 8 (by decide) e), fun e => (by obtain ⟨y1, y2⟩ := K9.out (hne.out 9 (by decide) e); exact ⟨y1, listed_up y2⟩), fun e => K10.out (hne.out 10 (by decide) e), fun e => K11.out (hne.out 11 (by decide) e), fun e => K12.out (hne.out 12 (by decide) e), fun e => K13.out (hne.out 13 (by decide) e), fun e => K14.out (hne.out 14 (by decide) e), fun e => K15.out (hne.out 15 (by decide) e), fun e => K16.out (hne.out 16 (by decide) e), fun e => (by obtain ⟨y1, y2⟩ := K17.out (hne.out 17 (by decide) e); exact ⟨y1, listed_up y2⟩), fun e => (by obtain ⟨y1, y2, y3, y4, y5, y6, y7, y8⟩ := K18.out (hne.out 18 (by decide) e); exact ⟨y1, y2, y3, y4, y5, y6, listed_up y7, listed_up y8⟩), fun e => K19.out (hne.out 19 (by decide) e), fun e => hB (listed_no (by decide) e)⟩
          · cases ho
            have d2 := hd ⟨2, .data⟩ (by simp) rfl
            obtain rfl := K2.out d2
            refine wpOp_step rfl (fun K hK => ?_)
            go_simp
            refine hK _ _ ⟨by simpa using hz, v53, v54, .pointer (some ⟨G, 0, none⟩), .pointer (some ⟨G, 0, none⟩), v57, v58, v59, v60, v61, v62, v63, v64, v65, v66, v67, v68, v69, v70, v71, v72, rfl, ?_⟩
            exact ⟨fun e => K0.out (hne.out 0 (by decide) e), fun e => K1.out (hne.out 1 (by decide) e), fun e => K2.out (hne.out 2 (by decide) e), fun _ => rfl, fun e => K4.out (hne.out 4 (by decide) e), fun e => K5.out (hne.out 5 (by decide) e), fun e => K6.out (hne.out 6 (by decide) e), fun e => K7.out (hne.out 7 (by decide) e), fun e => K8.out (hne.out 8 (by decide) e), fun e => (by obtain ⟨y1, y2⟩ := K9.out (hne.out 9 (by decide) e); exact ⟨y1, listed_up y2⟩), fun e => K10.out (hne.out 10 (by decide) e), fun e => K11.out (hne.out 11 (by decide) e), fun e => K12.out (hne.out 12 (by decide) e), fun e => K13.out (hne.out 13 (by decide) e), fun e => K14.out (hne.out 14 (by decide) e), fun e => K15.out (hne.out 15 (by decide) e), fun e => K16.out (hne.out 16 (by decide) e), fun e => (by obtain ⟨y1, y2⟩ := K17.out (hne.out 17 (by decide) e); exact ⟨y1, listed_up y2⟩), fun e => (by obtain ⟨y1, y2, y3, y4, y5, y6, y7, y8⟩ := K18.out (hne.out 18 (by decide) e); exact ⟨y1, y2, y3, y4, y5, y6, listed_up y7, listed_up y8⟩), fun e => K19.out (hne.out 19 (by decide) e), fun e => hB (listed_no (by decide) e)⟩
          · cases ho
            have d3 := hd ⟨3, .data⟩ (by simp) rfl
            obtain rfl := K3.out d3
            refine wpOp_step rfl (fun K hK => ?_)
            go_simp
            refine hK _ _ ⟨by simpa using hz, v53, v54, v55, .pointer (some ⟨G, 0, none⟩), .pointer (some ⟨G, 0, none⟩), v58, v59, v60, v61, v62, v63, v64, v65, v66, v67, v68, v69, v70, v71, v72, rfl, ?_⟩
            exact ⟨fun e => K0.out (hne.out 0 (by decide) e), fun e => K1.out (hne.out 1 (by decide) e), fun e => K2.out (hne.out 2 (by decide) e), fun e => K3.out (hne.out 3 (by decide) e), fun _ => rfl, fun e => K5.out (hne.out 5 (by decide) e), fun e => K6.out (hne.out 6 (by decide) e), fun e => K7.out (hne.out 7 (by decide) e), fun e => K8.out (hne.out 8 (by decide) e), fun e => (by obtain ⟨y1, y2⟩ := K9.out (hne.out 9 (by decide) e); exact ⟨y1, listed_up y2⟩), fun e => K10.out (hne.out 10 (by decide) e), fun e => K11.out (hne.out 11 (by decide) e), fun e => K12.out (hne.out 12 (by decide) e), fun e => K13.out (hne.out 13 (by decide) e), fun e => K14.out (hne.out 14 (by decide) e), fun e => K15.out (hne.out 15 (by decide) e), fun e => K16.out (hne.out 16 (by decide) e), fun e => (by obtain ⟨y1, y2⟩ := K17.out (hne.out 17 (by decide) e); exact ⟨y1, listed_up y2⟩), fun e => (by obtain ⟨y1, y2, y3, y4, y5, y6, y7, y8⟩ := K18.out (hne.out 18 (by decide) e); exact ⟨y1, y2, y3, y4, y5, y6, listed_up y7, listed_up y8⟩), fun e => K19.out (hne.out 19 (by decide) e), fun e => hB (listed_no (by decide) e)⟩
          · cases ho
            have d4 := hd ⟨4, .data⟩ (by simp) rfl
            obtain rfl := K4.out d4
            have h18 : listed.getD 18 false = false := by
              cases hq : listed.getD 18 false
              · rfl
              · obtain ⟨_, _, _, _, _, _, q9, q17⟩ := K18.out hq
                have := (K9.out q9).2
                rw [h0f] at this
                cases this
            have hbx := hB h18
            obtain ⟨_, e0, e1⟩ := hOk2.out wx hbx
            refine wpOp_step rfl (fun K hK => ?_)
            go_simp
            refine hK _ _ ⟨by simpa using hz, v53, v54, v55, v56, .pointer (some ⟨G, 0, none⟩), .slice (some ⟨g1, o1, none⟩) n c1, v59, v60, v61, v62, v63, v64, v65, v66, v67, v68, v69, v70, v71, v72, rfl, ?_⟩
            exact ⟨fun e => K0.out (hne.out 0 (by decide) e), fun e => K1.out (hne.out 1 (by decide) e), fun e => K2.out (hne.out 2 (by decide) e), fun e => K3.out (hne.out 3 (by decide) e), fun e => K4.out (hne.out 4 (by decide) e), fun _ => rfl, fun e => K6.out (hne.out 6 (by decide) e), fun e => K7.out (hne.out 7 (by decide) e), fun e => K8.out (hne.out 8 (by decide) e), fun e => (by obtain ⟨y1, y2⟩ := K9.out (hne.out 9 (by decide) e); exact ⟨y1, listed_up y2⟩), fun e => K10.out (hne.out 10 (by decide) e), fun e => K11.out (hne.out 11 (by decide) e), fun e => K12.out (hne.out 12 (by decide) e), fun e => K13.out (hne.out 13 (by decide) e), fun e => K14.out (hne.out 14 (by decide) e), fun e => K15.out (hne.out 15 (by decide) e), fun e => K16.out (hne.out 16 (by decide) e), fun e => (by obtain ⟨y1, y2⟩ := K17.out (hne.out 17 (by decide) e); exact ⟨y1, listed_up y2⟩), fun e => (by obtain ⟨y1, y2, y3, y4, y5, y6, y7, y8⟩ := K18.out (hne.out 18 (by decide) e); exact ⟨y1, y2, y3, y4, y5, y6, listed_up y7, listed_up y8⟩), fun e => K19.out (hne.out 19 (by decide) e), fun e => hB (listed_no (by decide) e)⟩
          · cases ho
            refine wpOp_step rfl (fun K hK => ?_)
            go_simp
            refine hK _ _ ⟨by simpa using hz, v53, v54, v55, v56, v57, v58, .int .i64 ↑i, v60, v61, v62, v63, v64, v65, v66, v67, v68, v69, v70, v71, v72, rfl, ?_⟩
            exact ⟨fun e => K0.out (hne.out 0 (by decide) e), fun e => K1.out (hne.out 1 (by decide) e), fun e => K2.out (hne.out 2 (by decide) e), fun e => K3.out (hne.out 3 (by decide) e), fun e => K4.out (hne.out 4 (by decide) e), fun e => K5.out (hne.out 5 (by decide) e), fun _ => rfl, fun e => K7.out (hne.out 7 (by decide) e), fun e => K8.out (hne.out 8 (by decide) e), fun e => (by obtain ⟨y1, y2⟩ := K9.out (hne.out 9 (by decide) e); exact ⟨y1, listed_up y2⟩), fun e => K10.out (hne.out 10 (by decide) e), fun e => K11.out (hne.out 11 (by decide) e), fun e => K12.out (hne.out 12 (by decide) e), fun e => K13.out (hne.out 13 (by decide) e), fun e => K14.out (hne.out 14 (by decide) e), fun e => K15.out (hne.out 15 (by decide) e), fun e => K16.out (hne.out 16 (by decide) e), fun e => (by obtain ⟨y1, y2⟩ := K17.out (hne.out 17 (by decide) e); exact ⟨y1, listed_up y2⟩), fun e => (by obtain ⟨y1, y2, y3, y4, y5, y6, y7, y8⟩ := K18.out (hne.out 18 (by decide) e); exact ⟨y1, y2, y3, y4, y5, y6, listed_up y7, listed_up y8⟩), fun e => K19.out (hne.out 19 (by decide) e), fun e => hB (listed_no (by decide) e)⟩
          · cases ho
            refine wpOp_step rfl (fun K hK => ?_)
            go_simp
            refine hK _ _ ⟨by simpa using hz, v53, v54, v55, v56, v57, v58, v59, .int .i64 ↑u, v61, v62, v63, v64, v65, v66, v67, v68, v69, v70, v71, v72, rfl, ?_⟩
            exact ⟨fun e => K0.out (hne.out 0 (by decide) e), fun e => K1.out (hne.out 1 (by decide) e), fun e => K2.out (hne.out 2 (by decide) e), fun e => K3.out (hne.out 3 (by decide) e), fun e => K4.out (hne.out 4 (by decide) e), fun e => K5.out (hne.out 5 (by decide) e), fun e => K6.out (hne.out 6 (by decide) e), fun _ => rfl, fun e => K8.out (hne.out 8 (by decide) e), fun e => (by obtain ⟨y1, y2⟩ := K9.out (hne.out 9 (by decide) e); exact ⟨y1, listed_up y2⟩), fun e => K10.out (hne.out 10 (by decide) e), fun e => K11.out (hne.out 11 (by decide) e), fun e => K12.out (hne.out 12 (by decide) e), fun e => K13.out (hne.out 13 (by decide) e), fun e => K14.out (hne.out 14 (by decide) e), fun e => K15.out (hne.out 15 (by decide) e), fun e => K16.out (hne.out 16 (by decide) e), fun e => (by obtain ⟨y1, y2⟩ := K17.out (hne.out 17 (by decide) e); exact ⟨y1, listed_up y2⟩), fun e => (by obtain ⟨y1, y2, y3, y4, y5, y6, y7, y8⟩ := K18.out (hne.out 18 (by decide) e); exact ⟨y1, y2, y3, y4, y5, y6, listed_up y7, listed_up y8⟩), fun e => K19.out (hne.out 19 (by decide) e), fun e => hB (listed_no (by decide) e)⟩
          · cases ho
            refine wpOp_step rfl (fun K hK => ?_)
            go_simp
            refine hK _ _ ⟨by simpa using hz, v53, v54, v55, v56, v57, v58, v59, v60, .int .i64 0, v62, v63, v64, v65, v66, v67, v68, v69, v70, v71, v72, rfl, ?_⟩
            exact ⟨fun e => K0.out (hne.out 0 (by decide) e), fun e => K1.out (hne.out 1 (by decide) e), fun e => K2.out (hne.out 2 (by decide) e), fun e => K3.out (hne.out 3 (by decide) e), fun e => K4.out (hne.out 4 (by decide) e), fun e => K5.out (hne.out 5 (by decide) e), fun e => K6.out (hne.out 6 (by decide) e), fun e => K7.out (hne.out 7 (by decide) e), fun _ => rfl, fun e => (by obtain ⟨y1, y2⟩ := K9.out (hne.out 9 (by decide) e); exact ⟨y1, listed_up y2⟩), fun e => K10.out (hne.out 10 (by decide) e), fun e => K11.out (hne.out 11 (by decide) e), fun e => K12.out (hne.out 12 (by decide) e), fun e => K13.out (hne.out 13 (by decide) e), fun e => K14.out (hne.out 14 (by decide) e), fun e => K15.out (hne.out 15 (by decide) e), fun e => K16.out (hne.out 16 (by decide) e), fun e => (by obtain ⟨y1, y2⟩ := K17.out (hne.out 17 (by decide) e); exact ⟨y1, listed_up y2⟩), fun e => (by obtain ⟨y1, y2, y3, y4, y5, y6, y7, y8⟩ := K18.out (hne.out 18 (by decide) e); exact ⟨y1, y2, y3, y4, y5, y6, listed_up y7, listed_up y8⟩), fun e => K19.out (hne.out 19 (by decide) e), fun e => hB (listed_no (by decide) e)⟩
          · cases ho
            have d5 := hd ⟨5, .data⟩ (by simp) rfl
            have d6 := hd ⟨6, .data⟩ (by simp) rfl
            have d7 := hd ⟨7, .data⟩ (by simp) rfl
            have d8 := hd ⟨8, .data⟩ (by simp) rfl
            obtain rfl := K5.out d5
            obtain rfl := K6.out d6
            obtain rfl := K7.out d7
            obtain rfl := K8.out d8
            have h18 : listed.getD 18 false = false := by
              cases hq : listed.getD 18 false
              · rfl
              · obtain ⟨_, _, _, _, _, _, q9, q17⟩ := K18.out hq
                rw [h0f] at q9
                cases q9
            have hbx := hB h18
            refine wpOp_step rfl (fun K hK => ?_)
            go_simp
            go_at_call 168
            refine (cAx.out wx hbx).mono ?_
            rintro ee w3 ⟨rfl, rfl⟩
            refine hK _ _ ⟨by simpa using hz, v53, v54, v55, v56, v57, .slice (some ⟨g1, o1, none⟩) n c1, .int .i64 ↑i, .int .i64 ↑u, .int .i64 0, .int .i64 (k1 : Nat), v63, v64, v65, v66, v67, v68, v69, v70, v71, v72, rfl, ?_⟩
            exact ⟨fun e => K0.out (hne.out 0 (by decide) e), fun e => K1.out (hne.out 1 (by decide) e), fun e => K2.out (hne.out 2 (by decide) e), fun e => K3.out (hne.out 3 (by decide) e), fun e => K4.out (hne.out 4 (by decide) e), fun e => K5.out (hne.out 5 (by decide) e), fun e => K6.out (hne.out 6 (by decide) e), fun e => K7.out (hne.out 7 (by decide) e), fun e => K8.out (hne.out 8 (by decide) e), fun _ => ⟨rfl, listed_up d5⟩, fun e => K10.out (hne.out 10 (by decide) e), fun e => K11.out (hne.out 11 (by decide) e), fun e => K12.out (hne.out 12 (by decide) e), fun e => K13.out (hne.out 13 (by decide) e), fun e => K14.out (hne.out 14 (by decide) e), fun e => K15.out (hne.out 15 (by decide) e), fun e => K16.out (hne.out 16 (by decide) e), fun e => (by obtain ⟨y1, y2⟩ := K17.out (hne.out 17 (by decide) e); exact ⟨y1, listed_up y2⟩), fun e => (by obtain ⟨y1, y2, y3, y4, y5, y6, y7, y8⟩ := K18.out (hne.out 18 (by decide) e); exact ⟨y1, y2, y3, y4, y5, y6, listed_up y7, listed_up y8⟩), fun e => K19.out (hne.out 19 (by decide) e), fun e => hB (listed_no (by decide) e)⟩
          · cases ho
            refine wpOp_step rfl (fun K hK => ?_)
            go_simp
            refine hK _ _ ⟨by simpa using hz, v53, v54, v55, v56, v57, v58, v59, v60, v61, v62, .pointer (some ⟨G, 0, none⟩), v64, v65, v66, v67, v68, v69, v70, v71, v72, rfl, ?_⟩
            exact ⟨fun e => K0.out (hne.out 0 (by decide) e), fun e => K1.out (hne.out 1 (by decide) e), fun e => K2.out (hne.out 2 (by decide) e), fun e => K3.out (hne.out 3 (by decide) e), fun e => K4.out (hne.out 4 (by decide) e), fun e => K5.out (hne.out 5 (by decide) e), fun e => K6.out (hne.out 6 (by decide) e), fun e => K7.out (hne.out 7 (by decide) e), fun e => K8.out (hne.out 8 (by decide) e), fun e => (by obtain ⟨y1, y2⟩ := K9.out (hne.out 9 (by decide) e); exact ⟨y1, listed_up y2⟩), fun _ => rfl, fun e => K11.out (hne.out 11 (by decide) e), fun e => K12.out (hne.out 12 (by decide) e), fun e => K13.out (hne.out 13 (by decide) e), fun e => K14.out (hne.out 14 (by decide) e), fun e => K15.out (hne.out 15 (by decide) e), fun e => K16.out (hne.out 16 (by decide) e), fun e => (by obtain ⟨y1, y2⟩ := K17.out (hne.out 17 (by decide) e); exact ⟨y1, listed_up y2⟩), fun e => (by obtain ⟨y1, y2, y3, y4, y5, y6, y7, y8⟩ := K18.out (hne.out 18 (by decide) e); exact ⟨y1, y2, y3, y4, y5, y6, listed_up y7, listed_up y8⟩), fun e => K19.out (hne.out 19 (by decide) e), fun e => hB (listed_no (by decide) e)⟩
          · cases ho
            have d10 := hd ⟨10, .data⟩ (by simp) rfl
            obtain rfl := K10.out d10
            refine wpOp_step rfl (fun K hK => ?_)
            go_simp
            refine hK _ _ ⟨by simpa using hz, v53, v54, v55, v56, v57, v58, v59, v60, v61, v62, .pointer (some ⟨G, 0, none⟩), .pointer (some ⟨G, 0, none⟩), v65, v66, v67, v68, v69, v70, v71, v72, rfl, ?_⟩
            exact ⟨fun e => K0.out (hne.out 0 (by decide) e), fun e => K1.out (hne.out 1 (by decide) e), fun e => K2.out (hne.out 2 (by decide) e), fun e => K3.out (hne.out 3 (by decide) e), fun e => K4.out (hne.out 4 (by decide) e), fun e => K5.out (hne.out 5 (by decide) e), fun e => K6.out (hne.out 6 (by decide) e), fun e => K7.out (hne.out 7 (by decide) e), fun e => K8.out (hne.out 8 (by decide) e), fun e => (by obtain ⟨y1, y2⟩ := K9.out (hne.out 9 (by decide) e); exact ⟨y1, listed_up y2⟩), fun e => K10.out (hne.out 10 (by decide) e), fun _ => rfl, fun e => K12.out (hne.out 12 (by decide) e), fun e => K13.out (hne.out 13 (by decide) e), fun e => K14.out (hne.out 14 (by decide) e), fun e => K15.out (hne.out 15 (by decide) e), fun e => K16.out (hne.out 16 (by decide) e), fun e => (by obtain ⟨y1, y2⟩ := K17.out (hne.out 17 (by decide) e); exact ⟨y1, listed_up y2⟩), fun e => (by obtain ⟨y1, y2, y3, y4, y5, y6, y7, y8⟩ := K18.out (hne.out 18 (by decide) e); exact ⟨y1, y2, y3, y4, y5, y6, listed_up y7, listed_up y8⟩), fun e => K19.out (hne.out 19 (by decide) e), fun e => hB (listed_no (by decide) e)⟩
          · cases ho
            have d11 := hd ⟨11, .data⟩ (by simp) rfl
            obtain rfl := K11.out d11
            refine wpOp_step rfl (fun K hK => ?_)
            go_simp
            refine hK _ _ ⟨by simpa using hz, v53, v54, v55, v56, v57, v58, v59, v60, v61, v62, v63, .pointer (some ⟨G, 0, none⟩), .pointer (some ⟨G, 1, none⟩), v66, v67, v68, v69, v70, v71, v72, rfl, ?_⟩
            exact ⟨fun e => K0.out (hne.out 0 (by decide) e), fun e => K1.out (hne.out 1 (by decide) e), fun e => K2.out (hne.out 2 (by decide) e), fun e => K3.out (hne.out 3 (by decide) e), fun e => K4.out (hne.out 4 (by decide) e), fun e => K5.out (hne.out 5 (by decide) e), fun e => K6.out (hne.out 6 (by decide) e), fun e => K7.out (hne.out 7 (by decide) e), fun e => K8.out (hne.out 8 (by decide) e), fun e => (by obtain ⟨y1, y2⟩ := K9.out (hne.out 9 (by decide) e); exact ⟨y1, listed_up y2⟩), fun e => K10.out (hne.out 10 (by decide) e), fun e => K11.out (hne.out 11 (by decide) e), fun _ => rfl, fun e => K13.out (hne.out 13 (by decide) e), fun e => K14.out (hne.out 14 (by decide) e), fun e => K15.out (hne.out 15 (by decide) e), fun e => K16.out (hne.out 16 (by decide) e), fun e => (by obtain ⟨y1, y2⟩ := K17.out (hne.out 17 (by decide) e); exact ⟨y1, listed_up y2⟩), fun e => (by obtain ⟨y1, y2, y3, y4, y5, y6, y7, y8⟩ := K18.out (hne.out 18 (by decide) e); exact ⟨y1, y2, y3, y4, y5, y6, listed_up y7, listed_up y8⟩), fun e => K19.out (hne.out 19 (by decide) e), fun e => hB (listed_no (by decide) e)⟩
          · cases ho
            have d12 := hd ⟨12, .data⟩ (by simp) rfl
            obtain rfl := K12.out d12
            have h18 : listed.getD 18 false = false := by
              cases hq : listed.getD 18 false
              · rfl
              · obtain ⟨_, _, _, _, _, _, q9, q17⟩ := K18.out hq
                have := (K17.out q17).2
                rw [h0f] at this
                cases this
            have hbx := hB h18
            obtain ⟨_, e0, e1⟩ := hOk2.out wx hbx
            refine wpOp_step rfl (fun K hK => ?_)
            go_simp
            refine hK _ _ ⟨by simpa using hz, v53, v54, v55, v56, v57, v58, v59, v60, v61, v62, v63, v64, .pointer (some ⟨G, 1, none⟩), .slice (some ⟨g2, o2, none⟩) m c2, v67, v68, v69, v70, v71, v72, rfl, ?_⟩
            exact ⟨fun e => K0.out (hne.out 0 (by decide) e), fun e => K1.out (hne.out 1 (by decide) e), fun e => K2.out (hne.out 2 (by decide) e), fun e => K3.out (hne.out 3 (by decide) e), fun e => K4.out (hne.out 4 (by decide) e), fun e => K5.out (hne.out 5 (by decide) e), fun e => K6.out (hne.out 6 (by decide) e), fun e => K7.out (hne.out 7 (by decide) e), fun e => K8.out (hne.out 8 (by decide) e), fun e => (by obtain ⟨y1, y2⟩ := K9.out (hne.out 9 (by decide) e); exact ⟨y1, listed_up y2⟩), fun e => K10.out (hne.out 10 (by decide) e), fun e => K11.out (hne.out 11 (by decide) e), fun e => K12.out (hne.out 12 (by decide) e), fun _ => rfl, fun e => K14.out (hne.out 14 (by decide) e), fun e => K15.out (hne.out 15 (by decide) e), fun e => K16.out (hne.out 16 (by decide) e), fun e => (by obtain ⟨y1, y2⟩ := K17.out (hne.out 17 (by decide) e); exact ⟨y1, listed_up y2⟩), fun e => (by obtain ⟨y1, y2, y3, y4, y5, y6, y7, y8⟩ := K18.out (hne.out 18 (by decide) e); exact ⟨y1, y2, y3, y4, y5, y6, listed_up y7, listed_up y8⟩), fun e => K19.out (hne.out 19 (by decide) e), fun e => hB (listed_no (by decide) e)⟩
          · cases ho
            refine wpOp_step rfl (fun K hK => ?_)
            go_simp
            refine hK _ _ ⟨by simpa using hz, v53, v54, v55, v56, v57, v58, v59, v60, v61, v62, v63, v64, v65, v66, .int .i64 ↑j, v68, v69, v70, v71, v72, rfl, ?_⟩
            exact ⟨fun e => K0.out (hne.out 0 (by decide) e), fun e => K1.out (hne.out 1 (by decide) e), fun e => K2.out (hne.out 2 (by decide) e), fun e => K3.out (hne.out 3 (by decide) e), fun e => K4.out (hne.out 4 (by decide) e), fun e => K5.out (hne.out 5 (by decide) e), fun e => K6.out (hne.out 6 (by decide) e), fun e => K7.out (hne.out 7 (by decide) e), fun e => K8.out (hne.out 8 (by decide) e), fun e => (by obtain ⟨y1, y2⟩ := K9.out (hne.out 9 (by decide) e); exact ⟨y1, listed_up y2⟩), fun e => K10.out (hne.out 10 (by decide) e), fun e => K11.out (hne.out 11 (by decide) e), fun e => K12.out (hne.out 12 (by decide) e), fun e => K13.out (hne.out 13 (by decide) e), fun _ => rfl, fun e => K15.out (hne.out 15 (by decide) e), fun e => K16.out (hne.out 16 (by decide) e), fun e => (by obtain ⟨y1, y2⟩ := K17.out (hne.out 17 (by decide) e); exact ⟨y1, listed_up y2⟩), fun e => (by obtain ⟨y1, y2, y3, y4, y5, y6, y7, y8⟩ := K18.out (hne.out 18 (by decide) e); exact ⟨y1, y2, y3, y4, y5, y6, listed_up y7, listed_up y8⟩), fun e => K19.out (hne.out 19 (by decide) e), fun e => hB (listed_no (by decide) e)⟩
          · cases ho
            refine wpOp_step rfl (fun K hK => ?_)
            go_simp
            refine hK _ _ ⟨by simpa using hz, v53, v54, v55, v56, v57, v58, v59, v60, v61, v62, v63, v64, v65, v66, v67, .int .i64 ↑u, v69, v70, v71, v72, rfl, ?_⟩
            exact ⟨fun e => K0.out (hne.out 0 (by decide) e), fun e => K1.out (hne.out 1 (by decide) e), fun e => K2.out (hne.out 2 (by decide) e), fun e => K3.out (hne.out 3 (by decide) e), fun e => K4.out (hne.out 4 (by decide) e), fun e => K5.out (hne.out 5 (by decide) e), fun e => K6.out (hne.out 6 (by decide) e), fun e => K7.out (hne.out 7 (by decide) e), fun e => K8.out (hne.out 8 (by decide) e), fun e => (by obtain ⟨y1, y2⟩ := K9.out (hne.out 9 (by decide) e); exact ⟨y1, listed_up y2⟩), fun e => K10.out (hne.out 10 (by decide) e), fun e => K11.out (hne.out 11 (by decide) e), fun e => K12.out (hne.out 12 (by decide) e), fun e => K13.out (hne.out 13 (by decide) e), fun e => K14.out (hne.out 14 (by decide) e), fun _ => rfl, fun e => K16.out (hne.out 16 (by decide) e), fun e => (by obtain ⟨y1, y2⟩ := K17.out (hne.out 17 (by decide) e); exact ⟨y1, listed_up y2⟩), fun e => (by obtain ⟨y1, y2, y3, y4, y5, y6, y7, y8⟩ := K18.out (hne.out 18 (by decide) e); exact ⟨y1, y2, y3, y4, y5, y6, listed_up y7, listed_up y8⟩), fun e => K19.out (hne.out 19 (by decide) e), fun e => hB (listed_no (by decide) e)⟩
          · cases ho
            refine wpOp_step rfl (fun K hK => ?_)
            go_simp
            refine hK _ _ ⟨by simpa using hz, v53, v54, v55, v56, v57, v58, v59, v60, v61, v62, v63, v64, v65, v66, v67, v68, .int .i64 0, v70, v71, v72, rfl, ?_⟩
            exact ⟨fun e => K0.out (hne.out 0 (by decide) e), fun e => K1.out (hne.out 1 (by decide) e), fun e => K2.out (hne.out 2 (by decide) e), fun e => K3.out (hne.out 3 (by decide) e), fun e => K4.out (hne.out 4 (by decide) e), fun e => K5.out (hne.out 5 (by decide) e), fun e => K6.out (hne.out 6 (by decide) e), fun e => K7.out (hne.out 7 (by decide) e), fun e => K8.out (hne.out 8 (by decide) e), fun e => (by obtain ⟨y1, y2⟩ := K9.out (hne.out 9 (by decide) e); exact ⟨y1, listed_up y2⟩), fun e => K10.out (hne.out 10 (by decide) e), fun e => K11.out (hne.out 11 (by decide) e), fun e => K12.out (hne.out 12 (by decide) e), fun e => K13.out (hne.out 13 (by decide) e), fun e => K14.out (hne.out 14 (by decide) e), fun e => K15.out (hne.out 15 (by decide) e), fun _ => rfl, fun e => (by obtain ⟨y1, y2⟩ := K17.out (hne.out 17 (by decide) e); exact ⟨y1, listed_up y2⟩), fun e => (by obtain ⟨y1, y2, y3, y4, y5, y6, y7, y8⟩ := K18.out (hne.out 18 (by decide) e); exact ⟨y1, y2, y3, y4, y5, y6, listed_up y7, listed_up y8⟩), fun e => K19.out (hne.out 19 (by decide) e), fun e => hB (listed_no (by decide) e)⟩
          · cases ho
            have d13 := hd ⟨13, .data⟩ (by simp) rfl
            have d14 := hd ⟨14, .data⟩ (by simp) rfl
            have d15 := hd ⟨15, .data⟩ (by simp) rfl
            have d16 := hd ⟨16, .data⟩ (by simp) rfl
            obtain rfl := K13.out d13
            obtain rfl := K14.out d14
            obtain rfl := K15.out d15
            obtain rfl := K16.out d16
            have h18 : listed.getD 18 false = false := by
              cases hq : listed.getD 18 false
              · rfl
              · obtain ⟨_, _, _, _, _, _, q9, q17⟩ := K18.out hq
                rw [h0f] at q17
                cases q17
            have hbx := hB h18
            refine wpOp_step rfl (fun K hK => ?_)
            go_simp
            go_at_call 168
            refine (cBx.out wx hbx).mono ?_
            rintro ee w3 ⟨rfl, rfl⟩
            refine hK _ _ ⟨by simpa using hz, v53, v54, v55, v56, v57, v58, v59, v60, v61, v62, v63, v64, v65, .slice (some ⟨g2, o2, none⟩) m c2, .int .i64 ↑j, .int .i64 ↑u, .int .i64 0, .int .i64 (k2 : Nat), v71, v72, rfl, ?_⟩
            exact ⟨fun e => K0.out (hne.out 0 (by decide) e), fun e => K1.out (hne.out 1 (by decide) e), fun e => K2.out (hne.out 2 (by decide) e), fun e => K3.out (hne.out 3 (by decide) e), fun e => K4.out (hne.out 4 (by decide) e), fun e => K5.out (hne.out 5 (by decide) e), fun e => K6.out (hne.out 6 (by decide) e), fun e => K7.out (hne.out 7 (by decide) e), fun e => K8.out (hne.out 8 (by decide) e), fun e => (by obtain ⟨y1, y2⟩ := K9.out (hne.out 9 (by decide) e); exact ⟨y1, listed_up y2⟩), fun e => K10.out (hne.out 10 (by decide) e), fun e => K11.out (hne.out 11 (by decide) e), fun e => K12.out (hne.out 12 (by decide) e), fun e => K13.out (hne.out 13 (by decide) e), fun e => K14.out (hne.out 14 (by decide) e), fun e => K15.out (hne.out 15 (by decide) e), fun e => K16.out (hne.out 16 (by decide) e), fun _ => ⟨rfl, listed_up d13⟩, fun e => (by obtain ⟨y1, y2, y3, y4, y5, y6, y7, y8⟩ := K18.out (hne.out 18 (by decide) e); exact ⟨y1, y2, y3, y4, y5, y6, listed_up y7, listed_up y8⟩), fun e => K19.out (hne.out 19 (by decide) e), fun e => hB (listed_no (by decide) e)⟩
          · cases ho
            have d1 := hd ⟨1, .data⟩ (by simp) rfl
            have d9 := hd ⟨9, .data⟩ (by simp) rfl
            have d17 := hd ⟨17, .data⟩ (by simp) rfl
            obtain rfl := K1.out d1
            obtain ⟨rfl, _⟩ := K9.out d9
            obtain ⟨rfl, _⟩ := K17.out d17
            have hbx := hB h0f
            have hPx := hPk.out.below hL hbx
            refine wpOp_step rfl (fun K hK => ?_)
            go_simp
            go_at_call 82
            refine (cP0.out _ _ _ _ hPx).mono ?_
            rintro ee w3 ⟨vn, sln, kvn, rfl, hWn0, hFn0⟩
            have hFn := (Pf.of_below hbx G Kb vk).trans hFn0
            refine hK _ _ ⟨by simpa using hz, v53, .pointer (some ⟨G, 0, none⟩), v55, v56, v57, v58, v59, v60, v61, .int .i64 (k1 : Nat), v63, v64, v65, v66, v67, v68, v69, .int .i64 (k2 : Nat), .int .i64 (P.2 : Nat), v72, rfl, ?_⟩
            exact ⟨fun e => K0.out (hne.out 0 (by decide) e), fun e => K1.out (hne.out 1 (by decide) e), fun e => K2.out (hne.out 2 (by decide) e), fun e => K3.out (hne.out 3 (by decide) e), fun e => K4.out (hne.out 4 (by decide) e), fun e => K5.out (hne.out 5 (by decide) e), fun e => K6.out (hne.out 6 (by decide) e), fun e => K7.out (hne.out 7 (by decide) e), fun e => K8.out (hne.out 8 (by decide) e), fun e => (by obtain ⟨y1, y2⟩ := K9.out (hne.out 9 (by decide) e); exact ⟨y1, listed_up y2⟩), fun e => K10.out (hne.out 10 (by decide) e), fun e => K11.out (hne.out 11 (by decide) e), fun e => K12.out (hne.out 12 (by decide) e), fun e => K13.out (hne.out 13 (by decide) e), fun e => K14.out (hne.out 14 (by decide) e), fun e => K15.out (hne.out 15 (by decide) e), fun e => K16.out (hne.out 16 (by decide) e), fun e => (by obtain ⟨y1, y2⟩ := K17.out (hne.out 17 (by decide) e); exact ⟨y1, listed_up y2⟩), fun _ => ⟨_, _, _, rfl, hWn0, hFn, listed_up d9, listed_up d17⟩, fun e => K19.out (hne.out 19 (by decide) e), fun e => absurd e (by rw [listed_at (by rw [hz]; decide)]; decide)⟩
          · cases ho
            have d0 := hd ⟨0, .data⟩ (by simp) rfl
            obtain rfl := K0.out d0
            refine wpOp_step rfl (fun K hK => ?_)
            go_simp
            refine hK _ _ ⟨by simpa using hz, .int .i64 0, v54, v55, v56, v57, v58, v59, v60, v61, v62, v63, v64, v65, v66, v67, v68, v69, v70, v71, .pointer (some ⟨kb, 0, none⟩), rfl, ?_⟩
            exact ⟨fun e => K0.out (hne.out 0 (by decide) e), fun e => K1.out (hne.out 1 (by decide) e), fun e => K2.out (hne.out 2 (by decide) e), fun e => K3.out (hne.out 3 (by decide) e), fun e => K4.out (hne.out 4 (by decide) e), fun e => K5.out (hne.out 5 (by decide) e), fun e => K6.out (hne.out 6 (by decide) e), fun e => K7.out (hne.out 7 (by decide) e), fun e => K8.out (hne.out 8 (by decide) e), fun e => (by obtain ⟨y1, y2⟩ := K9.out (hne.out 9 (by decide) e); exact ⟨y1, listed_up y2⟩), fun e => K10.out (hne.out 10 (by decide) e), fun e => K11.out (hne.out 11 (by decide) e), fun e => K12.out (hne.out 12 (by decide) e), fun e => K13.out (hne.out 13 (by decide) e), fun e => K14.out (hne.out 14 (by decide) e), fun e => K15.out (hne.out 15 (by decide) e), fun e => K16.out (hne.out 16 (by decide) e), fun e => (by obtain ⟨y1, y2⟩ := K17.out (hne.out 17 (by decide) e); exact ⟨y1, listed_up y2⟩), fun e => (by obtain ⟨y1, y2, y3, y4, y5, y6, y7, y8⟩ := K18.out (hne.out 18 (by decide) e); exact ⟨y1, y2, y3, y4, y5, y6, listed_up y7, listed_up y8⟩), fun _ => rfl, fun e => hB (listed_no (by decide) e)⟩
        case hl =>
          rintro listed aq wx ⟨hz, v53, v54, v55, v56, v57, v58, v59, v60, v61, v62, v63, v64, v65, v66, v67, v68, v69, v70, v71, v72, rfl, hII⟩ hall
          have K0 := Lib.hid hII.1
          have K1 := Lib.hid hII.2.1
          have K2 := Lib.hid hII.2.2.1
          have K3 := Lib.hid hII.2.2.2.1
          have K4 := Lib.hid hII.2.2.2.2.1
          have K5 := Lib.hid hII.2.2.2.2.2.1
          have K6 := Lib.hid hII.2.2.2.2.2.2.1
          have K7 := Lib.hid hII.2.2.2.2.2.2.2.1
          have K8 := Lib.hid hII.2.2.2.2.2.2.2.2.1
          have K9 := Lib.hid hII.2.2.2.2.2.2.2.2.2.1
          have K10 := Lib.hid hII.2.2.2.2.2.2.2.2.2.2.1
          have K11 := Lib.hid hII.2.2.2.2.2.2.2.2.2.2.2.1
          have K12 := Lib.hid hII.2.2.2.2.2.2.2.2.2.2.2.2.1
          have K13 := Lib.hid hII.2.2.2.2.2.2.2.2.2.2.2.2.2.1
          have K14 := Lib.hid hII.2.2.2.2.2.2.2.2.2.2.2.2.2.2.1
          have K15 := Lib.hid hII.2.2.2.2.2.2.2.2.2.2.2.2.2.2.2.1
          have K16 := Lib.hid hII.2.2.2.2.2.2.2.2.2.2.2.2.2.2.2.2.1
          have K17 := Lib.hid hII.2.2.2.2.2.2.2.2.2.2.2.2.2.2.2.2.2.1
          have K18 := Lib.hid hII.2.2.2.2.2.2.2.2.2.2.2.2.2.2.2.2.2.2.1
          have K19 := Lib.hid hII.2.2.2.2.2.2.2.2.2.2.2.2.2.2.2.2.2.2.2.1
          have hB : (listed.getD 18 false = false → Below wr.heap.size wr wx) := hII.2.2.2.2.2.2.2.2.2.2.2.2.2.2.2.2.2.2.2.2
          clear hII
          obtain rfl := K0.out (hall 0 (by decide))
          obtain rfl := K1.out (hall 1 (by decide))
          obtain rfl := K2.out (hall 2 (by decide))
          obtain rfl := K3.out (hall 3 (by decide))
          obtain rfl := K4.out (hall 4 (by decide))
          obtain rfl := K5.out (hall 5 (by decide))
          obtain rfl := K6.out (hall 6 (by decide))
          obtain rfl := K7.out (hall 7 (by decide))
          obtain rfl := K8.out (hall 8 (by decide))
          obtain ⟨rfl, _⟩ := K9.out (hall 9 (by decide))
          obtain rfl := K10.out (hall 10 (by decide))
          obtain rfl := K11.out (hall 11 (by decide))
          obtain rfl := K12.out (hall 12 (by decide))
          obtain rfl := K13.out (hall 13 (by decide))
          obtain rfl := K14.out (hall 14 (by decide))
          obtain rfl := K15.out (hall 15 (by decide))
          obtain rfl := K16.out (hall 16 (by decide))
          obtain ⟨rfl, _⟩ := K17.out (hall 17 (by decide))
          obtain ⟨vn, sln, kvn, rfl, hWn0, hFn, _, _⟩ := K18.out (hall 18 (by decide))
          obtain rfl := K19.out (hall 19 (by decide))
          clear hall K0 K1 K2 K3 K4 K5 K6 K7 K8 K9 K10 K11 K12 K13 K14 K15 K16 K17 K18 K19
          have hKn0 := Has.but hKq.out hFn.but hkn.out
          have hkc := hKn0.cell
          have hkf := hKn0.frozen
          refine wpOp_step rfl (fun K0 hK0 => ?_)
          go_simp
          refine hK0 _ _ ?_
          clear hK0
          have hz5 : wr.heap.size ≤ wx.heap.size := hFn.but.size
          have hfn := Lib.hid (show ∀ q, vn.ownBlock = some q → B ≤ q ∧ q ≠ kb from fun q hq => ⟨(own_far hWn0.wv hq).1, fun e => by
            rcases hFn.new q hq with e2 | e2
            · exact (hfh.out q e2).2 e
            · have e3 : wr.heap.size ≤ q := e2
              omega⟩)
          have hFw := Lib.hid (hFh.out.trans hFn)
          have hKn := Lib.hid (hKn0.put 0 (.int .i64 (P.2 : Nat)))
          have hP5 : KeptBut wx (wx.setCell ⟨kb, 0, none⟩ (.int .i64 (P.2 : Nat))) (fun i => i = kb) := KeptBut.put (S := fun i => i = kb) (p := ⟨kb, 0, none⟩) (KeptBut.refl wx (fun i => i = kb)) (fun _ => rfl) (.int .i64 (P.2 : Nat))
          have hPn := Lib.hid (hWn0.other hL hP5 hbq (fun q hq => (hfn.out q hq).2))
          have hFs := Lib.hid (show Pf w (wx.setCell ⟨kb, 0, none⟩ (.int .i64 (P.2 : Nat))) G Kb v vn from ⟨hFw.out.but.trans (hP5.mono (T := fun i => i = kb) (fun i _ e => e)) (fun i hi e => by omega), hFw.out.new⟩)
          have hzs := hP5.size
          clear hWn0 hFn hKn0 hP5 hkc hkf hB
          go_wp2_with fail
          exact ⟨⟨vn, sln, kvn, hFs.out, by omega, hfn.out, .inr (.inl ⟨rfl, hPn.out, hKn.out⟩)⟩, by simp [intOf]⟩
      · have hPk := Lib.hid hWv
        have hKq := Lib.hid hKb
        have hGr := hWv.wv.has.lt
        have hBr : Bl ≤ wr.heap.size := Nat.le_trans hL.bb hWv.wv.le
        have hOk2 := Lib.hid (fun (wx : World) (hx : Below wr.heap.size wr wx) => (show Below wr.heap.size wr wx ∧ wx.cell? ⟨G, 0, none⟩ = some (.slice (some ⟨g1, o1, none⟩) n c1) ∧ wx.cell? ⟨G, 1, none⟩ = some (.slice (some ⟨g2, o2, none⟩) m c2) from ⟨hx, (hx.cell (p := ⟨G, 0, none⟩) (by exact hGr)).trans ((hPk.out.wv.has.cell 0).trans rfl), (hx.cell (p := ⟨G, 1, none⟩) (by exact hGr)).trans ((hPk.out.wv.has.cell 1).trans rfl)⟩))
        have cAx := Lib.hid (fun (wx : World) (hx : Below wr.heap.size wr wx) => cA1.out wx (((hPk.out.below hL hx).l1).more (Nat.le_trans hBr hx.size)))
        have cBx := Lib.hid (fun (wx : World) (hx : Below wr.heap.size wr wx) => cB1.out wx (((hPk.out.below hL hx).l2).more (Nat.le_trans hBr hx.size)))
        have hkn := Lib.hid (show ¬ (kb = G ∨ kb = Kb ∨ vk.ownBlock = some kb) from fun e => by
          rcases e with e | e | e
          · have := hL.gb; omega
          · have := hL.kb; omega
          · exact (hfh.out _ e).2 rfl)
        generalize kf d i u 1 = k1 at *
        generalize kf e j u 1 = k2 at *
        clear hWv hKb
        go_wp2_with fail
        refine wp_region_any (by kernel_rfl) ?_
        change wpAny _ _ _ _ _ _ _ (World.drew _)
        refine wpAny_last (n := 20) (I := fun listed aq wx => listed.size = 21 ∧ ∃ v53 v54 v55 v56 v57 v58 v59 v60 v61 v62 v63 v64 v65 v66 v67 v68 v69 v70 v71 v72 : Value, aq = { tmps := #[.pointer (some ⟨G, 0, none⟩), .int .i64 ↑i, .int .i64 ↑j, undef, undef, undef, .int .i64 0, .int .i64 ↑u, .pointer (some ⟨kb, 0, none⟩), .int .i64 1, .pointer (some ⟨G, 0, none⟩), .pointer (some ⟨G, 0, none⟩), .pointer (some ⟨G, 0, none⟩), .slice (some ⟨g1, o1, none⟩) n c1, .int .i64 ↑i, .pointer (some ⟨g1, o1 + i * 5, none⟩), .agg #[.int .i64 a.v, .int .i64 a.n, .int .i64 a.a, .int .i64 a.b, .int .i64 a.c], .int .i64 ↑p, .pointer (some ⟨G, 0, none⟩), .pointer (some ⟨G, 0, none⟩), .pointer (some ⟨G, 1, none⟩), .slice (some ⟨g2, o2, none⟩) m c2, .int .i64 ↑j, .pointer (some ⟨g2, o2 + j * 5, none⟩), .agg #[.int .i64 b.v, .int .i64 b.n, .int .i64 b.a, .int .i64 b.b, .int .i64 b.c], .int .i64 ↑z, .int .i64 ↑u, .int .i64 ↑u, .bool false, undef, undef, undef, undef, undef, undef, undef, undef, undef, undef, undef, undef, undef, undef, undef, undef, undef, undef, undef, undef, undef, .int .i64 1, .bool true, .int .i64 1, v53, v54, v55, v56, v57, v58, v59, v60, v61, v62, v63, v64, v65, v66, v67, v68, v69, v70, v71, v72, u73, undef, undef, undef, undef, undef, undef], defers := [] } ∧ (listed.getD 0 false = true → v53 = .int .i64 1) ∧ (listed.getD 1 false = true → v54 = .pointer (some ⟨G, 0, none⟩)) ∧ (listed.getD 2 false = true → v55 = .pointer (some ⟨G, 0, none⟩)) ∧ (listed.getD 3 false = true → v56 = .pointer (some ⟨G, 0, none⟩)) ∧ (listed.getD 4 false = true → v57 = .pointer (some ⟨G, 0, none⟩)) ∧ (listed.getD 5 false = true → v58 = .slice (some ⟨g1, o1, none⟩) n c1) ∧ (listed.getD 6 false = true → v59 = .int .i64 ↑i) ∧ (listed.getD 7 false = true → v60 = .int .i64 ↑u) ∧ (listed.getD 8 false = true → v61 = .int .i64 1) ∧ (listed.getD 9 false = true → (v62 = .int .i64 (k1 : Nat) ∧ listed.getD 5 false = true)) ∧ (listed.getD 10 false = true → v63 = .pointer (some ⟨G, 0, none⟩)) ∧ (listed.getD 11 false = true → v64 = .pointer (some ⟨G, 0, none⟩)) ∧ (listed.getD 12 false = true → v65 = .pointer (some ⟨G, 1, none⟩)) ∧ (listed.getD 13 false = true → v66 = .slice (some ⟨g2, o2, none⟩) m c2) ∧ (listed.getD 14 false = true → v67 = .int .i64 ↑j) ∧ (listed.getD 15 false = true → v68 = .int .i64 ↑u) ∧ (listed.getD 16 false = true → v69 = .int .i64 1) ∧ (listed.getD 17 false = true → (v70 = .int .i64 (k2 : Nat) ∧ listed.getD 13 false = true)) ∧ (listed.getD 18 false = true → (∃ vn sln kvn, v71 = .int .i64 (Q.2 : Nat) ∧ PW wx B G Kb Bl (some ⟨g1, o1, none⟩) (some ⟨g2, o2, none⟩) n m c1 c2 d e vn sln Q.1 kvn ∧ Pf wr wx G Kb vk vn ∧ listed.getD 9 false = true ∧ listed.getD 17 false = true)) ∧ (listed.getD 19 false = true → v72 = .pointer (some ⟨kb, 1, none⟩)) ∧ (listed.getD 18 false = false → Below wr.heap.size wr wx)) rfl (by kernel_rfl) (by kernel_rfl) ?hs ?hl _ _ _ ?st rfl (by decide) _ (by decide)
        case st =>
          refine ⟨rfl, u53, u54, u55, u56, u57, u58, u59, u60, u61, u62, u63, u64, u65, u66, u67, u68, u69, u70, u71, u72, rfl, ?_, ?_, ?_, ?_, ?_, ?_, ?_, ?_, ?_, ?_, ?_, ?_, ?_, ?_, ?_, ?_, ?_, ?_, ?_, ?_, fun _ => (Below.refl _ _).drew⟩ <;> (intro e; exact absurd e (by decide))
        case hs =>
          rintro listed aq wx ⟨hz, v53, v54, v55, v56, v57, v58, v59, v60, v61, v62, v63, v64, v65, v66, v67, v68, v69, v70, v71, v72, rfl, hII⟩ i hin hi
          obtain ⟨h0, o, ho, hd⟩ := mem_ready.1 hi
          have K0 := Lib.hid hII.1
          have K1 := Lib.hid hII.2.1
          have K2 := Lib.hid hII.2.2.1
          have K3 := Lib.hid hII.2.2.2.1
          have K4 := Lib.hid hII.2.2.2.2.1
          have K5 := Lib.hid hII.2.2.2.2.2.1
          have K6 := Lib.hid hII.2.2.2.2.2.2.1
          have K7 := Lib.hid hII.2.2.2.2.2.2.2.1
          have K8 := Lib.hid hII.2.2.2.2.2.2.2.2.1
          have K9 := Lib.hid hII.2.2.2.2.2.2.2.2.2.1
          have K10 := Lib.hid hII.2.2.2.2.2.2.2.2.2.2.1
          have K11 := Lib.hid hII.2.2.2.2.2.2.2.2.2.2.2.1
          have K12 := Lib.hid hII.2.2.2.2.2.2.2.2.2.2.2.2.1
          have K13 := Lib.hid hII.2.2.2.2.2.2.2.2.2.2.2.2.2.1
          have K14 := Lib.hid hII.2.2.2.2.2.2.2.2.2.2.2.2.2.2.1
          have K15 := Lib.hid hII.2.2.2.2.2.2.2.2.2.2.2.2.2.2.2.1
          have K16 := Lib.hid hII.2.2.2.2.2.2.2.2.2.2.2.2.2.2.2.2.1
          have K17 := Lib.hid hII.2.2.2.2.2.2.2.2.2.2.2.2.2.2.2.2.2.1
          have K18 := Lib.hid hII.2.2.2.2.2.2.2.2.2.2.2.2.2.2.2.2.2.2.1
          have K19 := Lib.hid hII.2.2.2.2.2.2.2.2.2.2.2.2.2.2.2.2.2.2.2.1
          have hB : (listed.getD 18 false = false → Below wr.heap.size wr wx) := hII.2.2.2.2.2.2.2.2.2.2.2.2.2.2.2.2.2.2.2.2
          have hne := Lib.hid (fun k (hk : i ≠ k) => @listed_ne listed i k hk)
          have h0f : listed.getD i false = false := by rw [Array.getD_eq_getD_getElem?, getD_false h0]; rfl
          clear hII hi h0
          rcases (by omega : i = 0 ∨ i = 1 ∨ i = 2 ∨ i = 3 ∨ i = 4 ∨ i = 5 ∨ i = 6 ∨ i = 7 ∨ i = 8 ∨ i = 9 ∨ i = 10 ∨ i = 11 ∨ i = 12 ∨ i = 13 ∨ i = 14 ∨ i = 15 ∨ i = 16 ∨ i = 17 ∨ i = 18 ∨ i = 19) with rfl | rfl | rfl | rfl | rfl | rfl | rfl | rfl | rfl | rfl | rfl | rfl | rfl | rfl | rfl | rfl | rfl | rfl | rfl | rfl
          · cases ho
            refine wpOp_step rfl (fun K hK => ?_)
            go_simp
            refine hK _ _ ⟨by simpa using hz, .int .i64 1, v54, v55, v56, v57, v58, v59, v60, v61, v62, v63, v64, v65, v66, v67, v68, v69, v70, v71, v72, rfl, ?_⟩
            exact ⟨fun _ => rfl, fun e => K1.out (hne.out 1 (by decide) e), fun e => K2.out (hne.out 2 (by decide) e), fun e => K3.out (hne.out 3 (by decide) e), fun e => K4.out (hne.out 4 (by decide) e), fun e => K5.out (hne.out 5 (by decide) e), fun e => K6.out (hne.out 6 (by decide) e), fun e => K7.out (hne.out 7 (by decide) e), fun e => K8.out (hne.out 8 (by decide) e), fun e => (by obtain ⟨y1, y2⟩ := K9.out (hne.out 9 (by decide) e); exact ⟨y1, listed_up y2⟩), fun e => K10.out (hne.out 10 (by decide) e), fun e => K11.out (hne.out 11 (by decide) e), fun e => K12.out (hne.out 12 (by decide) e), fun e => K13.out (hne.out 13 (by decide) e), fun e => K14.out (hne.out 14 (by decide) e), fun e => K15.out (hne.out 15 (by decide) e), fun e => K16.out (hne.out 16 (by decide) e), fun e => (by obtain ⟨y1, y2⟩ := K17.out (hne.out 17 (by decide) e); exact ⟨y1, listed_up y2⟩), fun e => (by obtain ⟨y1, y2, y3, y4, y5, y6, y7, y8⟩ := K18.out (hne.out 18 (by decide) e); exact ⟨y1, y2, y3, y4, y5, y6, listed_up y7, listed_up y8⟩), fun e => K19.out (hne.out 19 (by decide) e), fun e => hB (listed_no (by decide) e)⟩
          · cases ho
            refine wpOp_step rfl (fun K hK => ?_)
            go_simp
            refine hK _ _ ⟨by simpa using hz, v53, .pointer (some ⟨G, 0, none⟩), v55, v56, v57, v58, v59, v60, v61, v62, v63, v64, v65, v66, v67, v68, v69, v70, v71, v72, rfl, ?_⟩
            exact ⟨fun e => K0.out (hne.out 0 (by decide) e), fun _ => rfl, fun e => K2.out (hne.out 2 (by decide) e), fun e => K3.out (hne.out 3 (by decide) e), fun e => K4.out (hne.out 4 (by decide) e), fun e => K5.out (hne.out 5 (by decide) e), fun e => K6.out (hne.out 6 (by decide) e), fun e => K7.out (hne.out 7 (by decide) e), fun e => K8.out (hne.out 8 (by decide) e), fun e => (by obtain ⟨y1, y2⟩ := K9.out (hne.out 9 (by decide) e); exact ⟨y1, listed_up y2⟩), fun e => K10.out (hne.out 10 (by decide) e), fun e => K11.out (hne.out 11 (by decide) e), fun e => K12.out (hne.out 12 (by decide) e), fun e => K13.out (hne.out 13 (by decide) e), fun e => K14.out (hne.out 14 (by decide) e), fun e => K15.out (hne.out 15 (by decide) e), fun e => K16.out (hne.out 16 (by decide) e), fun e => (by obtain ⟨y1, y2⟩ := K17.out (hne.out 17 (by decide) e); exact ⟨y1, listed_up y2⟩), fun e => (by obtain ⟨y1, y2, y3, y4, y5, y6, y7, y8⟩ := K18.out (hne.out 18 (by decide) e); exact ⟨y1, y2, y3, y4, y5, y6, listed_up y7, listed_up y8⟩), fun e => K19.out (hne.out 19 (by decide) e), fun e => hB (listed_no (by decide) e)⟩
          · cases ho
            refine wpOp_step rfl (fun K hK => ?_)
            go_simp
            refine hK _ _ ⟨by simpa using hz, v53, v54, .pointer (some ⟨G, 0, none⟩), v56, v57, v58, v59, v60, v61, v62, v63, v64, v65, v66, v67, v68, v69, v70, v71, v72, rfl, ?_⟩
            exact ⟨fun e => K0.out (hne.out 0 (by decide) e), fun e => K1.out (hne.out 1 (by decide) e), fun _ => rfl, fun e => K3.out (hne.out 3 (by decide) e), fun e => K4.out (hne.out 4 (by decide) e), fun e => K5.out (hne.out 5 (by decide) e), fun e => K6.out (hne.out 6 (by decide) e), fun e => K7.out (hne.out 7 (by decide) e), fun e => K8.out (hne.out 8 (by decide) e), fun e => (by obtain ⟨y1, y2⟩ := K9.out (hne.out 9 (by decide) e); exact ⟨y1, listed_up y2⟩), fun e => K10.out (hne.out 10 (by decide) e), fun e => K11.out (hne.out 11 (by decide) e), fun e => K12.out (hne.out 12 (by decide) e), fun e => K13.out (hne.out 13 (by decide) e), fun e => K14.out (hne.out 14 (by decide) e), fun e => K15.out (hne.out 15 (by decide) e), fun e => K16.out (hne.out 16 (by decide) e), fun e => (by obtain ⟨y1, y2⟩ := K17.out (hne.out 17 (by decide) e); exact ⟨y1, listed_up y2⟩), fun e => (by obtain ⟨y1, y2, y3, y4, y5, y6, y7, y8⟩ := K18.out (hne.out 18 (by decide) e); exact ⟨y1, y2, y3, y4, y5, y6, listed_up y7, listed_up y8⟩), fun e => K19.out (hne.out 19 (by decide) e), fun e => hB (listed_no (by decide) e)⟩
          · cases ho
            have d2 := hd ⟨2, .data⟩ (by simp) rfl
            obtain rfl := K2.out d2
            refine wpOp_step rfl (fun K hK => ?_)
            go_simp
            refine hK _ _ ⟨by simpa using hz, v53, v54, .pointer (some ⟨G, 0, none⟩), .pointer (some ⟨G, 0, none⟩), v57, v58, v59, v60, v61, v62, v63, v64, v65, v66, v67, v68, v69, v70, v71, v72, rfl, ?_⟩
            exact ⟨fun e => K0.out (hne.out 0 (by decide) e), fun e => K1.out (hne.out 1 (by decide) e), fun e => K2.out (hne.out 2 (by decide) e), fun _ => rfl, fun e => K4.out (hne.out 4 (by decide) e), fun e => K5.out (hne.out 5 (by decide) e), fun e => K6.out (hne.out 6 (by decide) e), fun e => K7.out (hne.out 7 (by decide) e), fun e => K8.out (hne.out 8 (by decide) e), fun e => (by obtain ⟨y1, y2⟩ := K9.out (hne.out 9 (by decide) e); exact ⟨y1, listed_up y2⟩), fun e => K10.out (hne.out 10 (by decide) e), fun e => K11.out (hne.out 11 (by decide) e), fun e => K12.out (hne.out 12 (by decide) e), fun e => K13.out (hne.out 13 (by decide) e), fun e => K14.out (hne.out 14 (by decide) e), fun e => K15.out (hne.out 15 (by decide) e), fun e => K16.out (hne.out 16 (by decide) e), fun e => (by obtain ⟨y1, y2⟩ := K17.out (hne.out 17 (by decide) e); exact ⟨y1, listed_up y2⟩), fun e => (by obtain ⟨y1, y2, y3, y4, y5, y6, y7, y8⟩ := K18.out (hne.out 18 (by decide) e); exact ⟨y1, y2, y3, y4, y5, y6, listed_up y7, listed_up y8⟩), fun e => K19.out (hne.out 19 (by decide) e), fun e => hB (listed_no (by decide) e)⟩
          · cases ho
            have d3 := hd ⟨3, .data⟩ (by simp) rfl
            obtain rfl := K3.out d3
            refine wpOp_step rfl (fun K hK => ?_)
            go_simp
            refine hK _ _ ⟨by simpa using hz, v53, v54, v55, .pointer (some ⟨G, 0, none⟩), .pointer (some ⟨G, 0, none⟩), v58, v59, v60, v61, v62, v63, v64, v65, v66, v67, v68, v69, v70, v71, v72, rfl, ?_⟩
            exact ⟨fun e => K0.out (hne.out 0 (by decide) e), fun e => K1.out (hne.out 1 (by decide) e), fun e => K2.out (hne.out 2 (by decide) e), fun e => K3.out (hne.out 3 (by decide) e), fun _ => rfl, fun e => K5.out (hne.out 5 (by decide) e), fun e => K6.out (hne.out 6 (by decide) e), fun e => K7.out (hne.out 7 (by decide) e), fun e => K8.out (hne.out 8 (by decide) e), fun e => (by obtain ⟨y1, y2⟩ := K9.out (hne.out 9 (by decide) e); exact ⟨y1, listed_up y2⟩), fun e => K10.out (hne.out 10 (by decide) e), fun e => K11.out (hne.out 11 (by decide) e), fun e => K12.out (hne.out 12 (by decide) e), fun e => K13.out (hne.out 13 (by decide) e), fun e => K14.out (hne.out 14 (by decide) e), fun e => K15.out (hne.out 15 (by decide) e), fun e => K16.out (hne.out 16 (by decide) e), fun e => (by obtain ⟨y1, y2⟩ := K17.out (hne.out 17 (by decide) e); exact ⟨y1, listed_up y2⟩), fun e => (by obtain ⟨y1, y2, y3, y4, y5, y6, y7, y8⟩ := K18.out (hne.out 18 (by decide) e); exact ⟨y1, y2, y3, y4, y5, y6, listed_up y7, listed_up y8⟩), fun e => K19.out (hne.out 19 (by decide) e), fun e => hB (listed_no (by decide) e)⟩
          · cases ho
            have d4 := hd ⟨4, .data⟩ (by simp) rfl
            obtain rfl := K4.out d4
            have h18 : listed.getD 18 false = false := by
              cases hq : listed.getD 18 false
              · rfl
              · obtain ⟨_, _, _, _, _, _, q9, q17⟩ := K18.out hq
                have := (K9.out q9).2
                rw [h0f] at this
                cases this
            have hbx := hB h18
            obtain ⟨_, e0, e1⟩ := hOk2.out wx hbx
            refine wpOp_step rfl (fun K hK => ?_)
            go_simp
            refine hK _ _ ⟨by simpa using hz, v53, v54, v55, v56, .pointer (some ⟨G, 0, none⟩), .slice (some ⟨g1, o1, none⟩) n c1, v59, v60, v61, v62, v63, v64, v65, v66, v67, v68, v69, v70, v71, v72, rfl, ?_⟩
            exact ⟨fun e => K0.out (hne.out 0 (by decide) e), fun e => K1.out (hne.out 1 (by decide) e), fun e => K2.out (hne.out 2 (by decide) e), fun e => K3.out (hne.out 3 (by decide) e), fun e => K4.out (hne.out 4 (by decide) e), fun _ => rfl, fun e => K6.out (hne.out 6 (by decide) e), fun e => K7.out (hne.out 7 (by decide) e), fun e => K8.out (hne.out 8 (by decide) e), fun e => (by obtain ⟨y1, y2⟩ := K9.out (hne.out 9 (by decide) e); exact ⟨y1, listed_up y2⟩), fun e => K10.out (hne.out 10 (by decide) e), fun e => K11.out (hne.out 11 (by decide) e), fun e => K12.out (hne.out 12 (by decide) e), fun e => K13.out (hne.out 13 (by decide) e), fun e => K14.out (hne.out 14 (by decide) e), fun e => K15.out (hne.out 15 (by decide) e), fun e => K16.out (hne.out 16 (by decide) e), fun e => (by obtain ⟨y1, y2⟩ := K17.out (hne.out 17 (by decide) e); exact ⟨y1, listed_up y2⟩), fun e => (by obtain ⟨y1, y2, y3, y4, y5, y6, y7, y8⟩ := K18.out (hne.out 18 (by decide) e); exact ⟨y1, y2, y3, y4, y5, y6, listed_up y7, listed_up y8⟩), fun e => K19.out (hne.out 19 (by decide) e), fun e => hB (listed_no (by decide) e)⟩
          · cases ho
            refine wpOp_step rfl (fun K hK => ?_)
            go_simp
            refine hK _ _ ⟨by simpa using hz, v53, v54, v55, v56, v57, v58, .int .i64 ↑i, v60, v61, v62, v63, v64, v65, v66, v67, v68, v69, v70, v71, v72, rfl, ?_⟩
            exact ⟨fun e => K0.out (hne.out 0 (by decide) e), fun e => K1.out (hne.out 1 (by decide) e), fun e => K2.out (hne.out 2 (by decide) e), fun e => K3.out (hne.out 3 (by decide) e), fun e => K4.out (hne.out 4 (by decide) e), fun e => K5.out (hne.out 5 (by decide) e), fun _ => rfl, fun e => K7.out (hne.out 7 (by decide) e), fun e => K8.out (hne.out 8 (by decide) e), fun e => (by obtain ⟨y1, y2⟩ := K9.out (hne.out 9 (by decide) e); exact ⟨y1, listed_up y2⟩), fun e => K10.out (hne.out 10 (by decide) e), fun e => K11.out (hne.out 11 (by decide) e), fun e => K12.out (hne.out 12 (by decide) e), fun e => K13.out (hne.out 13 (by decide) e), fun e => K14.out (hne.out 14 (by decide) e), fun e => K15.out (hne.out 15 (by decide) e), fun e => K16.out (hne.out 16 (by decide) e), fun e => (by obtain ⟨y1, y2⟩ := K17.out (hne.out 17 (by decide) e); exact ⟨y1, listed_up y2⟩), fun e => (by obtain ⟨y1, y2, y3, y4, y5, y6, y7, y8⟩ := K18.out (hne.out 18 (by decide) e); exact ⟨y1, y2, y3, y4, y5, y6, listed_up y7, listed_up y8⟩), fun e => K19.out (hne.out 19 (by decide) e), fun e => hB (listed_no (by decide) e)⟩
          · cases ho
            refine wpOp_step rfl (fun K hK => ?_)
            go_simp
            refine hK _ _ ⟨by simpa using hz, v53, v54, v55, v56, v57, v58, v59, .int .i64 ↑u, v61, v62, v63, v64, v65, v66, v67, v68, v69, v70, v71, v72, rfl, ?_⟩
            exact ⟨fun e => K0.out (hne.out 0 (by decide) e), fun e => K1.out (hne.out 1 (by decide) e), fun e => K2.out (hne.out 2 (by decide) e), fun e => K3.out (hne.out 3 (by decide) e), fun e => K4.out (hne.out 4 (by decide) e), fun e => K5.out (hne.out 5 (by decide) e), fun e => K6.out (hne.out 6 (by decide) e), fun _ => rfl, fun e => K8.out (hne.out 8 (by decide) e), fun e => (by obtain ⟨y1, y2⟩ := K9.out (hne.out 9 (by decide) e); exact ⟨y1, listed_up y2⟩), fun e => K10.out (hne.out 10 (by decide) e), fun e => K11.out (hne.out 11 (by decide) e), fun e => K12.out (hne.out 12 (by decide) e), fun e => K13.out (hne.out 13 (by decide) e), fun e => K14.out (hne.out 14 (by decide) e), fun e => K15.out (hne.out 15 (by decide) e), fun e => K16.out (hne.out 16 (by decide) e), fun e => (by obtain ⟨y1, y2⟩ := K17.out (hne.out 17 (by decide) e); exact ⟨y1, listed_up y2⟩), fun e => (by obtain ⟨y1, y2, y3, y4, y5, y6, y7, y8⟩ := K18.out (hne.out 18 (by decide) e); exact ⟨y1, y2, y3, y4, y5, y6, listed_up y7, listed_up y8⟩), fun e => K19.out (hne.out 19 (by decide) e), fun e => hB (listed_no (by decide) e)⟩
          · cases ho
            refine wpOp_step rfl (fun K hK => ?_)
            go_simp
            refine hK _ _ ⟨by simpa using hz, v53, v54, v55, v56, v57, v58, v59, v60, .int .i64 1, v62, v63, v64, v65, v66, v67, v68, v69, v70, v71, v72, rfl, ?_⟩
            exact ⟨fun e => K0.out (hne.out 0 (by decide) e), fun e => K1.out (hne.out 1 (by decide) e), fun e => K2.out (hne.out 2 (by decide) e), fun e => K3.out (hne.out 3 (by decide) e), fun e => K4.out (hne.out 4 (by decide) e), fun e => K5.out (hne.out 5 (by decide) e), fun e => K6.out (hne.out 6 (by decide) e), fun e => K7.out (hne.out 7 (by decide) e), fun _ => rfl, fun e => (by obtain ⟨y1, y2⟩ := K9.out (hne.out 9 (by decide) e); exact ⟨y1, listed_up y2⟩), fun e => K10.out (hne.out 10 (by decide) e), fun e => K11.out (hne.out 11 (by decide) e), fun e => K12.out (hne.out 12 (by decide) e), fun e => K13.out (hne.out 13 (by decide) e), fun e => K14.out (hne.out 14 (by decide) e), fun e => K15.out (hne.out 15 (by decide) e), fun e => K16.out (hne.out 16 (by decide) e), fun e => (by obtain ⟨y1, y2⟩ := K17.out (hne.out 17 (by decide) e); exact ⟨y1, listed_up y2⟩), fun e => (by obtain ⟨y1, y2, y3, y4, y5, y6, y7, y8⟩ := K18.out (hne.out 18 (by decide) e); exact ⟨y1, y2, y3, y4, y5, y6, listed_up y7, listed_up y8⟩), fun e => K19.out (hne.out 19 (by decide) e), fun e => hB (listed_no (by decide) e)⟩
          · cases ho
            have d5 := hd ⟨5, .data⟩ (by simp) rfl
            have d6 := hd ⟨6, .data⟩ (by simp) rfl
            have d7 := hd ⟨7, .data⟩ (by simp) rfl
            have d8 := hd ⟨8, .data⟩ (by simp) rfl
            obtain rfl := K5.out d5
            obtain rfl := K6.out d6
            obtain rfl := K7.out d7
            obtain rfl := K8.out d8
            have h18 : listed.getD 18 false = false := by
              cases hq : listed.getD 18 false
              · rfl
              · obtain ⟨_, _, _, _, _, _, q9, q17⟩ := K18.out hq
                rw [h0f] at q9
                cases q9
            have hbx := hB h18
            refine wpOp_step rfl (fun K hK => ?_)
            go_simp
            go_at_call 168
            refine (cAx.out wx hbx).mono ?_
            rintro ee w3 ⟨rfl, rfl⟩
            refine hK _ _ ⟨by simpa using hz, v53, v54, v55, v56, v57, .slice (some ⟨g1, o1, none⟩) n c1, .int .i64 ↑i, .int .i64 ↑u, .int .i64 1, .int .i64 (k1 : Nat), v63, v64, v65, v66, v67, v68, v69, v70, v71, v72, rfl, ?_⟩
            exact ⟨fun e => K0.out (hne.out 0 (by decide) e), fun e => K1.out (hne.out 1 (by decide) e), fun e => K2.out (hne.out 2 (by decide) e), fun e => K3.out (hne.out 3 (by decide) e), fun e => K4.out (hne.out 4 (by decide) e), fun e => K5.out (hne.out 5 (by decide) e), fun e => K6.out (hne.out 6 (by decide) e), fun e => K7.out (hne.out 7 (by decide) e), fun e => K8.out (hne.out 8 (by decide) e), fun _ => ⟨rfl, listed_up d5⟩, fun e => K10.out (hne.out 10 (by decide) e), fun e => K11.out (hne.out 11 (by decide) e), fun e => K12.out (hne.out 12 (by decide) e), fun e => K13.out (hne.out 13 (by decide) e), fun e => K14.out (hne.out 14 (by decide) e), fun e => K15.out (hne.out 15 (by decide) e), fun e => K16.out (hne.out 16 (by decide) e), fun e => (by obtain ⟨y1, y2⟩ := K17.out (hne.out 17 (by decide) e); exact ⟨y1, listed_up y2⟩), fun e => (by obtain ⟨y1, y2, y3, y4, y5, y6, y7, y8⟩ := K18.out (hne.out 18 (by decide) e); exact ⟨y1, y2, y3, y4, y5, y6, listed_up y7, listed_up y8⟩), fun e => K19.out (hne.out 19 (by decide) e), fun e => hB (listed_no (by decide) e)⟩
          · cases ho
            refine wpOp_step rfl (fun K hK => ?_)
            go_simp
            refine hK _ _ ⟨by simpa using hz, v53, v54, v55, v56, v57, v58, v59, v60, v61, v62, .pointer (some ⟨G, 0, none⟩), v64, v65, v66, v67, v68, v69, v70, v71, v72, rfl, ?_⟩
            exact ⟨fun e => K0.out (hne.out 0 (by decide) e), fun e => K1.out (hne.out 1 (by decide) e), fun e => K2.out (hne.out 2 (by decide) e), fun e => K3.out (hne.out 3 (by decide) e), fun e => K4.out (hne.out 4 (by decide) e), fun e => K5.out (hne.out 5 (by decide) e), fun e => K6.out (hne.out 6 (by decide) e), fun e => K7.out (hne.out 7 (by decide) e), fun e => K8.out (hne.out 8 (by decide) e), fun e => (by obtain ⟨y1, y2⟩ := K9.out (hne.out 9 (by decide) e); exact ⟨y1, listed_up y2⟩), fun _ => rfl, fun e => K11.out (hne.out 11 (by decide) e), fun e => K12.out (hne.out 12 (by decide) e), fun e => K13.out (hne.out 13 (by decide) e), fun e => K14.out (hne.out 14 (by decide) e), fun e => K15.out (hne.out 15 (by decide) e), fun e => K16.out (hne.out 16 (by decide) e), fun e => (by obtain ⟨y1, y2⟩ := K17.out (hne.out 17 (by decide) e); exact ⟨y1, listed_up y2⟩), fun e => (by obtain ⟨y1, y2, y3, y4, y5, y6, y7, y8⟩ := K18.out (hne.out 18 (by decide) e); exact ⟨y1, y2, y3, y4, y5, y6, listed_up y7, listed_up y8⟩), fun e => K19.out (hne.out 19 (by decide) e), fun e => hB (listed_no (by decide) e)⟩
          · cases ho
            have d10 := hd ⟨10, .data⟩ (by simp) rfl
            obtain rfl := K10.out d10
            refine wpOp_step rfl (fun K hK => ?_)
            go_simp
            refine hK _ _ ⟨by simpa using hz, v53, v54, v55, v56, v57, v58, v59, v60, v61, v62, .pointer (some ⟨G, 0, none⟩), .pointer (some ⟨G, 0, none⟩), v65, v66, v67, v68, v69, v70, v71, v72, rfl, ?_⟩
            exact ⟨fun e => K0.out (hne.out 0 (by decide) e), fun e => K1.out (hne.out 1 (by decide) e), fun e => K2.out (hne.out 2 (by decide) e), fun e => K3.out (hne.out 3 (by decide) e), fun e => K4.out (hne.out 4 (by decide) e), fun e => K5.out (hne.out 5 (by decide) e), fun e => K6.out (hne.out 6 (by decide) e), fun e => K7.out (hne.out 7 (by decide) e), fun e => K8.out (hne.out 8 (by decide) e), fun e => (by obtain ⟨y1, y2⟩ := K9.out (hne.out 9 (by decide) e); exact ⟨y1, listed_up y2⟩), fun e => K10.out (hne.out 10 (by decide) e), fun _ => rfl, fun e => K12.out (hne.out 12 (by decide) e), fun e => K13.out (hne.out 13 (by decide) e), fun e => K14.out (hne.out 14 (by decide) e), fun e => K15.out (hne.out 15 (by decide) e), fun e => K16.out (hne.out 16 (by decide) e), fun e => (by obtain ⟨y1, y2⟩ := K17.out (hne.out 17 (by decide) e); exact ⟨y1, listed_up y2⟩), fun e => (by obtain ⟨y1, y2, y3, y4, y5, y6, y7, y8⟩ := K18.out (hne.out 18 (by decide) e); exact ⟨y1, y2, y3, y4, y5, y6, listed_up y7, listed_up y8⟩), fun e => K19.out (hne.out 19 (by decide) e), fun e => hB (listed_no (by decide) e)⟩
          · cases ho
            have d11 := hd ⟨11, .data⟩ (by simp) rfl
            obtain rfl := K11.out d11
            refine wpOp_step rfl (fun K hK => ?_)
            go_simp
            refine hK _ _ ⟨by simpa using hz, v53, v54, v55, v56, v57, v58, v59, v60, v61, v62, v63, .pointer (some ⟨G, 0, none⟩), .pointer (some ⟨G, 1, none⟩), v66, v67, v68, v69, v70, v71, v72, rfl, ?_⟩
            exact ⟨fun e => K0.out (hne.out 0 (by decide) e), fun e => K1.out (hne.out 1 (by decide) e), fun e => K2.out (hne.out 2 (by decide) e), fun e => K3.out (hne.out 3 (by decide) e), fun e => K4.out (hne.out 4 (by decide) e), fun e => K5.out (hne.out 5 (by decide) e), fun e => K6.out (hne.out 6 (by decide) e), fun e => K7.out (hne.out 7 (by decide) e), fun e => K8.out (hne.out 8 (by decide) e), fun e => (by obtain ⟨y1, y2⟩ := K9.out (hne.out 9 (by decide) e); exact ⟨y1, listed_up y2⟩), fun e => K10.out (hne.out 10 (by decide) e), fun e => K11.out (hne.out 11 (by decide) e), fun _ => rfl, fun e => K13.out (hne.out 13 (by decide) e), fun e => K14.out (hne.out 14 (by decide) e), fun e => K15.out (hne.out 15 (by decide) e), fun e => K16.out (hne.out 16 (by decide) e), fun e => (by obtain ⟨y1, y2⟩ := K17.out (hne.out 17 (by decide) e); exact ⟨y1, listed_up y2⟩), fun e => (by obtain ⟨y1, y2, y3, y4, y5, y6, y7, y8⟩ := K18.out (hne.out 18 (by decide) e); exact ⟨y1, y2, y3, y4, y5, y6, listed_up y7, listed_up y8⟩), fun e => K19.out (hne.out 19 (by decide) e), fun e => hB (listed_no (by decide) e)⟩
          · cases ho
            have d12 := hd ⟨12, .data⟩ (by simp) rfl
            obtain rfl := K12.out d12
            have h18 : listed.getD 18 false = false := by
              cases hq : listed.getD 18 false
              · rfl
              · obtain ⟨_, _, _, _, _, _, q9, q17⟩ := K18.out hq
                have := (K17.out q17).2
                rw [h0f] at this
                cases this
            have hbx := hB h18
            obtain ⟨_, e0, e1⟩ := hOk2.out wx hbx
            refine wpOp_step rfl (fun K hK => ?_)
            go_simp
            refine hK _ _ ⟨by simpa using hz, v53, v54, v55, v56, v57, v58, v59, v60, v61, v62, v63, v64, .pointer (some ⟨G, 1, none⟩), .slice (some ⟨g2, o2, none⟩) m c2, v67, v68, v69, v70, v71, v72, rfl, ?_⟩
            exact ⟨fun e => K0.out (hne.out 0 (by decide) e), fun e => K1.out (hne.out 1 (by decide) e), fun e => K2.out (hne.out 2 (by decide) e), fun e => K3.out (hne.out 3 (by decide) e), fun e => K4.out (hne.out 4 (by decide) e), fun e => K5.out (hne.out 5 (by decide) e), fun e => K6.out (hne.out 6 (by decide) e), fun e => K7.out (hne.out 7 (by decide) e), fun e => K8.out (hne.out 8 (by decide) e), fun e => (by obtain ⟨y1, y2⟩ := K9.out (hne.out 9 (by decide) e); exact ⟨y1, listed_up y2⟩), fun e => K10.out (hne.out 10 (by decide) e), fun e => K11.out (hne.out 11 (by decide) e), fun e => K12.out (hne.out 12 (by decide) e), fun _ => rfl, fun e => K14.out (hne.out 14 (by decide) e), fun e => K15.out (hne.out 15 (by decide) e), fun e => K16.out (hne.out 16 (by decide) e), fun e => (by obtain ⟨y1, y2⟩ := K17.out (hne.out 17 (by decide) e); exact ⟨y1, listed_up y2⟩), fun e => (by obtain ⟨y1, y2, y3, y4, y5, y6, y7, y8⟩ := K18.out (hne.out 18 (by decide) e); exact ⟨y1, y2, y3, y4, y5, y6, listed_up y7, listed_up y8⟩), fun e => K19.out (hne.out 19 (by decide) e), fun e => hB (listed_no (by decide) e)⟩
          · cases ho
            refine wpOp_step rfl (fun K hK => ?_)
            go_simp
            refine hK _ _ ⟨by simpa using hz, v53, v54, v55, v56, v57, v58, v59, v60, v61, v62, v63, v64, v65, v66, .int .i64 ↑j, v68, v69, v70, v71, v72, rfl, ?_⟩
            exact ⟨fun e => K0.out (hne.out 0 (by decide) e), fun e => K1.out (hne.out 1 (by decide) e), fun e => K2.out (hne.out 2 (by decide) e), fun e => K3.out (hne.out 3 (by decide) e), fun e => K4.out (hne.out 4 (by decide) e), fun e => K5.out (hne.out 5 (by decide) e), fun e => K6.out (hne.out 6 (by decide) e), fun e => K7.out (hne.out 7 (by decide) e), fun e => K8.out (hne.out 8 (by decide) e), fun e => (by obtain ⟨y1, y2⟩ := K9.out (hne.out 9 (by decide) e); exact ⟨y1, listed_up y2⟩), fun e => K10.out (hne.out 10 (by decide) e), fun e => K11.out (hne.out 11 (by decide) e), fun e => K12.out (hne.out 12 (by decide) e), fun e => K13.out (hne.out 13 (by decide) e), fun _ => rfl, fun e => K15.out (hne.out 15 (by decide) e), fun e => K16.out (hne.out 16 (by decide) e), fun e => (by obtain ⟨y1, y2⟩ := K17.out (hne.out 17 (by decide) e); exact ⟨y1, listed_up y2⟩), fun e => (by obtain ⟨y1, y2, y3, y4, y5, y6, y7, y8⟩ := K18.out (hne.out 18 (by decide) e); exact ⟨y1, y2, y3, y4, y5, y6, listed_up y7, listed_up y8⟩), fun e => K19.out (hne.out 19 (by decide) e), fun e => hB (listed_no (by decide) e)⟩
          · cases ho
            refine wpOp_step rfl (fun K hK => ?_)
            go_simp
            refine hK _ _ ⟨by simpa using hz, v53, v54, v55, v56, v57, v58, v59, v60, v61, v62, v63, v64, v65, v66, v67, .int .i64 ↑u, v69, v70, v71, v72, rfl, ?_⟩
            exact ⟨fun e => K0.out (hne.out 0 (by decide) e), fun e => K1.out (hne.out 1 (by decide) e), fun e => K2.out (hne.out 2 (by decide) e), fun e => K3.out (hne.out 3 (by decide) e), fun e => K4.out (hne.out 4 (by decide) e), fun e => K5.out (hne.out 5 (by decide) e), fun e => K6.out (hne.out 6 (by decide) e), fun e => K7.out (hne.out 7 (by decide) e), fun e => K8.out (hne.out 8 (by decide) e), fun e => (by obtain ⟨y1, y2⟩ := K9.out (hne.out 9 (by decide) e); exact ⟨y1, listed_up y2⟩), fun e => K10.out (hne.out 10 (by decide) e), fun e => K11.out (hne.out 11 (by decide) e), fun e => K12.out (hne.out 12 (by decide) e), fun e => K13.out (hne.out 13 (by decide) e), fun e => K14.out (hne.out 14 (by decide) e), fun _ => rfl, fun e => K16.out (hne.out 16 (by decide) e), fun e => (by obtain ⟨y1, y2⟩ := K17.out (hne.out 17 (by decide) e); exact ⟨y1, listed_up y2⟩), fun e => (by obtain ⟨y1, y2, y3, y4, y5, y6, y7, y8⟩ := K18.out (hne.out 18 (by decide) e); exact ⟨y1, y2, y3, y4, y5, y6, listed_up y7, listed_up y8⟩), fun e => K19.out (hne.out 19 (by decide) e), fun e => hB (listed_no (by decide) e)⟩
          · cases ho
            refine wpOp_step rfl (fun K hK => ?_)
            go_simp
            refine hK _ _ ⟨by simpa using hz, v53, v54, v55, v56, v57, v58, v59, v60, v61, v62, v63, v64, v65, v66, v67, v68, .int .i64 1, v70, v71, v72, rfl, ?_⟩
            exact ⟨fun e => K0.out (hne.out 0 (by decide) e), fun e => K1.out (hne.out 1 (by decide) e), fun e => K2.out (hne.out 2 (by decide) e), fun e => K3.out (hne.out 3 (by decide) e), fun e => K4.out (hne.out 4 (by decide) e), fun e => K5.out (hne.out 5 (by decide) e), fun e => K6.out (hne.out 6 (by decide) e), fun e => K7.out (hne.out 7 (by decide) e), fun e => K8.out (hne.out 8 (by decide) e), fun e => (by obtain ⟨y1, y2⟩ := K9.out (hne.out 9 (by decide) e); exact ⟨y1, listed_up y2⟩), fun e => K10.out (hne.out 10 (by decide) e), fun e => K11.out (hne.out 11 (by decide) e), fun e => K12.out (hne.out 12 (by decide) e), fun e => K13.out (hne.out 13 (by decide) e), fun e => K14.out (hne.out 14 (by decide) e), fun e => K15.out (hne.out 15 (by decide) e), fun _ => rfl, fun e => (by obtain ⟨y1, y2⟩ := K17.out (hne.out 17 (by decide) e); exact ⟨y1, listed_up y2⟩), fun e => (by obtain ⟨y1, y2, y3, y4, y5, y6, y7, y8⟩ := K18.out (hne.out 18 (by decide) e); exact ⟨y1, y2, y3, y4, y5, y6, listed_up y7, listed_up y8⟩), fun e => K19.out (hne.out 19 (by decide) e), fun e => hB (listed_no (by decide) e)⟩
          · cases ho
            have d13 := hd ⟨13, .data⟩ (by simp) rfl
            have d14 := hd ⟨14, .data⟩ (by simp) rfl
            have d15 := hd ⟨15, .data⟩ (by simp) rfl
            have d16 := hd ⟨16, .data⟩ (by simp) rfl
            obtain rfl := K13.out d13
            obtain rfl := K14.out d14
            obtain rfl := K15.out d15
            obtain rfl := K16.out d16
            have h18 : listed.getD 18 false = false := by
              cases hq : listed.getD 18 false
              · rfl
              · obtain ⟨_, _, _, _, _, _, q9, q17⟩ := K18.out hq
                rw [h0f] at q17
                cases q17
            have hbx := hB h18
            refine wpOp_step rfl (fun K hK => ?_)
            go_simp
            go_at_call 168
            refine (cBx.out wx hbx).mono ?_
            rintro ee w3 ⟨rfl, rfl⟩
            refine hK _ _ ⟨by simpa using hz, v53, v54, v55, v56, v57, v58, v59, v60, v61, v62, v63, v64, v65, .slice (some ⟨g2, o2, none⟩) m c2, .int .i64 ↑j, .int .i64 ↑u, .int .i64 1, .int .i64 (k2 : Nat), v71, v72, rfl, ?_⟩
            exact ⟨fun e => K0.out (hne.out 0 (by decide) e), fun e => K1.out (hne.out 1 (by decide) e), fun e => K2.out (hne.out 2 (by decide) e), fun e => K3.out (hne.out 3 (by decide) e), fun e => K4.out (hne.out 4 (by decide) e), fun e => K5.out (hne.out 5 (by decide) e), fun e => K6.out (hne.out 6 (by decide) e), fun e => K7.out (hne.out 7 (by decide) e), fun e => K8.out (hne.out 8 (by decide) e), fun e => (by obtain ⟨y1, y2⟩ := K9.out (hne.out 9 (by decide) e); exact ⟨y1, listed_up y2⟩), fun e => K10.out (hne.out 10 (by decide) e), fun e => K11.out (hne.out 11 (by decide) e), fun e => K12.out (hne.out 12 (by decide) e), fun e => K13.out (hne.out 13 (by decide) e), fun e => K14.out (hne.out 14 (by decide) e), fun e => K15.out (hne.out 15 (by decide) e), fun e => K16.out (hne.out 16 (by decide) e), fun _ => ⟨rfl, listed_up d13⟩, fun e => (by obtain ⟨y1, y2, y3, y4, y5, y6, y7, y8⟩ := K18.out (hne.out 18 (by decide) e); exact ⟨y1, y2, y3, y4, y5, y6, listed_up y7, listed_up y8⟩), fun e => K19.out (hne.out 19 (by decide) e), fun e => hB (listed_no (by decide) e)⟩
          · cases ho
            have d1 := hd ⟨1, .data⟩ (by simp) rfl
            have d9 := hd ⟨9, .data⟩ (by simp) rfl
            have d17 := hd ⟨17, .data⟩ (by simp) rfl
            obtain rfl := K1.out d1
            obtain ⟨rfl, _⟩ := K9.out d9
            obtain ⟨rfl, _⟩ := K17.out d17
            have hbx := hB h0f
            have hPx := hPk.out.below hL hbx
            refine wpOp_step rfl (fun K hK => ?_)
            go_simp
            go_at_call 82
            refine (cP1.out _ _ _ _ hPx).mono ?_
            rintro ee w3 ⟨vn, sln, kvn, rfl, hWn0, hFn0⟩
            have hFn := (Pf.of_below hbx G Kb vk).trans hFn0
            refine hK _ _ ⟨by simpa using hz, v53, .pointer (some ⟨G, 0, none⟩), v55, v56, v57, v58, v59, v60, v61, .int .i64 (k1 : Nat), v63, v64, v65, v66, v67, v68, v69, .int .i64 (k2 : Nat), .int .i64 (Q.2 : Nat), v72, rfl, ?_⟩
            exact ⟨fun e => K0.out (hne.out 0 (by decide) e), fun e => K1.out (hne.out 1 (by decide) e), fun e => K2.out (hne.out 2 (by decide) e), fun e => K3.out (hne.out 3 (by decide) e), fun e => K4.out (hne.out 4 (by decide) e), fun e => K5.out (hne.out 5 (by decide) e), fun e => K6.out (hne.out 6 (by decide) e), fun e => K7.out (hne.out 7 (by decide) e), fun e => K8.out (hne.out 8 (by decide) e), fun e => (by obtain ⟨y1, y2⟩ := K9.out (hne.out 9 (by decide) e); exact ⟨y1, listed_up y2⟩), fun e => K10.out (hne.out 10 (by decide) e), fun e => K11.out (hne.out 11 (by decide) e), fun e => K12.out (hne.out 12 (by decide) e), fun e => K13.out (hne.out 13 (by decide) e), fun e => K14.out (hne.out 14 (by decide) e), fun e => K15.out (hne.out 15 (by decide) e), fun e => K16.out (hne.out 16 (by decide) e), fun e => (by obtain ⟨y1, y2⟩ := K17.out (hne.out 17 (by decide) e); exact ⟨y1, listed_up y2⟩), fun _ => ⟨_, _, _, rfl, hWn0, hFn, listed_up d9, listed_up d17⟩, fun e => K19.out (hne.out 19 (by decide) e), fun e => absurd e (by rw [listed_at (by rw [hz]; decide)]; decide)⟩
          · cases ho
            have d0 := hd ⟨0, .data⟩ (by simp) rfl
            obtain rfl := K0.out d0
            refine wpOp_step rfl (fun K hK => ?_)
            go_simp
            refine hK _ _ ⟨by simpa using hz, .int .i64 1, v54, v55, v56, v57, v58, v59, v60, v61, v62, v63, v64, v65, v66, v67, v68, v69, v70, v71, .pointer (some ⟨kb, 1, none⟩), rfl, ?_⟩
            exact ⟨fun e => K0.out (hne.out 0 (by decide) e), fun e => K1.out (hne.out 1 (by decide) e), fun e => K2.out (hne.out 2 (by decide) e), fun e => K3.out (hne.out 3 (by decide) e), fun e => K4.out (hne.out 4 (by decide) e), fun e => K5.out (hne.out 5 (by decide) e), fun e => K6.out (hne.out 6 (by decide) e), fun e => K7.out (hne.out 7 (by decide) e), fun e => K8.out (hne.out 8 (by decide) e), fun e => (by obtain ⟨y1, y2⟩ := K9.out (hne.out 9 (by decide) e); exact ⟨y1, listed_up y2⟩), fun e => K10.out (hne.out 10 (by decide) e), fun e => K11.out (hne.out 11 (by decide) e), fun e => K12.out (hne.out 12 (by decide) e), fun e => K13.out (hne.out 13 (by decide) e), fun e => K14.out (hne.out 14 (by decide) e), fun e => K15.out (hne.out 15 (by decide) e), fun e => K16.out (hne.out 16 (by decide) e), fun e => (by obtain ⟨y1, y2⟩ := K17.out (hne.out 17 (by decide) e); exact ⟨y1, listed_up y2⟩), fun e => (by obtain ⟨y1, y2, y3, y4, y5, y6, y7, y8⟩ := K18.out (hne.out 18 (by decide) e); exact ⟨y1, y2, y3, y4, y5, y6, listed_up y7, listed_up y8⟩), fun _ => rfl, fun e => hB (listed_no (by decide) e)⟩
        case hl =>
          rintro listed aq wx ⟨hz, v53, v54, v55, v56, v57, v58, v59, v60, v61, v62, v63, v64, v65, v66, v67, v68, v69, v70, v71, v72, rfl, hII⟩ hall
          have K0 := Lib.hid hII.1
          have K1 := Lib.hid hII.2.1
          have K2 := Lib.hid hII.2.2.1
          have K3 := Lib.hid hII.2.2.2.1
          have K4 := Lib.hid hII.2.2.2.2.1
          have K5 := Lib.hid hII.2.2.2.2.2.1
          have K6 := Lib.hid hII.2.2.2.2.2.2.1
          have K7 := Lib.hid hII.2.2.2.2.2.2.2.1
          have K8 := Lib.hid hII.2.2.2.2.2.2.2.2.1
          have K9 := Lib.hid hII.2.2.2.2.2.2.2.2.2.1
          have K10 := Lib.hid hII.2.2.2.2.2.2.2.2.2.2.1
          have K11 := Lib.hid hII.2.2.2.2.2.2.2.2.2.2.2.1
          have K12 := Lib.hid hII.2.2.2.2.2.2.2.2.2.2.2.2.1
          have K13 := Lib.hid hII.2.2.2.2.2.2.2.2.2.2.2.2.2.1
          have K14 := Lib.hid hII.2.2.2.2.2.2.2.2.2.2.2.2.2.2.1
          have K15 := Lib.hid hII.2.2.2.2.2.2.2.2.2.2.2.2.2.2.2.1
          have K16 := Lib.hid hII.2.2.2.2.2.2.2.2.2.2.2.2.2.2.2.2.1
          have K17 := Lib.hid hII.2.2.2.2.2.2.2.2.2.2.2.2.2.2.2.2.2.1
          have K18 := Lib.hid hII.2.2.2.2.2.2.2.2.2.2.2.2.2.2.2.2.2.2.1
          have K19 := Lib.hid hII.2.2.2.2.2.2.2.2.2.2.2.2.2.2.2.2.2.2.2.1
          have hB : (listed.getD 18 false = false → Below wr.heap.size wr wx) := hII.2.2.2.2.2.2.2.2.2.2.2.2.2.2.2.2.2.2.2.2
          clear hII
          obtain rfl := K0.out (hall 0 (by decide))
          obtain rfl := K1.out (hall 1 (by decide))
          obtain rfl := K2.out (hall 2 (by decide))
          obtain rfl := K3.out (hall 3 (by decide))
          obtain rfl := K4.out (hall 4 (by decide))
          obtain rfl := K5.out (hall 5 (by decide))
          obtain rfl := K6.out (hall 6 (by decide))
          obtain rfl := K7.out (hall 7 (by decide))
          obtain rfl := K8.out (hall 8 (by decide))
          obtain ⟨rfl, _⟩ := K9.out (hall 9 (by decide))
          obtain rfl := K10.out (hall 10 (by decide))
          obtain rfl := K11.out (hall 11 (by decide))
          obtain rfl := K12.out (hall 12 (by decide))
          obtain rfl := K13.out (hall 13 (by decide))
          obtain rfl := K14.out (hall 14 (by decide))
          obtain rfl := K15.out (hall 15 (by decide))
          obtain rfl := K16.out (hall 16 (by decide))
          obtain ⟨rfl, _⟩ := K17.out (hall 17 (by decide))
          obtain ⟨vn, sln, kvn, rfl, hWn0, hFn, _, _⟩ := K18.out (hall 18 (by decide))
          obtain rfl := K19.out (hall 19 (by decide))
          clear hall K0 K1 K2 K3 K4 K5 K6 K7 K8 K9 K10 K11 K12 K13 K14 K15 K16 K17 K18 K19
          have hKn0 := Has.but hKq.out hFn.but hkn.out
          have hkc := hKn0.cell
          have hkf := hKn0.frozen
          refine wpOp_step rfl (fun K0 hK0 => ?_)
          go_simp
          refine hK0 _ _ ?_
          clear hK0
          have hz5 : wr.heap.size ≤ wx.heap.size := hFn.but.size
          have hfn := Lib.hid (show ∀ q, vn.ownBlock = some q → B ≤ q ∧ q ≠ kb from fun q hq => ⟨(own_far hWn0.wv hq).1, fun e => by
            rcases hFn.new q hq with e2 | e2
            · exact (hfh.out q e2).2 e
            · have e3 : wr.heap.size ≤ q := e2
              omega⟩)
          have hFw := Lib.hid (hFh.out.trans hFn)
          have hKn := Lib.hid (hKn0.put 1 (.int .i64 (Q.2 : Nat)))
          have hP5 : KeptBut wx (wx.setCell ⟨kb, 1, none⟩ (.int .i64 (Q.2 : Nat))) (fun i => i = kb) := KeptBut.put (S := fun i => i = kb) (p := ⟨kb, 1, none⟩) (KeptBut.refl wx (fun i => i = kb)) (fun _ => rfl) (.int .i64 (Q.2 : Nat))
          have hPn := Lib.hid (hWn0.other hL hP5 hbq (fun q hq => (hfn.out q hq).2))
          have hFs := Lib.hid (show Pf w (wx.setCell ⟨kb, 1, none⟩ (.int .i64 (Q.2 : Nat))) G Kb v vn from ⟨hFw.out.but.trans (hP5.mono (T := fun i => i = kb) (fun i _ e => e)) (fun i hi e => by omega), hFw.out.new⟩)
          have hzs := hP5.size
          clear hWn0 hFn hKn0 hP5 hkc hkf hB
          go_wp2_with fail
          exact ⟨⟨vn, sln, kvn, hFs.out, by omega, hfn.out, .inr (.inr (.inl ⟨rfl, hPn.out, hKn.out⟩))⟩, by simp [intOf]⟩
      · have hPk := Lib.hid hWv
        have hKq := Lib.hid hKb
        have hGr := hWv.wv.has.lt
        have hBr : Bl ≤ wr.heap.size := Nat.le_trans hL.bb hWv.wv.le
        have hOk2 := Lib.hid (fun (wx : World) (hx : Below wr.heap.size wr wx) => (show Below wr.heap.size wr wx ∧ wx.cell? ⟨G, 0, none⟩ = some (.slice (some ⟨g1, o1, none⟩) n c1) ∧ wx.cell? ⟨G, 1, none⟩ = some (.slice (some ⟨g2, o2, none⟩) m c2) from ⟨hx, (hx.cell (p := ⟨G, 0, none⟩) (by exact hGr)).trans ((hPk.out.wv.has.cell 0).trans rfl), (hx.cell (p := ⟨G, 1, none⟩) (by exact hGr)).trans ((hPk.out.wv.has.cell 1).trans rfl)⟩))
        have cAx := Lib.hid (fun (wx : World) (hx : Below wr.heap.size wr wx) => cA2.out wx (((hPk.out.below hL hx).l1).more (Nat.le_trans hBr hx.size)))
        have cBx := Lib.hid (fun (wx : World) (hx : Below wr.heap.size wr wx) => cB2.out wx (((hPk.out.below hL hx).l2).more (Nat.le_trans hBr hx.size)))
        have hkn := Lib.hid (show ¬ (kb = G ∨ kb = Kb ∨ vk.ownBlock = some kb) from fun e => by
          rcases e with e | e | e
          · have := hL.gb; omega
          · have := hL.kb; omega
          · exact (hfh.out _ e).2 rfl)
        generalize kf d i u 2 = k1 at *
        generalize kf e j u 2 = k2 at *
        clear hWv hKb
        go_wp2_with fail
        refine wp_region_any (by kernel_rfl) ?_
        change wpAny _ _ _ _ _ _ _ (World.drew _)
        refine wpAny_last (n := 20) (I := fun listed aq wx => listed.size = 21 ∧ ∃ v53 v54 v55 v56 v57 v58 v59 v60 v61 v62 v63 v64 v65 v66 v67 v68 v69 v70 v71 v72 : Value, aq = { tmps := #[.pointer (some ⟨G, 0, none⟩), .int .i64 ↑i, .int .i64 ↑j, undef, undef, undef, .int .i64 0, .int .i64 ↑u, .pointer (some ⟨kb, 0, none⟩), .int .i64 2, .pointer (some ⟨G, 0, none⟩), .pointer (some ⟨G, 0, none⟩), .pointer (some ⟨G, 0, none⟩), .slice (some ⟨g1, o1, none⟩) n c1, .int .i64 ↑i, .pointer (some ⟨g1, o1 + i * 5, none⟩), .agg #[.int .i64 a.v, .int .i64 a.n, .int .i64 a.a, .int .i64 a.b, .int .i64 a.c], .int .i64 ↑p, .pointer (some ⟨G, 0, none⟩), .pointer (some ⟨G, 0, none⟩), .pointer (some ⟨G, 1, none⟩), .slice (some ⟨g2, o2, none⟩) m c2, .int .i64 ↑j, .pointer (some ⟨g2, o2 + j * 5, none⟩), .agg #[.int .i64 b.v, .int .i64 b.n, .int .i64 b.a, .int .i64 b.b, .int .i64 b.c], .int .i64 ↑z, .int .i64 ↑u, .int .i64 ↑u, .bool false, undef, undef, undef, undef, undef, undef, undef, undef, undef, undef, undef, undef, undef, undef, undef, undef, undef, undef, undef, undef, undef, .int .i64 2, .bool true, .int .i64 2, v53, v54, v55, v56, v57, v58, v59, v60, v61, v62, v63, v64, v65, v66, v67, v68, v69, v70, v71, v72, u73, undef, undef, undef, undef, undef, undef], defers := [] } ∧ (listed.getD 0 false = true → v53 = .int .i64 2) ∧ (listed.getD 1 false = true → v54 = .pointer (some ⟨G, 0, none⟩)) ∧ (listed.getD 2 false = true → v55 = .pointer (some ⟨G, 0, none⟩)) ∧ (listed.getD 3 false = true → v56 = .pointer (some ⟨G, 0, none⟩)) ∧ (listed.getD 4 false = true → v57 = .pointer (some ⟨G, 0, none⟩)) ∧ (listed.getD 5 false = true → v58 = .slice (some ⟨g1, o1, none⟩) n c1) ∧ (listed.getD 6 false = true → v59 = .int .i64 ↑i) ∧ (listed.getD 7 false = true → v60 = .int .i64 ↑u) ∧ (listed.getD 8 false = true → v61 = .int .i64 2) ∧ (listed.getD 9 false = true → (v62 = .int .i64 (k1 : Nat) ∧ listed.getD 5 false = true)) ∧ (listed.getD 10 false = true → v63 = .pointer (some ⟨G, 0, none⟩)) ∧ (listed.getD 11 false = true → v64 = .pointer (some ⟨G, 0, none⟩)) ∧ (listed.getD 12 false = true → v65 = .pointer (some ⟨G, 1, none⟩)) ∧ (listed.getD 13 false = true → v66 = .slice (some ⟨g2, o2, none⟩) m c2) ∧ (listed.getD 14 false = true → v67 = .int .i64 ↑j) ∧ (listed.getD 15 false = true → v68 = .int .i64 ↑u) ∧ (listed.getD 16 false = true → v69 = .int .i64 2) ∧ (listed.getD 17 false = true → (v70 = .int .i64 (k2 : Nat) ∧ listed.getD 13 false = true)) ∧ (listed.getD 18 false = true → (∃ vn sln kvn, v71 = .int .i64 (R.2 : Nat) ∧ PW wx B G Kb Bl (some ⟨g1, o1, none⟩) (some ⟨g2, o2, none⟩) n m c1 c2 d e vn sln R.1 kvn ∧ Pf wr wx G Kb vk vn ∧ listed.getD 9 false = true ∧ listed.getD 17 false = true)) ∧ (listed.getD 19 false = true → v72 = .pointer (some ⟨kb, 2, none⟩)) ∧ (listed.getD 18 false = false → Below wr.heap.size wr wx)) rfl (by kernel_rfl) (by kernel_rfl) ?hs ?hl _ _ _ ?st rfl (by decide) _ (by decide)
        case st =>
          refine ⟨rfl, u53, u54, u55, u56, u57, u58, u59, u60, u61, u62, u63, u64, u65, u66, u67, u68, u69, u70, u71, u72, rfl, ?_, ?_, ?_, ?_, ?_, ?_, ?_, ?_, ?_, ?_, ?_, ?_, ?_, ?_, ?_, ?_, ?_, ?_, ?_, ?_, fun _ => (Below.refl _ _).drew⟩ <;> (intro e; exact absurd e (by decide))
        case hs =>
          rintro listed aq wx ⟨hz, v53, v54, v55, v56, v57, v58, v59, v60, v61, v62, v63, v64, v65, v66, v67, v68, v69, v70, v71, v72, rfl, hII⟩ i hin hi
          obtain ⟨h0, o, ho, hd⟩ := mem_ready.1 hi
          have K0 := Lib.hid hII.1
          have K1 := Lib.hid hII.2.1
          have K2 := Lib.hid hII.2.2.1
          have K3 := Lib.hid hII.2.2.2.1
          have K4 := Lib.hid hII.2.2.2.2.1
          have K5 := Lib.hid hII.2.2.2.2.2.1
          have K6 := Lib.hid hII.2.2.2.2.2.2.1
          have K7 := Lib.hid hII.2.2.2.2.2.2.2.1
          have K8 := Lib.hid hII.2.2.2.2.2.2.2.2.1
          have K9 := Lib.hid hII.2.2.2.2.2.2.2.2.2.1
          have K10 := Lib.hid hII.2.2.2.2.2.2.2.2.2.2.1
          have K11 := Lib.hid hII.2.2.2.2.2.2.2.2.2.2.2.1
          have K12 := Lib.hid hII.2.2.2.2.2.2.2.2.2.2.2.2.1
          have K13 := Lib.hid hII.2.2.2.2.2.2.2.2.2.2.2.2.2.1
          have K14 := Lib.hid hII.2.2.2.2.2.2.2.2.2.2.2.2.2.2.1
          have K15 := Lib.hid hII.2.2.2.2.2.2.2.2.2.2.2.2.2.2.2.1
          have K16 := Lib.hid hII.2.2.2.2.2.2.2.2.2.2.2.2.2.2.2.2.1
          have K17 := Lib.hid hII.2.2.2.2.2.2.2.2.2.2.2.2.2.2.2.2.2.1
          have K18 := Lib.hid hII.2.2.2.2.2.2.2.2.2.2.2.2.2.2.2.2.2.2.1
          have K19 := Lib.hid hII.2.2.2.2.2.2.2.2.2.2.2.2.2.2.2.2.2.2.2.1
          have hB : (listed.getD 18 false = false → Below wr.heap.size wr wx) := hII.2.2.2.2.2.2.2.2.2.2.2.2.2.2.2.2.2.2.2.2
          have hne := Lib.hid (fun k (hk : i ≠ k) => @listed_ne listed i k hk)
          have h0f : listed.getD i false = false := by rw [Array.getD_eq_getD_getElem?, getD_false h0]; rfl
          clear hII hi h0
          rcases (by omega : i = 0 ∨ i = 1 ∨ i = 2 ∨ i = 3 ∨ i = 4 ∨ i = 5 ∨ i = 6 ∨ i = 7 ∨ i = 8 ∨ i = 9 ∨ i = 10 ∨ i = 11 ∨ i = 12 ∨ i = 13 ∨ i = 14 ∨ i = 15 ∨ i = 16 ∨ i = 17 ∨ i = 18 ∨ i = 19) with rfl | rfl | rfl | rfl | rfl | rfl | rfl | rfl | rfl | rfl | rfl | rfl | rfl | rfl | rfl | rfl | rfl | rfl | rfl | rfl
          · cases ho
            refine wpOp_step rfl (fun K hK => ?_)
            go_simp
            refine hK _ _ ⟨by simpa using hz, .int .i64 2, v54, v55, v56, v57, v58, v59, v60, v61, v62, v63, v64, v65, v66, v67, v68, v69, v70, v71, v72, rfl, ?_⟩
            exact ⟨fun _ => rfl, fun e => K1.out (hne.out 1 (by decide) e), fun e => K2.out (hne.out 2 (by decide) e), fun e => K3.out (hne.out 3 (by decide) e), fun e => K4.out (hne.out 4 (by decide) e), fun e => K5.out (hne.out 5 (by decide) e), fun e => K6.out (hne.out 6 (by decide) e), fun e => K7.out (hne.out 7 (by decide) e), fun e => K8.out (hne.out 8 (by decide) e), fun e => (by obtain ⟨y1, y2⟩ := K9.out (hne.out 9 (by decide) e); exact ⟨y1, listed_up y2⟩), fun e => K10.out (hne.out 10 (by decide) e), fun e => K11.out (hne.out 11 (by decide) e), fun e => K12.out (hne.out 12 (by decide) e), fun e => K13.out (hne.out 13 (by decide) e), fun e => K14.out (hne.out 14 (by decide) e), fun e => K15.out (hne.out 15 (by decide) e), fun e => K16.out (hne.out 16 (by decide) e), fun e => (by obtain ⟨y1, y2⟩ := K17.out (hne.out 17 (by decide) e); exact ⟨y1, listed_up y2⟩), fun e => (by obtain ⟨y1, y2, y3, y4, y5, y6, y7, y8⟩ := K18.out (hne.out 18 (by decide) e); exact ⟨y1, y2, y3, y4, y5, y6, listed_up y7, listed_up y8⟩), fun e => K19.out (hne.out 19 (by decide) e), fun e => hB (listed_no (by decide) e)⟩
          · cases ho
            refine wpOp_step rfl (fun K hK => ?_)
            go_simp
            refine hK _ _ ⟨by simpa using hz, v53, .pointer (some ⟨G, 0, none⟩), v55, v56, v57, v58, v59, v60, v61, v62, v63, v64, v65, v66, v67, v68, v69, v70, v71, v72, rfl, ?_⟩
            exact ⟨fun e => K0.out (hne.out 0 (by decide) e), fun _ => rfl, fun e => K2.out (hne.out 2 (by decide) e), fun e => K3.out (hne.out 3 (by decide) e), fun e => K4.out (hne.out 4 (by decide) e), fun e => K5.out (hne.out 5 (by decide) e), fun e => K6.out (hne.out 6 (by decide) e), fun e => K7.out (hne.out 7 (by decide) e), fun e => K8.out (hne.out 8 (by decide) e), fun e => (by obtain ⟨y1, y2⟩ := K9.out (hne.out 9 (by decide) e); exact ⟨y1, listed_up y2⟩), fun e => K10.out (hne.out 10 (by decide) e), fun e => K11.out (hne.out 11 (by decide) e), fun e => K12.out (hne.out 12 (by decide) e), fun e => K13.out (hne.out 13 (by decide) e), fun e => K14.out (hne.out 14 (by decide) e), fun e => K15.out (hne.out 15 (by decide) e), fun e => K16.out (hne.out 16 (by decide) e), fun e => (by obtain ⟨y1, y2⟩ := K17.out (hne.out 17 (by decide) e); exact ⟨y1, listed_up y2⟩), fun e => (by obtain ⟨y1, y2, y3, y4, y5, y6, y7, y8⟩ := K18.out (hne.out 18 (by decide) e); exact ⟨y1, y2, y3, y4, y5, y6, listed_up y7, listed_up y8⟩), fun e => K19.out (hne.out 19 (by decide) e), fun e => hB (listed_no (by decide) e)⟩
          · cases ho
            refine wpOp_step rfl (fun K hK => ?_)
            go_simp
            refine hK _ _ ⟨by simpa using hz, v53, v54, .pointer (some ⟨G, 0, none⟩), v56, v57, v58, v59, v60, v61, v62, v63, v64, v65, v66, v67, v68, v69, v70, v71, v72, rfl, ?_⟩
            exact ⟨fun e => K0.out (hne.out 0 (by decide) e), fun e => K1.out (hne.out 1 (by decide) e), fun _ => rfl, fun e => K3.out (hne.out 3 (by decide) e), fun e => K4.out (hne.out 4 (by decide) e), fun e => K5.out (hne.out 5 (by decide) e), fun e => K6.out (hne.out 6 (by decide) e), fun e => K7.out (hne.out 7 (by decide) e), fun e => K8.out (hne.out 8 (by decide) e), fun e => (by obtain ⟨y1, y2⟩ := K9.out (hne.out 9 (by decide) e); exact ⟨y1, listed_up y2⟩), fun e => K10.out (hne.out 10 (by decide) e), fun e => K11.out (hne.out 11 (by decide) e), fun e => K12.out (hne.out 12 (by decide) e), fun e => K13.out (hne.out 13 (by decide) e), fun e => K14.out (hne.out 14 (by decide) e), fun e => K15.out (hne.out 15 (by decide) e), fun e => K16.out (hne.out 16 (by decide) e), fun e => (by obtain ⟨y1, y2⟩ := K17.out (hne.out 17 (by decide) e); exact ⟨y1, listed_up y2⟩), fun e => (by obtain ⟨y1, y2, y3, y4, y5, y6, y7, y8⟩ := K18.out (hne.out 18 (by decide) e); exact ⟨y1, y2, y3, y4, y5, y6, listed_up y7, listed_up y8⟩), fun e => K19.out (hne.out 19 (by decide) e), fun e => hB (listed_no (by decide) e)⟩
          · cases ho
            have d2 := hd ⟨2, .data⟩ (by simp) rfl
            obtain rfl := K2.out d2
            refine wpOp_step rfl (fun K hK => ?_)
            go_simp
            refine hK _ _ ⟨by simpa using hz, v53, v54, .pointer (some ⟨G, 0, none⟩), .pointer (some ⟨G, 0, none⟩), v57, v58, v59, v60, v61, v62, v63, v64, v65, v66, v67, v68, v69, v70, v71, v72, rfl, ?_⟩
            exact ⟨fun e => K0.out (hne.out 0 (by decide) e), fun e => K1.out (hne.out 1 (by decide) e), fun e => K2.out (hne.out 2 (by decide) e), fun _ => rfl, fun e => K4.out (hne.out 4 (by decide) e), fun e => K5.out (hne.out 5 (by decide) e), fun e => K6.out (hne.out 6 (by decide) e), fun e => K7.out (hne.out 7 (by decide) e), fun e => K8.out (hne.out 8 (by decide) e), fun e => (by obtain ⟨y1, y2⟩ := K9.out (hne.out 9 (by decide) e); exact ⟨y1, listed_up y2⟩), fun e => K10.out (hne.out 10 (by decide) e), fun e => K11.out (hne.out 11 (by decide) e), fun e => K12.out (hne.out 12 (by decide) e), fun e => K13.out (hne.out 13 (by decide) e), fun e => K14.out (hne.out 14 (by decide) e), fun e => K15.out (hne.out 15 (by decide) e), fun e => K16.out (hne.out 16 (by decide) e), fun e => (by obtain ⟨y1, y2⟩ := K17.out (hne.out 17 (by decide) e); exact ⟨y1, listed_up y2⟩), fun e => (by obtain ⟨y1, y2, y3, y4, y5, y6, y7, y8⟩ := K18.out (hne.out 18 (by decide) e); exact ⟨y1, y2, y3, y4, y5, y6, listed_up y7, listed_up y8⟩), fun e => K19.out (hne.out 19 (by decide) e), fun e => hB (listed_no (by decide) e)⟩
          · cases ho
            have d3 := hd ⟨3, .data⟩ (by simp) rfl
            obtain rfl := K3.out d3
            refine wpOp_step rfl (fun K hK => ?_)
            go_simp
            refine hK _ _ ⟨by simpa using hz, v53, v54, v55, .pointer (some ⟨G, 0, none⟩), .pointer (some ⟨G, 0, none⟩), v58, v59, v60, v61, v62, v63, v64, v65, v66, v67, v68, v69, v70, v71, v72, rfl, ?_⟩
            exact ⟨fun e => K0.out (hne.out 0 (by decide) e), fun e => K1.out (hne.out 1 (by decide) e), fun e => K2.out (hne.out 2 (by decide) e), fun e => K3.out (hne.out 3 (by decide) e), fun _ => rfl, fun e => K5.out (hne.out 5 (by decide) e), fun e => K6.out (hne.out 6 (by decide) e), fun e => K7.out (hne.out 7 (by decide) e), fun e => K8.out (hne.out 8 (by decide) e), fun e => (by obtain ⟨y1, y2⟩ := K9.out (hne.out 9 (by decide) e); exact ⟨y1, listed_up y2⟩), fun e => K10.out (hne.out 10 (by decide) e), fun e => K11.out (hne.out 11 (by decide) e), fun e => K12.out (hne.out 12 (by decide) e), fun e => K13.out (hne.out 13 (by decide) e), fun e => K14.out (hne.out 14 (by decide) e), fun e => K15.out (hne.out 15 (by decide) e), fun e => K16.out (hne.out 16 (by decide) e), fun e => (by obtain ⟨y1, y2⟩ := K17.out (hne.out 17 (by decide) e); exact ⟨y1, listed_up y2⟩), fun e => (by obtain ⟨y1, y2, y3, y4, y5, y6, y7, y8⟩ := K18.out (hne.out 18 (by decide) e); exact ⟨y1, y2, y3, y4, y5, y6, listed_up y7, listed_up y8⟩), fun e => K19.out (hne.out 19 (by decide) e), fun e => hB (listed_no (by decide) e)⟩
          · cases ho
            have d4 := hd ⟨4, .data⟩ (by simp) rfl
            obtain rfl := K4.out d4
            have h18 : listed.getD 18 false = false := by
              cases hq : listed.getD 18 false
              · rfl
              · obtain ⟨_, _, _, _, _, _, q9, q17⟩ := K18.out hq
                have := (K9.out q9).2
                rw [h0f] at this
                cases this
            have hbx := hB h18
            obtain ⟨_, e0, e1⟩ := hOk2.out wx hbx
            refine wpOp_step rfl (fun K hK => ?_)
            go_simp
            refine hK _ _ ⟨by simpa using hz, v53, v54, v55, v56, .pointer (some ⟨G, 0, none⟩), .slice (some ⟨g1, o1, none⟩) n c1, v59, v60, v61, v62, v63, v64, v65, v66, v67, v68, v69, v70, v71, v72, rfl, ?_⟩
            exact ⟨fun e => K0.out (hne.out 0 (by decide) e), fun e => K1.out (hne.out 1 (by decide) e), fun e => K2.out (hne.out 2 (by decide) e), fun e => K3.out (hne.out 3 (by decide) e), fun e => K4.out (hne.out 4 (by decide) e), fun _ => rfl, fun e => K6.out (hne.out 6 (by decide) e), fun e => K7.out (hne.out 7 (by decide) e), fun e => K8.out (hne.out 8 (by decide) e), fun e => (by obtain ⟨y1, y2⟩ := K9.out (hne.out 9 (by decide) e); exact ⟨y1, listed_up y2⟩), fun e => K10.out (hne.out 10 (by decide) e), fun e => K11.out (hne.out 11 (by decide) e), fun e => K12.out (hne.out 12 (by decide) e), fun e => K13.out (hne.out 13 (by decide) e), fun e => K14.out (hne.out 14 (by decide) e), fun e => K15.out (hne.out 15 (by decide) e), fun e => K16.out (hne.out 16 (by decide) e), fun e => (by obtain ⟨y1, y2⟩ := K17.out (hne.out 17 (by decide) e); exact ⟨y1, listed_up y2⟩), fun e => (by obtain ⟨y1, y2, y3, y4, y5, y6, y7, y8⟩ := K18.out (hne.out 18 (by decide) e); exact ⟨y1, y2, y3, y4, y5, y6, listed_up y7, listed_up y8⟩), fun e => K19.out (hne.out 19 (by decide) e), fun e => hB (listed_no (by decide) e)⟩
          · cases ho
            refine wpOp_step rfl (fun K hK => ?_)
            go_simp
            refine hK _ _ ⟨by simpa using hz, v53, v54, v55, v56, v57, v58, .int .i64 ↑i, v60, v61, v62, v63, v64, v65, v66, v67, v68, v69, v70, v71, v72, rfl, ?_⟩
            exact ⟨fun e => K0.out (hne.out 0 (by decide) e), fun e => K1.out (hne.out 1 (by decide) e), fun e => K2.out (hne.out 2 (by decide) e), fun e => K3.out (hne.out 3 (by decide) e), fun e => K4.out (hne.out 4 (by decide) e), fun e => K5.out (hne.out 5 (by decide) e), fun _ => rfl, fun e => K7.out (hne.out 7 (by decide) e), fun e => K8.out (hne.out 8 (by decide) e), fun e => (by obtain ⟨y1, y2⟩ := K9.out (hne.out 9 (by decide) e); exact ⟨y1, listed_up y2⟩), fun e => K10.out (hne.out 10 (by decide) e), fun e => K11.out (hne.out 11 (by decide) e), fun e => K12.out (hne.out 12 (by decide) e), fun e => K13.out (hne.out 13 (by decide) e), fun e => K14.out (hne.out 14 (by decide) e), fun e => K15.out (hne.out 15 (by decide) e), fun e => K16.out (hne.out 16 (by decide) e), fun e => (by obtain ⟨y1, y2⟩ := K17.out (hne.out 17 (by decide) e); exact ⟨y1, listed_up y2⟩), fun e => (by obtain ⟨y1, y2, y3, y4, y5, y6, y7, y8⟩ := K18.out (hne.out 18 (by decide) e); exact ⟨y1, y2, y3, y4, y5, y6, listed_up y7, listed_up y8⟩), fun e => K19.out (hne.out 19 (by decide) e), fun e => hB (listed_no (by decide) e)⟩
          · cases ho
            refine wpOp_step rfl (fun K hK => ?_)
            go_simp
            refine hK _ _ ⟨by simpa using hz, v53, v54, v55, v56, v57, v58, v59, .int .i64 ↑u, v61, v62, v63, v64, v65, v66, v67, v68, v69, v70, v71, v72, rfl, ?_⟩
            exact ⟨fun e => K0.out (hne.out 0 (by decide) e), fun e => K1.out (hne.out 1 (by decide) e), fun e => K2.out (hne.out 2 (by decide) e), fun e => K3.out (hne.out 3 (by decide) e), fun e => K4.out (hne.out 4 (by decide) e), fun e => K5.out (hne.out 5 (by decide) e), fun e => K6.out (hne.out 6 (by decide) e), fun _ => rfl, fun e => K8.out (hne.out 8 (by decide) e), fun e => (by obtain ⟨y1, y2⟩ := K9.out (hne.out 9 (by decide) e); exact ⟨y1, listed_up y2⟩), fun e => K10.out (hne.out 10 (by decide) e), fun e => K11.out (hne.out 11 (by decide) e), fun e => K12.out (hne.out 12 (by decide) e), fun e => K13.out (hne.out 13 (by decide) e), fun e => K14.out (hne.out 14 (by decide) e), fun e => K15.out (hne.out 15 (by decide) e), fun e => K16.out (hne.out 16 (by decide) e), fun e => (by obtain ⟨y1, y2⟩ := K17.out (hne.out 17 (by decide) e); exact ⟨y1, listed_up y2⟩), fun e => (by obtain ⟨y1, y2, y3, y4, y5, y6, y7, y8⟩ := K18.out (hne.out 18 (by decide) e); exact ⟨y1, y2, y3, y4, y5, y6, listed_up y7, listed_up y8⟩), fun e => K19.out (hne.out 19 (by decide) e), fun e => hB (listed_no (by decide) e)⟩
          · cases ho
            refine wpOp_step rfl (fun K hK => ?_)
            go_simp
            refine hK _ _ ⟨by simpa using hz, v53, v54, v55, v56, v57, v58, v59, v60, .int .i64 2, v62, v63, v64, v65, v66, v67, v68, v69, v70, v71, v72, rfl, ?_⟩
            exact ⟨fun e => K0.out (hne.out 0 (by decide) e), fun e => K1.out (hne.out 1 (by decide) e), fun e => K2.out (hne.out 2 (by decide) e), fun e => K3.out (hne.out 3 (by decide) e), fun e => K4.out (hne.out 4 (by decide) e), fun e => K5.out (hne.out 5 (by decide) e), fun e => K6.out (hne.out 6 (by decide) e), fun e => K7.out (hne.out 7 (by decide) e), fun _ => rfl, fun e => (by obtain ⟨y1, y2⟩ := K9.out (hne.out 9 (by decide) e); exact ⟨y1, listed_up y2⟩), fun e => K10.out (hne.out 10 (by decide) e), fun e => K11.out (hne.out 11 (by decide) e), fun e => K12.out (hne.out 12 (by decide) e), fun e => K13.out (hne.out 13 (by decide) e), fun e => K14.out (hne.out 14 (by decide) e), fun e => K15.out (hne.out 15 (by decide) e), fun e => K16.out (hne.out 16 (by decide) e), fun e => (by obtain ⟨y1, y2⟩ := K17.out (hne.out 17 (by decide) e); exact ⟨y1, listed_up y2⟩), fun e => (by obtain ⟨y1, y2, y3, y4, y5, y6, y7, y8⟩ := K18.out (hne.out 18 (by decide) e); exact ⟨y1, y2, y3, y4, y5, y6, listed_up y7, listed_up y8⟩), fun e => K19.out (hne.out 19 (by decide) e), fun e => hB (listed_no (by decide) e)⟩
          · cases ho
            have d5 := hd ⟨5, .data⟩ (by simp) rfl
            have d6 := hd ⟨6, .data⟩ (by simp) rfl
            have d7 := hd ⟨7, .data⟩ (by simp) rfl
            have d8 := hd ⟨8, .data⟩ (by simp) rfl
            obtain rfl := K5.out d5
            obtain rfl := K6.out d6
            obtain rfl := K7.out d7
            obtain rfl := K8.out d8
            have h18 : listed.getD 18 false = false := by
              cases hq : listed.getD 18 false
              · rfl
              · obtain ⟨_, _, _, _, _, _, q9, q17⟩ := K18.out hq
                rw [h0f] at q9
                cases q9
            have hbx := hB h18
            refine wpOp_step rfl (fun K hK => ?_)
            go_simp
            go_at_call 168
            refine (cAx.out wx hbx).mono ?_
            rintro ee w3 ⟨rfl, rfl⟩
            refine hK _ _ ⟨by simpa using hz, v53, v54, v55, v56, v57, .slice (some ⟨g1, o1, none⟩) n c1, .int .i64 ↑i, .int .i64 ↑u, .int .i64 2, .int .i64 (k1 : Nat), v63, v64, v65, v66, v67, v68, v69, v70, v71, v72, rfl, ?_⟩
            exact ⟨fun e => K0.out (hne.out 0 (by decide) e), fun e => K1.out (hne.out 1 (by decide) e), fun e => K2.out (hne.out 2 (by decide) e), fun e => K3.out (hne.out 3 (by decide) e), fun e => K4.out (hne.out 4 (by decide) e), fun e => K5.out (hne.out 5 (by decide) e), fun e => K6.out (hne.out 6 (by decide) e), fun e => K7.out (hne.out 7 (by decide) e), fun e => K8.out (hne.out 8 (by decide) e), fun _ => ⟨rfl, listed_up d5⟩, fun e => K10.out (hne.out 10 (by decide) e), fun e => K11.out (hne.out 11 (by decide) e), fun e => K12.out (hne.out 12 (by decide) e), fun e => K13.out (hne.out 13 (by decide) e), fun e => K14.out (hne.out 14 (by decide) e), fun e => K15.out (hne.out 15 (by decide) e), fun e => K16.out (hne.out 16 (by decide) e), fun e => (by obtain ⟨y1, y2⟩ := K17.out (hne.out 17 (by decide) e); exact ⟨y1, listed_up y2⟩), fun e => (by obtain ⟨y1, y2, y3, y4, y5, y6, y7, y8⟩ := K18.out (hne.out 18 (by decide) e); exact ⟨y1, y2, y3, y4, y5, y6, listed_up y7, listed_up y8⟩), fun e => K19.out (hne.out 19 (by decide) e), fun e => hB (listed_no (by decide) e)⟩
          · cases ho
            refine wpOp_step rfl (fun K hK => ?_)
            go_simp
            refine hK _ _ ⟨by simpa using hz, v53, v54, v55, v56, v57, v58, v59, v60, v61, v62, .pointer (some ⟨G, 0, none⟩), v64, v65, v66, v67, v68, v69, v70, v71, v72, rfl, ?_⟩
            exact ⟨fun e => K0.out (hne.out 0 (by decide) e), fun e => K1.out (hne.out 1 (by decide) e), fun e => K2.out (hne.out 2 (by decide) e), fun e => K3.out (hne.out 3 (by decide) e), fun e => K4.out (hne.out 4 (by decide) e), fun e => K5.out (hne.out 5 (by decide) e), fun e => K6.out (hne.out 6 (by decide) e), fun e => K7.out (hne.out 7 (by decide) e), fun e => K8.out (hne.out 8 (by decide) e), fun e => (by obtain ⟨y1, y2⟩ := K9.out (hne.out 9 (by decide) e); exact ⟨y1, listed_up y2⟩), fun _ => rfl, fun e => K11.out (hne.out 11 (by decide) e), fun e => K12.out (hne.out 12 (by decide) e), fun e => K13.out (hne.out 13 (by decide) e), fun e => K14.out (hne.out 14 (by decide) e), fun e => K15.out (hne.out 15 (by decide) e), fun e => K16.out (hne.out 16 (by decide) e), fun e => (by obtain ⟨y1, y2⟩ := K17.out (hne.out 17 (by decide) e); exact ⟨y1, listed_up y2⟩), fun e => (by obtain ⟨y1, y2, y3, y4, y5, y6, y7, y8⟩ := K18.out (hne.out 18 (by decide) e); exact ⟨y1, y2, y3, y4, y5, y6, listed_up y7, listed_up y8⟩), fun e => K19.out (hne.out 19 (by decide) e), fun e => hB (listed_no (by decide) e)⟩
          · cases ho
            have d10 := hd ⟨10, .data⟩ (by simp) rfl
            obtain rfl := K10.out d10
            refine wpOp_step rfl (fun K hK => ?_)
            go_simp
            refine hK _ _ ⟨by simpa using hz, v53, v54, v55, v56, v57, v58, v59, v60, v61, v62, .pointer (some ⟨G, 0, none⟩), .pointer (some ⟨G, 0, none⟩), v65, v66, v67, v68, v69, v70, v71, v72, rfl, ?_⟩
            exact ⟨fun e => K0.out (hne.out 0 (by decide) e), fun e => K1.out (hne.out 1 (by decide) e), fun e => K2.out (hne.out 2 (by decide) e), fun e => K3.out (hne.out 3 (by decide) e), fun e => K4.out (hne.out 4 (by decide) e), fun e => K5.out (hne.out 5 (by decide) e), fun e => K6.out (hne.out 6 (by decide) e), fun e => K7.out (hne.out 7 (by decide) e), fun e => K8.out (hne.out 8 (by decide) e), fun e => (by obtain ⟨y1, y2⟩ := K9.out (hne.out 9 (by decide) e); exact ⟨y1, listed_up y2⟩), fun e => K10.out (hne.out 10 (by decide) e), fun _ => rfl, fun e => K12.out (hne.out 12 (by decide) e), fun e => K13.out (hne.out 13 (by decide) e), fun e => K14.out (hne.out 14 (by decide) e), fun e => K15.out (hne.out 15 (by decide) e), fun e => K16.out (hne.out 16 (by decide) e), fun e => (by obtain ⟨y1, y2⟩ := K17.out (hne.out 17 (by decide) e); exact ⟨y1, listed_up y2⟩), fun e => (by obtain ⟨y1, y2, y3, y4, y5, y6, y7, y8⟩ := K18.out (hne.out 18 (by decide) e); exact ⟨y1, y2, y3, y4, y5, y6, listed_up y7, listed_up y8⟩), fun e => K19.out (hne.out 19 (by decide) e), fun e => hB (listed_no (by decide) e)⟩
          · cases ho
            have d11 := hd ⟨11, .data⟩ (by simp) rfl
            obtain rfl := K11.out d11
            refine wpOp_step rfl (fun K hK => ?_)
            go_simp
            refine hK _ _ ⟨by simpa using hz, v53, v54, v55, v56, v57, v58, v59, v60, v61, v62, v63, .pointer (some ⟨G, 0, none⟩), .pointer (some ⟨G, 1, none⟩), v66, v67, v68, v69, v70, v71, v72, rfl, ?_⟩
            exact ⟨fun e => K0.out (hne.out 0 (by decide) e), fun e => K1.out (hne.out 1 (by decide) e), fun e => K2.out (hne.out 2 (by decide) e), fun e => K3.out (hne.out 3 (by decide) e), fun e => K4.out (hne.out 4 (by decide) e), fun e => K5.out (hne.out 5 (by decide) e), fun e => K6.out (hne.out 6 (by decide) e), fun e => K7.out (hne.out 7 (by decide) e), fun e => K8.out (hne.out 8 (by decide) e), fun e => (by obtain ⟨y1, y2⟩ := K9.out (hne.out 9 (by decide) e); exact ⟨y1, listed_up y2⟩), fun e => K10.out (hne.out 10 (by decide) e), fun e => K11.out (hne.out 11 (by decide) e), fun _ => rfl, fun e => K13.out (hne.out 13 (by decide) e), fun e => K14.out (hne.out 14 (by decide) e), fun e => K15.out (hne.out 15 (by decide) e), fun e => K16.out (hne.out 16 (by decide) e), fun e => (by obtain ⟨y1, y2⟩ := K17.out (hne.out 17 (by decide) e); exact ⟨y1, listed_up y2⟩), fun e => (by obtain ⟨y1, y2, y3, y4, y5, y6, y7, y8⟩ := K18.out (hne.out 18 (by decide) e); exact ⟨y1, y2, y3, y4, y5, y6, listed_up y7, listed_up y8⟩), fun e => K19.out (hne.out 19 (by decide) e), fun e => hB (listed_no (by decide) e)⟩
          · cases ho
            have d12 := hd ⟨12, .data⟩ (by simp) rfl
            obtain rfl := K12.out d12
            have h18 : listed.getD 18 false = false := by
              cases hq : listed.getD 18 false
              · rfl
              · obtain ⟨_, _, _, _, _, _, q9, q17⟩ := K18.out hq
                have := (K17.out q17).2
                rw [h0f] at this
                cases this
            have hbx := hB h18
            obtain ⟨_, e0, e1⟩ := hOk2.out wx hbx
            refine wpOp_step rfl (fun K hK => ?_)
            go_simp
            refine hK _ _ ⟨by simpa using hz, v53, v54, v55, v56, v57, v58, v59, v60, v61, v62, v63, v64, .pointer (some ⟨G, 1, none⟩), .slice (some ⟨g2, o2, none⟩) m c2, v67, v68, v69, v70, v71, v72, rfl, ?_⟩
            exact ⟨fun e => K0.out (hne.out 0 (by decide) e), fun e => K1.out (hne.out 1 (by decide) e), fun e => K2.out (hne.out 2 (by decide) e), fun e => K3.out (hne.out 3 (by decide) e), fun e => K4.out (hne.out 4 (by decide) e), fun e => K5.out (hne.out 5 (by decide) e), fun e => K6.out (hne.out 6 (by decide) e), fun e => K7.out (hne.out 7 (by decide) e), fun e => K8.out (hne.out 8 (by decide) e), fun e => (by obtain ⟨y1, y2⟩ := K9.out (hne.out 9 (by decide) e); exact ⟨y1, listed_up y2⟩), fun e => K10.out (hne.out 10 (by decide) e), fun e => K11.out (hne.out 11 (by decide) e), fun e => K12.out (hne.out 12 (by decide) e), fun _ => rfl, fun e => K14.out (hne.out 14 (by decide) e), fun e => K15.out (hne.out 15 (by decide) e), fun e => K16.out (hne.out 16 (by decide) e), fun e => (by obtain ⟨y1, y2⟩ := K17.out (hne.out 17 (by decide) e); exact ⟨y1, listed_up y2⟩), fun e => (by obtain ⟨y1, y2, y3, y4, y5, y6, y7, y8⟩ := K18.out (hne.out 18 (by decide) e); exact ⟨y1, y2, y3, y4, y5, y6, listed_up y7, listed_up y8⟩), fun e => K19.out (hne.out 19 (by decide) e), fun e => hB (listed_no (by decide) e)⟩
          · cases ho
            refine wpOp_step rfl (fun K hK => ?_)
            go_simp
            refine hK _ _ ⟨by simpa using hz, v53, v54, v55, v56, v57, v58, v59, v60, v61, v62, v63, v64, v65, v66, .int .i64 ↑j, v68, v69, v70, v71, v72, rfl, ?_⟩
            exact ⟨fun e => K0.out (hne.out 0 (by decide) e), fun e => K1.out (hne.out 1 (by decide) e), fun e => K2.out (hne.out 2 (by decide) e), fun e => K3.out (hne.out 3 (by decide) e), fun e => K4.out (hne.out 4 (by decide) e), fun e => K5.out (hne.out 5 (by decide) e), fun e => K6.out (hne.out 6 (by decide) e), fun e => K7.out (hne.out 7 (by decide) e), fun e => K8.out (hne.out 8 (by decide) e), fun e => (by obtain ⟨y1, y2⟩ := K9.out (hne.out 9 (by decide) e); exact ⟨y1, listed_up y2⟩), fun e => K10.out (hne.out 10 (by decide) e), fun e => K11.out (hne.out 11 (by decide) e), fun e => K12.out (hne.out 12 (by decide) e), fun e => K13.out (hne.out 13 (by decide) e), fun _ => rfl, fun e => K15.out (hne.out 15 (by decide) e), fun e => K16.out (hne.out 16 (by decide) e), fun e => (by obtain ⟨y1, y2⟩ := K17.out (hne.out 17 (by decide) e); exact ⟨y1, listed_up y2⟩), fun e => (by obtain ⟨y1, y2, y3, y4, y5, y6, y7, y8⟩ := K18.out (hne.out 18 (by decide) e); exact ⟨y1, y2, y3, y4, y5, y6, listed_up y7, listed_up y8⟩), fun e => K19.out (hne.out 19 (by decide) e), fun e => hB (listed_no (by decide) e)⟩
          · cases ho
            refine wpOp_step rfl (fun K hK => ?_)
            go_simp
            refine hK _ _ ⟨by simpa using hz, v53, v54, v55, v56, v57, v58, v59, v60, v61, v62, v63, v64, v65, v66, v67, .int .i64 ↑u, v69, v70, v71, v72, rfl, ?_⟩
            exact ⟨fun e => K0.out (hne.out 0 (by decide) e), fun e => K1.out (hne.out 1 (by decide) e), fun e => K2.out (hne.out 2 (by decide) e), fun e => K3.out (hne.out 3 (by decide) e), fun e => K4.out (hne.out 4 (by decide) e), fun e => K5.out (hne.out 5 (by decide) e), fun e => K6.out (hne.out 6 (by decide) e), fun e => K7.out (hne.out 7 (by decide) e), fun e => K8.out (hne.out 8 (by decide) e), fun e => (by obtain ⟨y1, y2⟩ := K9.out (hne.out 9 (by decide) e); exact ⟨y1, listed_up y2⟩), fun e => K10.out (hne.out 10 (by decide) e), fun e => K11.out (hne.out 11 (by decide) e), fun e => K12.out (hne.out 12 (by decide) e), fun e => K13.out (hne.out 13 (by decide) e), fun e => K14.out (hne.out 14 (by decide) e), fun _ => rfl, fun e => K16.out (hne.out 16 (by decide) e), fun e => (by obtain ⟨y1, y2⟩ := K17.out (hne.out 17 (by decide) e); exact ⟨y1, listed_up y2⟩), fun e => (by obtain ⟨y1, y2, y3, y4, y5, y6, y7, y8⟩ := K18.out (hne.out 18 (by decide) e); exact ⟨y1, y2, y3, y4, y5, y6, listed_up y7, listed_up y8⟩), fun e => K19.out (hne.out 19 (by decide) e), fun e => hB (listed_no (by decide) e)⟩
          · cases ho
            refine wpOp_step rfl (fun K hK => ?_)
            go_simp
            refine hK _ _ ⟨by simpa using hz, v53, v54, v55, v56, v57, v58, v59, v60, v61, v62, v63, v64, v65, v66, v67, v68, .int .i64 2, v70, v71, v72, rfl, ?_⟩
            exact ⟨fun e => K0.out (hne.out 0 (by decide) e), fun e => K1.out (hne.out 1 (by decide) e), fun e => K2.out (hne.out 2 (by decide) e), fun e => K3.out (hne.out 3 (by decide) e), fun e => K4.out (hne.out 4 (by decide) e), fun e => K5.out (hne.out 5 (by decide) e), fun e => K6.out (hne.out 6 (by decide) e), fun e => K7.out (hne.out 7 (by decide) e), fun e => K8.out (hne.out 8 (by decide) e), fun e => (by obtain ⟨y1, y2⟩ := K9.out (hne.out 9 (by decide) e); exact ⟨y1, listed_up y2⟩), fun e => K10.out (hne.out 10 (by decide) e), fun e => K11.out (hne.out 11 (by decide) e), fun e => K12.out (hne.out 12 (by decide) e), fun e => K13.out (hne.out 13 (by decide) e), fun e => K14.out (hne.out 14 (by decide) e), fun e => K15.out (hne.out 15 (by decide) e), fun _ => rfl, fun e => (by obtain ⟨y1, y2⟩ := K17.out (hne.out 17 (by decide) e); exact ⟨y1, listed_up y2⟩), fun e => (by obtain ⟨y1, y2, y3, y4, y5, y6, y7, y8⟩ := K18.out (hne.out 18 (by decide) e); exact ⟨y1, y2, y3, y4, y5, y6, listed_up y7, listed_up y8⟩), fun e => K19.out (hne.out 19 (by decide) e), fun e => hB (listed_no (by decide) e)⟩
          · cases ho
            have d13 := hd ⟨13, .data⟩ (by simp) rfl
            have d14 := hd ⟨14, .data⟩ (by simp) rfl
            have d15 := hd ⟨15, .data⟩ (by simp) rfl
            have d16 := hd ⟨16, .data⟩ (by simp) rfl
            obtain rfl := K13.out d13
            obtain rfl := K14.out d14
            obtain rfl := K15.out d15
            obtain rfl := K16.out d16
            have h18 : listed.getD 18 false = false := by
              cases hq : listed.getD 18 false
              · rfl
              · obtain ⟨_, _, _, _, _, _, q9, q17⟩ := K18.out hq
                rw [h0f] at q17
                cases q17
            have hbx := hB h18
            refine wpOp_step rfl (fun K hK => ?_)
            go_simp
            go_at_call 168
            refine (cBx.out wx hbx).mono ?_
            rintro ee w3 ⟨rfl, rfl⟩
            refine hK _ _ ⟨by simpa using hz, v53, v54, v55, v56, v57, v58, v59, v60, v61, v62, v63, v64, v65, .slice (some ⟨g2, o2, none⟩) m c2, .int .i64 ↑j, .int .i64 ↑u, .int .i64 2, .int .i64 (k2 : Nat), v71, v72, rfl, ?_⟩
            exact ⟨fun e => K0.out (hne.out 0 (by decide) e), fun e => K1.out (hne.out 1 (by decide) e), fun e => K2.out (hne.out 2 (by decide) e), fun e => K3.out (hne.out 3 (by decide) e), fun e => K4.out (hne.out 4 (by decide) e), fun e => K5.out (hne.out 5 (by decide) e), fun e => K6.out (hne.out 6 (by decide) e), fun e => K7.out (hne.out 7 (by decide) e), fun e => K8.out (hne.out 8 (by decide) e), fun e => (by obtain ⟨y1, y2⟩ := K9.out (hne.out 9 (by decide) e); exact ⟨y1, listed_up y2⟩), fun e => K10.out (hne.out 10 (by decide) e), fun e => K11.out (hne.out 11 (by decide) e), fun e => K12.out (hne.out 12 (by decide) e), fun e => K13.out (hne.out 13 (by decide) e), fun e => K14.out (hne.out 14 (by decide) e), fun e => K15.out (hne.out 15 (by decide) e), fun e => K16.out (hne.out 16 (by decide) e), fun _ => ⟨rfl, listed_up d13⟩, fun e => (by obtain ⟨y1, y2, y3, y4, y5, y6, y7, y8⟩ := K18.out (hne.out 18 (by decide) e); exact ⟨y1, y2, y3, y4, y5, y6, listed_up y7, listed_up y8⟩), fun e => K19.out (hne.out 19 (by decide) e), fun e => hB (listed_no (by decide) e)⟩
          · cases ho
            have d1 := hd ⟨1, .data⟩ (by simp) rfl
            have d9 := hd ⟨9, .data⟩ (by simp) rfl
            have d17 := hd ⟨17, .data⟩ (by simp) rfl
            obtain rfl := K1.out d1
            obtain ⟨rfl, _⟩ := K9.out d9
            obtain ⟨rfl, _⟩ := K17.out d17
            have hbx := hB h0f
            have hPx := hPk.out.below hL hbx
            refine wpOp_step rfl (fun K hK => ?_)
            go_simp
            go_at_call 82
            refine (cP2.out _ _ _ _ hPx).mono ?_
            rintro ee w3 ⟨vn, sln, kvn, rfl, hWn0, hFn0⟩
            have hFn := (Pf.of_below hbx G Kb vk).trans hFn0
            refine hK _ _ ⟨by simpa using hz, v53, .pointer (some ⟨G, 0, none⟩), v55, v56, v57, v58, v59, v60, v61, .int .i64 (k1 : Nat), v63, v64, v65, v66, v67, v68, v69, .int .i64 (k2 : Nat), .int .i64 (R.2 : Nat), v72, rfl, ?_⟩
            exact ⟨fun e => K0.out (hne.out 0 (by decide) e), fun e => K1.out (hne.out 1 (by decide) e), fun e => K2.out (hne.out 2 (by decide) e), fun e => K3.out (hne.out 3 (by decide) e), fun e => K4.out (hne.out 4 (by decide) e), fun e => K5.out (hne.out 5 (by decide) e), fun e => K6.out (hne.out 6 (by decide) e), fun e => K7.out (hne.out 7 (by decide) e), fun e => K8.out (hne.out 8 (by decide) e), fun e => (by obtain ⟨y1, y2⟩ := K9.out (hne.out 9 (by decide) e); exact ⟨y1, listed_up y2⟩), fun e => K10.out (hne.out 10 (by decide) e), fun e => K11.out (hne.out 11 (by decide) e), fun e => K12.out (hne.out 12 (by decide) e), fun e => K13.out (hne.out 13 (by decide) e), fun e => K14.out (hne.out 14 (by decide) e), fun e => K15.out (hne.out 15 (by decide) e), fun e => K16.out (hne.out 16 (by decide) e), fun e => (by obtain ⟨y1, y2⟩ := K17.out (hne.out 17 (by decide) e); exact ⟨y1, listed_up y2⟩), fun _ => ⟨_, _, _, rfl, hWn0, hFn, listed_up d9, listed_up d17⟩, fun e => K19.out (hne.out 19 (by decide) e), fun e => absurd e (by rw [listed_at (by rw [hz]; decide)]; decide)⟩
          · cases ho
            have d0 := hd ⟨0, .data⟩ (by simp) rfl
            obtain rfl := K0.out d0
            refine wpOp_step rfl (fun K hK => ?_)
            go_simp
            refine hK _ _ ⟨by simpa using hz, .int .i64 2, v54, v55, v56, v57, v58, v59, v60, v61, v62, v63, v64, v65, v66, v67, v68, v69, v70, v71, .pointer (some ⟨kb, 2, none⟩), rfl, ?_⟩
            exact ⟨fun e => K0.out (hne.out 0 (by decide) e), fun e => K1.out (hne.out 1 (by decide) e), fun e => K2.out (hne.out 2 (by decide) e), fun e => K3.out (hne.out 3 (by decide) e), fun e => K4.out (hne.out 4 (by decide) e), fun e => K5.out (hne.out 5 (by decide) e), fun e => K6.out (hne.out 6 (by decide) e), fun e => K7.out (hne.out 7 (by decide) e), fun e => K8.out (hne.out 8 (by decide) e), fun e => (by obtain ⟨y1, y2⟩ := K9.out (hne.out 9 (by decide) e); exact ⟨y1, listed_up y2⟩), fun e => K10.out (hne.out 10 (by decide) e), fun e => K11.out (hne.out 11 (by decide) e), fun e => K12.out (hne.out 12 (by decide) e), fun e => K13.out (hne.out 13 (by decide) e), fun e => K14.out (hne.out 14 (by decide) e), fun e => K15.out (hne.out 15 (by decide) e), fun e => K16.out (hne.out 16 (by decide) e), fun e => (by obtain ⟨y1, y2⟩ := K17.out (hne.out 17 (by decide) e); exact ⟨y1, listed_up y2⟩), fun e => (by obtain ⟨y1, y2, y3, y4, y5, y6, y7, y8⟩ := K18.out (hne.out 18 (by decide) e); exact ⟨y1, y2, y3, y4, y5, y6, listed_up y7, listed_up y8⟩), fun _ => rfl, fun e => hB (listed_no (by decide) e)⟩
        case hl =>
          rintro listed aq wx ⟨hz, v53, v54, v55, v56, v57, v58, v59, v60, v61, v62, v63, v64, v65, v66, v67, v68, v69, v70, v71, v72, rfl, hII⟩ hall
          have K0 := Lib.hid hII.1
          have K1 := Lib.hid hII.2.1
          have K2 := Lib.hid hII.2.2.1
          have K3 := Lib.hid hII.2.2.2.1
          have K4 := Lib.hid hII.2.2.2.2.1
          have K5 := Lib.hid hII.2.2.2.2.2.1
          have K6 := Lib.hid hII.2.2.2.2.2.2.1
          have K7 := Lib.hid hII.2.2.2.2.2.2.2.1
          have K8 := Lib.hid hII.2.2.2.2.2.2.2.2.1
          have K9 := Lib.hid hII.2.2.2.2.2.2.2.2.2.1
          have K10 := Lib.hid hII.2.2.2.2.2.2.2.2.2.2.1
          have K11 := Lib.hid hII.2.2.2.2.2.2.2.2.2.2.2.1
          have K12 := Lib.hid hII.2.2.2.2.2.2.2.2.2.2.2.2.1
          have K13 := Lib.hid hII.2.2.2.2.2.2.2.2.2.2.2.2.2.1
          have K14 := Lib.hid hII.2.2.2.2.2.2.2.2.2.2.2.2.2.2.1
          have K15 := Lib.hid hII.2.2.2.2.2.2.2.2.2.2.2.2.2.2.2.1
          have K16 := Lib.hid hII.2.2.2.2.2.2.2.2.2.2.2.2.2.2.2.2.1
          have K17 := Lib.hid hII.2.2.2.2.2.2.2.2.2.2.2.2.2.2.2.2.2.1
          have K18 := Lib.hid hII.2.2.2.2.2.2.2.2.2.2.2.2.2.2.2.2.2.2.1
          have K19 := Lib.hid hII.2.2.2.2.2.2.2.2.2.2.2.2.2.2.2.2.2.2.2.1
          have hB : (listed.getD 18 false = false → Below wr.heap.size wr wx) := hII.2.2.2.2.2.2.2.2.2.2.2.2.2.2.2.2.2.2.2.2
          clear hII
          obtain rfl := K0.out (hall 0 (by decide))
          obtain rfl := K1.out (hall 1 (by decide))
          obtain rfl := K2.out (hall 2 (by decide))
          obtain rfl := K3.out (hall 3 (by decide))
          obtain rfl := K4.out (hall 4 (by decide))
          obtain rfl := K5.out (hall 5 (by decide))
          obtain rfl := K6.out (hall 6 (by decide))
          obtain rfl := K7.out (hall 7 (by decide))
          obtain rfl := K8.out (hall 8 (by decide))
          obtain ⟨rfl, _⟩ := K9.out (hall 9 (by decide))
          obtain rfl := K10.out (hall 10 (by decide))
          obtain rfl := K11.out (hall 11 (by decide))
          obtain rfl := K12.out (hall 12 (by decide))
          obtain rfl := K13.out (hall 13 (by decide))
          obtain rfl := K14.out (hall 14 (by decide))
          obtain rfl := K15.out (hall 15 (by decide))
          obtain rfl := K16.out (hall 16 (by decide))
          obtain ⟨rfl, _⟩ := K17.out (hall 17 (by decide))
          obtain ⟨vn, sln, kvn, rfl, hWn0, hFn, _, _⟩ := K18.out (hall 18 (by decide))
          obtain rfl := K19.out (hall 19 (by decide))
          clear hall K0 K1 K2 K3 K4 K5 K6 K7 K8 K9 K10 K11 K12 K13 K14 K15 K16 K17 K18 K19
          have hKn0 := Has.but hKq.out hFn.but hkn.out
          have hkc := hKn0.cell
          have hkf := hKn0.frozen
          refine wpOp_step rfl (fun K0 hK0 => ?_)
          go_simp
          refine hK0 _ _ ?_
          clear hK0
          have hz5 : wr.heap.size ≤ wx.heap.size := hFn.but.size
          have hfn := Lib.hid (show ∀ q, vn.ownBlock = some q → B ≤ q ∧ q ≠ kb from fun q hq => ⟨(own_far hWn0.wv hq).1, fun e => by
            rcases hFn.new q hq with e2 | e2
            · exact (hfh.out q e2).2 e
            · have e3 : wr.heap.size ≤ q := e2
              omega⟩)
          have hFw := Lib.hid (hFh.out.trans hFn)
          have hKn := Lib.hid (hKn0.put 2 (.int .i64 (R.2 : Nat)))
          have hP5 : KeptBut wx (wx.setCell ⟨kb, 2, none⟩ (.int .i64 (R.2 : Nat))) (fun i => i = kb) := KeptBut.put (S := fun i => i = kb) (p := ⟨kb, 2, none⟩) (KeptBut.refl wx (fun i => i = kb)) (fun _ => rfl) (.int .i64 (R.2 : Nat))
          have hPn := Lib.hid (hWn0.other hL hP5 hbq (fun q hq => (hfn.out q hq).2))
          have hFs := Lib.hid (show Pf w (wx.setCell ⟨kb, 2, none⟩ (.int .i64 (R.2 : Nat))) G Kb v vn from ⟨hFw.out.but.trans (hP5.mono (T := fun i => i = kb) (fun i _ e => e)) (fun i hi e => by omega), hFw.out.new⟩)
          have hzs := hP5.size
          clear hWn0 hFn hKn0 hP5 hkc hkf hB
          go_wp2_with fail
          exact ⟨⟨vn, sln, kvn, hFs.out, by omega, hfn.out, .inr (.inr (.inr ⟨rfl, hPn.out, hKn.out⟩))⟩, by simp [intOf]⟩
      · have hKc := hKb.cell
        have hPk := Lib.hid hWv
        clear hWv hKb
        have hPd := Lib.hid (hPk.out.below hL ((Below.refl _ _).drew))
        go_wp2_with fail
        go_still_tail 5, (by kernel_rfl)
        change wpList _ _ _ _ _ wr.drew
        go_wp2_with fail
        refine (cV.out _ _ _ hPd.out.wv).mono ?_
        rintro ee w5 ⟨vn, sln, rfl, hWn0, hFn⟩
        obtain ⟨t, ht⟩ := hcv.out
        have hP5 := Lib.hid (hPd.out.step hL hFn hWn0 ht)
        have hFw := Lib.hid (hFh.out.trans ((Pf.of_below ((Below.refl _ _).drew) G Kb vk).trans (Pf.of_wf hFn Kb)))
        clear hWn0 hFn hKc
        go_wp2_with fail
        go_ret
        rw [hE.out]
        exact ⟨vn, sln, kvk, rfl, hP5.out, hFw.out⟩
end Go.Proofs.Ytghkpmafocacoaa
