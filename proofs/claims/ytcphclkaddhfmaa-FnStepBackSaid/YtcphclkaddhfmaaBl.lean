/- Unrolled statements backward: the model's l5Back. -/
import Derived.Test.YtcphclkaddhfmaaBk
namespace Go.Proofs.Ytcphclkaddhfmaa
set_option maxRecDepth 100000
set_option linter.unusedVariables false
open Go.RowKit

theorem stmt_ints : (49 : TypeId) ≠ 29 := by decide
theorem int_ints : (3 : TypeId) ≠ 29 := by decide
/-- Rows of what is worth ahead of places, from one on. -/
def Rws (w : World) (base gy m : Nat) (vs : Nat → Value) (h : Int → Int) (os : List St) (k : Nat) (ks : Array Value) : Prop :=
  Has w gy 29 ks ∧ ks.size = m + 1 ∧ ∀ j, k ≤ j → j ≤ m → ks[j]? = some (vs j) ∧ IOwn w base (vs j) (rowL (valAt h os j))
theorem Rws.below {w w' : World} {base gy m k : Nat} {vs : Nat → Value} {h : Int → Int} {os : List St} {ks : Array Value} (r : Rws w base gy m vs h os k ks) (hb : Below w.heap.size w w') : Rws w' base gy m vs h os k ks :=
  ⟨r.1.kept hb, r.2.1, fun j h0 hj => ⟨(r.2.2 j h0 hj).1, (r.2.2 j h0 hj).2.below hb⟩⟩
theorem Rws.put {w w' : World} {base gy m k k' : Nat} {vs : Nat → Value} {h : Int → Int} {os : List St} {ks : Array Value} {u : Value} (r : Rws w base gy m vs h os k ks) (hk : KeptBut w w' (fun i => i = gy)) (hn : Has w' gy 29 (ks.setIfInBounds k' u)) (hkk : k = k' + 1) : Rws w' base gy m vs h os k (ks.setIfInBounds k' u) := by
  refine ⟨hn, by simpa using r.2.1, fun j h0 hj => ⟨?_, ?_⟩⟩
  · rw [Array.getElem?_setIfInBounds, if_neg (by omega)]
    exact (r.2.2 j h0 hj).1
  · refine (r.2.2 j h0 hj).2.but hk (fun i hi e => ?_)
    obtain ⟨c1, g1⟩ := owns_has (r.2.2 j h0 hj).2 hi
    exact has_ne g1 r.1 int_ints e
theorem Rws.up {w : World} {base gy m k k' : Nat} {vs : Nat → Value} {h : Int → Int} {os : List St} {ks : Array Value} {u : Value} (r : Rws w base gy m vs h os k (ks.setIfInBounds k' u)) (hkk : k = k' + 1) (hz : ks.size = m + 1) (hkm : k ≤ m) (ho : IOwn w base u (rowL (valAt h os k'))) : Rws w base gy m (fun j => if j = k' then u else vs j) h os k' (ks.setIfInBounds k' u) := by
  refine ⟨r.1, r.2.1, fun j h0 hj => ?_⟩
  dsimp only
  by_cases hjk : j = k'
  · subst hjk
    rw [if_pos rfl]
    exact ⟨by rw [Array.getElem?_setIfInBounds, if_pos rfl, if_pos (by omega)], ho⟩
  · rw [if_neg hjk]
    exact r.2.2 j (by omega) hj
theorem rowL_self {ds : List Int} (h : ds.length = 81) : rowL (hOf ds) = ds := by
  apply List.ext_getElem?
  intro q
  by_cases hq : q < 81
  · rw [rowL_at hq]
    unfold hOf
    rw [Int.toNat_natCast, List.getD_eq_getElem?_getD, List.getElem?_eq_getElem (by omega)]; rfl
  · rw [List.getElem?_eq_none (by rw [rowL_length]; omega), List.getElem?_eq_none (by omega)]
theorem hOf_rowL {g : Int → Int} {st : Int} (h : 0 ≤ st ∧ st ≤ 80) : hOf (rowL g) st = g st := rowL_getD h
theorem one_row {h : Int → Int} {os : List St} {s : St} {i : Nat} (hs : os[i]? = some s) (hok : s.ok = true) (h6 : (s.k == 6) = false) : rowL (valAt (hOf (rowL (valAt h os (i + 1)))) [s] 0) = rowL (valAt h os i) := by
  unfold rowL
  apply List.map_congr_left
  intro q hq
  have hqb : (0 : Int) ≤ (q : Int) ∧ (q : Int) ≤ 80 := by have := List.mem_range.1 hq; omega
  cases hd : s.draws
  · have hj : s.jump q = 0 := by
      unfold St.jump
      rw [if_neg]
      rintro ⟨e, _⟩
      simp [e] at h6
    rw [one_own hd, valAt_own hs hd, hj]
    congr 1
    exact hOf_rowL (g := valAt h os (i + 1)) (next_bd hok hqb (by decide))
  · rw [one_draw hd, valAt_draw hs hd]
    have e : ∀ x : Int, 0 ≤ x ∧ x ≤ 2 → hOf (rowL (valAt h os (i + 1))) (s.next q x) = valAt h os (i + 1) (s.next q x) := fun x hx => hOf_rowL (next_bd hok hqb hx)
    simp only [psum]
    have e0 := e 0 (by decide)
    have e1 := e 1 (by decide)
    have e2 := e 2 (by decide)
    show 0 + s.fac (s.next q ((0 : Nat) : Int)) * hOf (rowL (valAt h os (i + 1))) (s.next q ((0 : Nat) : Int)) + s.fac (s.next q ((1 : Nat) : Int)) * hOf (rowL (valAt h os (i + 1))) (s.next q ((1 : Nat) : Int)) + s.fac (s.next q ((2 : Nat) : Int)) * hOf (rowL (valAt h os (i + 1))) (s.next q ((2 : Nat) : Int)) = _
    rw [show ((0 : Nat) : Int) = 0 from rfl, show ((1 : Nat) : Int) = 1 from rfl, show ((2 : Nat) : Int) = 2 from rfl, e0, e1, e2]
    omega
theorem skip_at {h : Int → Int} {os : List St} {s : St} {i : Nat} {st : Int} (hs : os[i]? = some s) (h6 : s.k = 6) : valAt h os i st = if valueAt st s.a = s.c then valAt h os (min (i + 1 + s.b.toNat) os.length) st else valAt h os (i + 1) st := by
  have hd : s.draws = false := by
    unfold St.draws
    simp [h6]
  have e1 : s.next st 0 = st := by simp [St.next, h6]
  have e2 : s.fac st = 1 := by simp [St.fac, h6]
  rw [valAt_own hs hd, e1, e2, Int.one_mul, valAt_min]
  unfold St.jump
  by_cases hv : valueAt st s.a = s.c
  · rw [if_pos ⟨h6, hv⟩, if_pos hv]
  · rw [if_neg (fun e => hv e.2), if_neg hv]

set_option maxHeartbeats 1000000 in
theorem l5Back_any (A F : Option Addr) (m c cf : Nat) (os : List St) (ds : List Int) (base : Nat) (w : World) (h : Lst w w.heap.size A m os) (hm : m ≤ 12) (hM : os.length = m) (hok : ∀ s ∈ os, s.ok = true ∧ s.notLoop = true) (hF : IOwn w base (.slice F 81 cf) ds) (hbs : base ≤ w.heap.size) (hl : ds.length = 81)
    (hV : ∀ j st, 0 ≤ st ∧ st ≤ 80 → 0 < j → 0 ≤ valAt (hOf ds) os j st ∧ valAt (hOf ds) os j st ≤ 100000000000000000) :
    Calls Try.prog 59 #[.slice A m c, .slice F 81 cf] w fun e w' => ∃ v, e = .returned v ∧ IOwn w' base v (rowL (valAt (hOf ds) os 0)) ∧ Below w.heap.size w w' := by
  have hH := Lib.hid h
  have hOk := Lib.hid hok
  have hVb := Lib.hid hV
  obtain ⟨i0, hi0, hz0, hz1', hz2'⟩ := info_parts info_int
  obtain ⟨j0, hj0, hy0, hy1', hy2'⟩ := info_parts info_ints
  have hmk : ∀ wx : World, (Instr.makeSlice 102 (.int .i64 ((m : Int) + 1)) (.int .i64 ((m : Int) + 1))).run Try.prog wx = .ok (.slice (some ⟨wx.heap.size, 0, none⟩) (m + 1) (m + 1)) (wx.alloc (.cells (madeCells #[.slice none 0 0] ((m + 1) * 1)) 29)) := by
    intro wx
    have hr := run_make (P := Try.prog) wx 102 29 j0 _ Try.underlying102 hj0 hy0 .i64 .i64 ((m : Int) + 1) ((m : Int) + 1) (by omega) (by omega) (by rw [hy2']; omega) (by omega)
    rw [hy1'] at hr
    rw [show ((m : Int) + 1).toNat = m + 1 by omega] at hr
    exact hr
  have hw1 : IntKind.i64.wrap ((m : Int) + 1) = (m : Int) + 1 := IntWalk.i64_in _ (by omega)
  have hw2 : IntKind.i64.wrap ((m : Int) - 1) = (m : Int) - 1 := IntWalk.i64_in _ (by omega)
  have hcz : (madeCells #[Value.slice none 0 0] ((m + 1) * 1)).size = m + 1 := by rw [size_madeCells]; omega
  generalize madeCells #[Value.slice none 0 0] ((m + 1) * 1) = cz at hmk hcz
  have hY0 := Has.new w 29 cz
  obtain ⟨uy, huy⟩ := hY0.size_cell (x := m) (by omega)
  have hfy := hY0.frozen m
  obtain ⟨ks0, hk0⟩ : ∃ ks0, ks0 = cz.setIfInBounds m (.slice F 81 cf) := ⟨_, rfl⟩
  have hK0 : KeptBut w (w.alloc (.cells ks0 29)) (fun _ => False) := KeptBut.alloc (KeptBut.refl w _) _
  have hR0 := Lib.hid (show Rws (w.alloc (.cells ks0 29)) base w.heap.size m (fun _ => .slice F 81 cf) (hOf ds) os m ks0 from
    ⟨Has.new _ _ _, by rw [hk0]; simpa using hcz, fun j h0 hj => by
      obtain rfl : j = m := by omega
      refine ⟨by rw [hk0, Array.getElem?_setIfInBounds, if_pos rfl, if_pos (by omega)], ?_⟩
      have e : rowL (valAt (hOf ds) os j) = ds := by
        have e1 : valAt (hOf ds) os j = hOf ds := funext fun st => valAt_end (by omega) st
        rw [e1, rowL_self hl]
      rw [e]
      exact hF.but hK0 (fun _ _ h => h)⟩)
  have hB0 := Lib.hid (show Below w.heap.size w (w.alloc (.cells ks0 29)) from (Below.refl _ _).alloc (Nat.le_refl _) _)
  clear h hok hV hF hK0 hj0 hy0 hy1' hy2'
  go_enter Try.func59, Try.ntmps59
  go_wp2_with fail
  clear hmk huy hfy hY0 hcz
  generalize hBB : w.heap.size = gy at hR0 hB0 ⊢
  have hGy := Lib.hid hBB
  clear hBB
  rw [← hk0]
  generalize w.alloc (.cells ks0 29) = W0 at hR0 hB0 ⊢
  clear hk0
  go_loopg [6] m (fun gn v wr => ∃ (k : Nat) (vs : Nat → Value) (ks : Array Value), k ≤ m ∧ gn = k ∧ v = .int .i64 ((k : Int) - 1) ∧ Rws wr base gy m vs (hOf ds) os k ks ∧ Below gy w wr)
  case atStart => exact ⟨m, _, ks0, Nat.le_refl _, rfl, rfl, hR0.out, hB0.out⟩
  case round =>
    clear hR0 hB0
    obtain ⟨k, vs, ks, hk, hgn, rfl, hR, hb⟩ := hrel
    obtain ⟨gk1, rfl⟩ : ∃ x, x = gk := ⟨_, rfl⟩
    obtain ⟨w1, rfl⟩ : ∃ x, x = wr := ⟨_, rfl⟩
    have hgk : gk1 = k := hgn
    clear hgn
    have hR1 := Lib.hid hR
    have hb1 := Lib.hid hb
    by_cases hk0 : k = 0
    · subst hk0
      obtain ⟨hc0, hv0⟩ := hR.2.2 0 (Nat.le_refl _) (Nat.zero_le _)
      have hc0' := (hR.1.cell 0).trans hc0
      have hv0' := Lib.hid hv0
      clear hR hb hc0 hv0
      go_wp2_with fail
      go_ret
      exact ⟨_, rfl, hv0'.out, by rw [hGy.out]; exact hb1.out⟩
    · obtain ⟨i, hki⟩ : ∃ i, k = i + 1 := ⟨k - 1, by omega⟩
      have him : i < m := by omega
      obtain ⟨gs, off, s, rfl, hgs, hs, hat⟩ := ((hH.out.below (by rw [hGy.out]; exact hb)).more hb.size).at_ him
      obtain ⟨c0, c1, c2, c3, c4, c5, c6⟩ := hat.open_
      obtain ⟨hso, hsl⟩ := hOk.out s (List.mem_of_getElem? hs)
      obtain ⟨hck, hvk⟩ := hR.2.2 k (Nat.le_refl _) hk
      obtain ⟨Ak, ck, hvf, hkc1, hkc2⟩ := hvk.form
      rw [rowL_length] at hvf
      rw [hvf] at hck hvk
      have hvk' := Lib.hid hvk
      have hks := Lib.hid hs
      have hvf' := Lib.hid hvf
      have cO := Lib.hid (fun wx (hx : Ils wx wx.heap.size Ak 81 (rowL (valAt (hOf ds) os k))) => l5One_any s Ak ck (rowL (valAt (hOf ds) os k)) wx hx hso hsl (fun st hst => by rw [hOf_rowL hst]; exact hVb.out k st hst (by omega)))
      have hz := Lib.hid hR.2.1
      have hkI : ((k : Int) - 1) = (i : Int) := by omega
      have hin0 : (0 : Int) ≤ (i : Int) := by omega
      have hi1 : (i : Int) < (m : Int) := by omega
      have hi2 : (i : Int) < (m : Int) + 1 := by omega
      have hi3 : (i : Int) + 1 < (m : Int) + 1 := by omega
      have hi4 : i < m + 1 := by omega
      have hi5 : i + 1 < m + 1 := by omega
      have hi6 : (0 : Int) ≤ (i : Int) + 1 := by omega
      have hwi : IntKind.i64.wrap ((i : Int) + 1) = (i : Int) + 1 := IntWalk.i64_in _ (by omega)
      have hwd : IntKind.i64.wrap ((i : Int) - 1) = (i : Int) - 1 := IntWalk.i64_in _ (by omega)
      have hki' := Lib.hid hki
      rw [hkI]
      rw [hki] at hck
      have hgyl := hR.1.lt
      have hgw1 : gy ≤ w1.heap.size := Nat.le_of_lt hgyl
      have hT1 := Lib.hid (Has.new w1 49 #[.int .i64 s.k, .int .i64 s.a, .int .i64 s.b, .int .i64 s.c, .int .i64 s.u, .int .i64 s.v, .int .i64 s.x])
      have hR2 := Lib.hid (hR.below ((Below.refl w1.heap.size w1).alloc (Nat.le_refl _) (.cells #[.int .i64 s.k, .int .i64 s.a, .int .i64 s.b, .int .i64 s.c, .int .i64 s.u, .int .i64 s.v, .int .i64 s.x] 49)))
      have hb2 := Lib.hid (hb.alloc hgw1 (.cells #[.int .i64 s.k, .int .i64 s.a, .int .i64 s.b, .int .i64 s.c, .int .i64 s.u, .int .i64 s.v, .int .i64 s.x] 49))
      have hv2 := Lib.hid (hvk.below ((Below.refl w1.heap.size w1).alloc (Nat.le_refl _) (.cells #[.int .i64 s.k, .int .i64 s.a, .int .i64 s.b, .int .i64 s.c, .int .i64 s.u, .int .i64 s.v, .int .i64 s.x] 49)))
      clear hs hat hR hb hvk hvf hkI
      go_wp2_with fail
      clear c0 c1 c2 c3 c4 c5 c6
      generalize hTT : w1.heap.size = T at hT1 hgyl ⊢
      generalize w1.alloc (.cells #[.int .i64 s.k, .int .i64 s.a, .int .i64 s.b, .int .i64 s.c, .int .i64 s.u, .int .i64 s.v, .int .i64 s.x] 49) = W2 at hT1 hR2 hb2 hv2 ⊢
      have hTc := hT1.out.cell
      have hyc := (hR2.out.1.cell (i + 1)).trans hck
      clear hck
      have hgf : W2.heap.size > gy := hR2.out.1.lt
      have hbase2 : base ≤ W2.heap.size := by have := hGy.out; omega
      have hSk := Lib.hid (show ∀ wx : World, Below W2.heap.size W2 wx → wx.cell? ⟨T, 0, none⟩ = some (.int .i64 s.k) ∧ wx.cell? ⟨T, 1, none⟩ = some (.int .i64 s.a) ∧ wx.cell? ⟨T, 2, none⟩ = some (.int .i64 s.b) ∧ wx.cell? ⟨T, 3, none⟩ = some (.int .i64 s.c) ∧ wx.cell? ⟨T, 4, none⟩ = some (.int .i64 s.u) ∧ wx.cell? ⟨T, 5, none⟩ = some (.int .i64 s.v) ∧ wx.cell? ⟨T, 6, none⟩ = some (.int .i64 s.x) ∧ wx.cell? ⟨gy, i + 1, none⟩ = some (.slice Ak 81 ck) from fun wx hbx => by
        have t1 := (hT1.out.kept hbx).cell
        exact ⟨t1 0, t1 1, t1 2, t1 3, t1 4, t1 5, t1 6, (hbx.cell (p := ⟨gy, i + 1, none⟩) hgf).trans hyc⟩)
      have hSt := Lib.hid (show ∀ (wx : World) (u : Value), (wx.cell? ⟨T, 0, none⟩ = some (.int .i64 s.k) ∧ wx.cell? ⟨T, 1, none⟩ = some (.int .i64 s.a) ∧ wx.cell? ⟨T, 2, none⟩ = some (.int .i64 s.b) ∧ wx.cell? ⟨T, 3, none⟩ = some (.int .i64 s.c) ∧ wx.cell? ⟨T, 4, none⟩ = some (.int .i64 s.u) ∧ wx.cell? ⟨T, 5, none⟩ = some (.int .i64 s.v) ∧ wx.cell? ⟨T, 6, none⟩ = some (.int .i64 s.x) ∧ wx.cell? ⟨gy, i + 1, none⟩ = some (.slice Ak 81 ck)) → (wx.setCell ⟨gy, i, none⟩ u).cell? ⟨T, 0, none⟩ = some (.int .i64 s.k) ∧ (wx.setCell ⟨gy, i, none⟩ u).cell? ⟨T, 1, none⟩ = some (.int .i64 s.a) ∧ (wx.setCell ⟨gy, i, none⟩ u).cell? ⟨T, 2, none⟩ = some (.int .i64 s.b) ∧ (wx.setCell ⟨gy, i, none⟩ u).cell? ⟨T, 3, none⟩ = some (.int .i64 s.c) ∧ (wx.setCell ⟨gy, i, none⟩ u).cell? ⟨T, 4, none⟩ = some (.int .i64 s.u) ∧ (wx.setCell ⟨gy, i, none⟩ u).cell? ⟨T, 5, none⟩ = some (.int .i64 s.v) ∧ (wx.setCell ⟨gy, i, none⟩ u).cell? ⟨T, 6, none⟩ = some (.int .i64 s.x) ∧ (wx.setCell ⟨gy, i, none⟩ u).cell? ⟨gy, i + 1, none⟩ = some (.slice Ak 81 ck) from fun wx u hx => by
        have hne : gy ≠ T := fun e => by
          have h1 := hT1.out
          rw [← e] at h1
          exact has_ne h1 hR2.out.1 stmt_ints rfl
        have hb : ∀ n, (wx.setCell ⟨gy, i, none⟩ u).cell? ⟨T, n, none⟩ = wx.cell? ⟨T, n, none⟩ := fun n => World.cell?_setCell_other _ _ _ _ (fun e => hne (by injection e))
        have hc : (wx.setCell ⟨gy, i, none⟩ u).cell? ⟨gy, i + 1, none⟩ = wx.cell? ⟨gy, i + 1, none⟩ := World.cell?_setCell_other _ _ _ _ (fun e => by injection e with _ e _; omega)
        obtain ⟨x0, x1, x2, x3, x4, x5, x6, x7⟩ := hx
        exact ⟨(hb 0).trans x0, (hb 1).trans x1, (hb 2).trans x2, (hb 3).trans x3, (hb 4).trans x4, (hb 5).trans x5, (hb 6).trans x6, hc.trans x7⟩)
      go_region_held3 (fun wx => wx.cell? ⟨T, 0, none⟩ = some (.int .i64 s.k) ∧ wx.cell? ⟨T, 1, none⟩ = some (.int .i64 s.a) ∧ wx.cell? ⟨T, 2, none⟩ = some (.int .i64 s.b) ∧ wx.cell? ⟨T, 3, none⟩ = some (.int .i64 s.c) ∧ wx.cell? ⟨T, 4, none⟩ = some (.int .i64 s.u) ∧ wx.cell? ⟨T, 5, none⟩ = some (.int .i64 s.v) ∧ wx.cell? ⟨T, 6, none⟩ = some (.int .i64 s.x) ∧ wx.cell? ⟨gy, i + 1, none⟩ = some (.slice Ak 81 ck)) (first | exact hSk.out _ ((Below.refl _ _).drew) | exact hSk.out _ (((Below.refl _ _).drew).trans hb3) | exact hSt.out _ _ (by assumption)) (first | (go_simp; go_at_call 64; refine (cO.out _ (by exact hv2.out.lst)).mono ?_; rintro e w3 ⟨v9, rfl, ho3, hb3⟩; obtain ⟨A3, c3, hv3, hc3a, hc3b⟩ := ho3.form; rw [rowL_length] at hv3; subst hv3; have hy3h := Has.kept (w := World.drew _) (by exact hR2.out.1) hb3; have hy3f := hy3h.frozen; obtain ⟨u3, hu3⟩ := hy3h.size_cell (x := i) (by rw [hz.out]; exact hi4)))
      all_goals
        have hb3' : Below W2.heap.size W2 w3 := ((Below.refl _ _).drew).trans hb3
        have hK3 : KeptBut w3 (w3.setCell ⟨gy, i, none⟩ (.slice A3 81 c3)) (fun x => x = gy) := KeptBut.put (KeptBut.refl w3 (fun x => x = gy)) (p := ⟨gy, i, none⟩) (fun _ => rfl) _
        have hK4 : KeptBut W2 (w3.setCell ⟨gy, i, none⟩ (.slice A3 81 c3)) (fun x => x = gy) := KeptBut.trans (KeptBut.of_below hb3' (fun x => x = gy)) hK3 (fun _ _ e => e)
        have ho3' : IOwn w3 W2.heap.size (.slice A3 81 c3) (rowL (valAt (hOf (rowL (valAt (hOf ds) os k))) [s] 0)) := ho3
        have ho4 := Lib.hid ((show IOwn w3 base (.slice A3 81 c3) (rowL (valAt (hOf (rowL (valAt (hOf ds) os k))) [s] 0)) from owns_le ho3' hbase2).but hK3 (fun x hx e => by
          obtain ⟨d1, g1⟩ := owns_has ho3' hx
          exact has_ne g1 hy3h int_ints e))
        have hR4 := Lib.hid (hR2.out.put hK4 (hy3h.put i (.slice A3 81 c3)) hki'.out)
        have hT4 := Lib.hid (hT1.out.but hK4 (has_ne hT1.out hR2.out.1 stmt_ints))
        have hb4 := Lib.hid ((hb2.out.trans (hb3'.mono (Nat.le_of_lt hgf))).setCell (p := ⟨gy, i, none⟩) (Nat.le_refl gy) (.slice A3 81 c3))
        clear hb3 hb3' ho3 ho3' hK3 hK4 hy3h hy3f hu3
        generalize w3.setCell ⟨gy, i, none⟩ (.slice A3 81 c3) = W4 at ho4 hR4 hT4 hb4 ⊢
        clear hTc hyc
        have hTc := hT4.out.cell
        cases h6 : (s.k == 6)
        · have h6b : (s.k != 6) = true := by simpa using h6
          have hrow := Lib.hid (show rowL (valAt (hOf (rowL (valAt (hOf ds) os k))) [s] 0) = rowL (valAt (hOf ds) os i) from by
            have := one_row (h := hOf ds) hks.out hso h6
            rwa [← hki'.out] at this)
          have hU := Lib.hid (hR4.out.up hki'.out hz.out hk (by rw [← hrow.out]; exact ho4.out))
          go_wp2_with fail
          go_roundg i
          case measure => have := hki'.out; omega
          case rel => exact ⟨i, _, _, by omega, rfl, by go_num, hU.out, hb4.out⟩
        · have h6b : (s.k != 6) = false := by simpa using h6
          have hk6 := Lib.hid (show s.k = 6 by simpa using h6)
          have hsb : 1 ≤ s.b ∧ s.b ≤ 12 ∧ 0 ≤ s.a ∧ s.a ≤ 3 := by
            have := ok_rng (k := s.k) (a := s.a) (b := s.b) (c := s.c) (u := s.u) (v := s.v) (x := s.x) hso
            have h66 := hk6.out
            omega
          have hsa : 0 ≤ s.a ∧ s.a ≤ 3 := ⟨hsb.2.2.1, hsb.2.2.2⟩
          have hwt : IntKind.i64.wrap ((i : Int) + 1 + s.b) = (i : Int) + 1 + s.b := IntWalk.i64_in _ (by omega)
          obtain ⟨tn, htn⟩ : ∃ tn, tn = min (i + 1 + s.b.toNat) m := ⟨_, rfl⟩
          have htn' : tn = min (i + 1 + s.b.toNat) os.length := by rw [hM]; exact htn
          have htk : k ≤ tn := by have := hki'.out; omega
          have htm : tn ≤ m := by omega
          have htnH := Lib.hid htn'
          have ht0 : (0 : Int) ≤ (tn : Int) := by omega
          have ht1 : (tn : Int) < (m : Int) + 1 := by omega
          have ht2 : tn < m + 1 := by omega
          have hgy4 : gy < W4.heap.size := hR4.out.1.lt
          have hbase4 : base ≤ W4.heap.size := by have := hGy.out; omega
          clear h6 hki
          by_cases hto : (m : Int) < (i : Int) + 1 + s.b
          · obtain rfl : m = tn := by omega
            clear htn htn'
            go_wp2_with fail
            have hN0 := Lib.hid (show IOwn (W4.alloc (.cells #[] 3)) W4.heap.size (.slice (some ⟨W4.heap.size, 0, none⟩) 0 0) (rowP (valAt (hOf ds) os i) 0) from
              ⟨rfl, .inr ⟨W4.heap.size, 0, #[], rfl, Nat.le_refl _, Has.new W4 _ _, Nat.le_refl _, Nat.zero_le _, rfl, rfl⟩⟩)
            have hb5 := Lib.hid ((Below.refl W4.heap.size W4).alloc (Nat.le_refl _) (.cells #[] 3))
            generalize W4.alloc (.cells #[] 3) = W5 at hN0 hb5 ⊢
            generalize hnw4 : W4.heap.size = n4 at ⊢
            rw [hnw4] at hN0
            go_loopg [9, 10] 81 (fun gn o v wr => ∃ q : Nat, q ≤ 81 ∧ gn = 81 - q ∧ v = .int .i64 q ∧ IOwn wr W4.heap.size o (rowP (valAt (hOf ds) os i) q) ∧ Below W4.heap.size W4 wr)
            case atStart => exact ⟨0, by omega, rfl, rfl, by rw [hnw4]; exact hN0.out, hb5.out⟩
            case round =>
              clear hN0 hb5
              obtain ⟨q, hq, hgn, rfl, hO, hbr⟩ := hrel
              obtain ⟨gk2, rfl⟩ : ∃ x, x = gk := ⟨_, rfl⟩
              obtain ⟨w6, rfl⟩ : ∃ x, x = wr := ⟨_, rfl⟩
              have hgk2 : gk2 = 81 - q := hgn
              clear hgn
              obtain ⟨Ao, co, hvo, hco1, hco2⟩ := hO.form
              have hlq : (rowP (valAt (hOf ds) os i) q).length = q := rowP_len hq
              rw [hlq] at hvo
              subst hvo
              have hO' := Lib.hid hO
              have hb' := Lib.hid hbr
              have hBB6 : W4.heap.size ≤ w6.heap.size := hbr.size
              clear hO hbr
              by_cases hq81 : q < 81
              · have hqs : (0 : Int) ≤ (q : Int) ∧ (q : Int) ≤ 80 := by omega
                have hq0 : (0 : Int) ≤ (q : Int) := by omega
                have hq1 : (q : Int) < 81 := by omega
                have hSn := Lib.hid (rowP_succ (g := valAt (hOf ds) os i) hq81)
                have hR6 := Lib.hid (hR4.out.below hb'.out)
                have hT6 := (hT4.out.kept hb'.out).cell
                obtain ⟨e1, o1⟩ := hR6.out.2.2 k (Nat.le_refl _) hk
                rw [hvf'.out] at e1 o1
                obtain ⟨g1, f1, d1, rfl, hg1, hd1, c1⟩ := o1.lst.at_ hq81
                rw [rowL_at hq81] at hd1
                obtain rfl := Option.some.inj hd1
                have cy1 := (hR6.out.1.cell k).trans e1
                rw [hki'.out] at cy1
                obtain ⟨e2, o2⟩ := hR6.out.2.2 m htk htm
                obtain ⟨At, ct, hvt, _, _⟩ := o2.form
                rw [rowL_length] at hvt
                rw [hvt] at e2 o2
                obtain ⟨g2, f2, d2, rfl, hg2, hd2, c2⟩ := o2.lst.at_ hq81
                rw [rowL_at hq81] at hd2
                obtain rfl := Option.some.inj hd2
                have cy2 := (hR6.out.1.cell m).trans e2
                have cA := Lib.hid (fun wx => l1At_v q s.a wx hqs hsa)
                have hVa := skip_at (h := hOf ds) (st := (q : Int)) hks.out hk6.out
                rw [← htnH.out] at hVa
                clear e1 o1 hd1 e2 o2 hd2 hvt
                by_cases hv : valueAt q s.a = s.c
                · rw [hv] at cA
                  rw [if_pos hv] at hVa
                  have hVz := Lib.hid hVa
                  clear hVa hv
                  generalize valAt (hOf ds) os m q = z at hVz c2
                  generalize valAt (hOf ds) os k q = z1 at c1
                  go_wp2_with fail
                  go_quiet ((go_at_call 49; exact Calls.quiet_of_same (cA.out _)))
                  generalize hWq : World.drewN w6 _ = Wq
                  have hbw : Below w6.heap.size w6 Wq := by rw [← hWq]; exact below_drewN (Below.refl _ _) _
                  have hce := Lib.hid (show ∀ p, Wq.cell? p = w6.cell? p from fun p => by rw [← hWq]; rfl)
                  have hOq := Lib.hid (hO'.out.below hbw)
                  have hbq' := Lib.hid (hb'.out.trans (hbw.mono hBB6))
                  have hBq : W4.heap.size ≤ Wq.heap.size := Nat.le_trans hBB6 hbw.size
                  have c2q := (hce.out _).trans c2
                  have cy2q := (hce.out _).trans cy2
                  clear hWq hbw c1 c2 cy1 cy2 hT6
                  have hO9 := Lib.hid (hOq.out.alloc (.cells #[.int .i64 z] 3))
                  have hnw := Lib.hid (new_one Wq (.int .i64 z) 3)
                  have hB9 := Lib.hid (hbq'.out.alloc hBq (.cells #[.int .i64 z] 3))
                  go_wp2_with (at_builtin; refine wpList_append_lies _ rfl (.tmp 83) (.tmp 85) 29 rfl W4.heap.size 3 i0 _ 1 8 Try.underlying29 hi0 hz0 hz1' hz2' rfl (by decide) (.slice Ao q co) q (ints (rowP (valAt (hOf ds) os i) q)) rfl (by have := hO9.out; unfold IOwn at this; rwa [hlq] at this) ⟨Wq.heap.size, 0, none⟩ 1 1 [.int .i64 z] rfl rfl (by exact hnw.out) (by simp [Value.oneCell']) (by omega) (by unfold maxLen; omega) (by omega) (by simp; omega) (Wq.heap.size + 1) (by simp) ?_; intro gr cr2 w8 hown8 hgrow8 hat8 hlt8)
                  have hF := Lib.hid (IOwn.append_ (news := [z]) hO9.out (by rw [hlq]; exact hown8) hgrow8 hB9.out (by simp; omega))
                  clear hown8 hgrow8 hat8
                  go_wp2_with fail
                  go_roundg (81 - (q + 1))
                  case measure => omega
                  case rel => exact ⟨q + 1, by omega, rfl, by go_num, by rw [hSn.out, hVz.out]; exact hF.out.1, hF.out.2⟩
                · have hvb : (valueAt q s.a == s.c) = false := by simpa using hv
                  rw [if_neg hv] at hVa
                  rw [← hki'.out] at hVa
                  have hVz := Lib.hid hVa
                  clear hVa hv
                  generalize valAt (hOf ds) os m q = z2 at c2
                  generalize valAt (hOf ds) os k q = z at hVz c1
                  generalize valueAt q s.a = vv at cA hvb
                  go_wp2_with fail
                  go_quiet ((go_at_call 49; exact Calls.quiet_of_same (cA.out _)))
                  generalize hWq : World.drewN w6 _ = Wq
                  have hbw : Below w6.heap.size w6 Wq := by rw [← hWq]; exact below_drewN (Below.refl _ _) _
                  have hce := Lib.hid (show ∀ p, Wq.cell? p = w6.cell? p from fun p => by rw [← hWq]; rfl)
                  have hOq := Lib.hid (hO'.out.below hbw)
                  have hbq' := Lib.hid (hb'.out.trans (hbw.mono hBB6))
                  have hBq : W4.heap.size ≤ Wq.heap.size := Nat.le_trans hBB6 hbw.size
                  clear hWq hbw c1 c2 cy1 cy2 hT6
                  have hO9 := Lib.hid (hOq.out.alloc (.cells #[.int .i64 z] 3))
                  have hnw := Lib.hid (new_one Wq (.int .i64 z) 3)
                  have hB9 := Lib.hid (hbq'.out.alloc hBq (.cells #[.int .i64 z] 3))
                  go_wp2_with (at_builtin; refine wpList_append_lies _ rfl (.tmp 83) (.tmp 85) 29 rfl W4.heap.size 3 i0 _ 1 8 Try.underlying29 hi0 hz0 hz1' hz2' rfl (by decide) (.slice Ao q co) q (ints (rowP (valAt (hOf ds) os i) q)) rfl (by have := hO9.out; unfold IOwn at this; rwa [hlq] at this) ⟨Wq.heap.size, 0, none⟩ 1 1 [.int .i64 z] rfl rfl (by exact hnw.out) (by simp [Value.oneCell']) (by omega) (by unfold maxLen; omega) (by omega) (by simp; omega) (Wq.heap.size + 1) (by simp) ?_; intro gr cr2 w8 hown8 hgrow8 hat8 hlt8)
                  have hF := Lib.hid (IOwn.append_ (news := [z]) hO9.out (by rw [hlq]; exact hown8) hgrow8 hB9.out (by simp; omega))
                  clear hown8 hgrow8 hat8
                  go_wp2_with fail
                  go_roundg (81 - (q + 1))
                  case measure => omega
                  case rel => exact ⟨q + 1, by omega, rfl, by go_num, by rw [hSn.out, hVz.out]; exact hF.out.1, hF.out.2⟩
              · obtain rfl : q = 81 := by omega
                have hy6h := hR4.out.1.kept hb'.out
                have hy6f := hy6h.frozen
                obtain ⟨u6, hu6⟩ := hy6h.size_cell (x := i) (by rw [hR4.out.2.1]; exact hi4)
                have hK7 : KeptBut w6 (w6.setCell ⟨gy, i, none⟩ (.slice Ao 81 co)) (fun x => x = gy) := KeptBut.put (KeptBut.refl w6 (fun x => x = gy)) (p := ⟨gy, i, none⟩) (fun _ => rfl) _
                have ho7 : IOwn (w6.setCell ⟨gy, i, none⟩ (.slice Ao 81 co)) base (.slice Ao 81 co) (rowL (valAt (hOf ds) os i)) := by
                  have h9 := hO'.out
                  rw [rowP_all] at h9
                  exact (show IOwn w6 base (.slice Ao 81 co) (rowL (valAt (hOf ds) os i)) from owns_le h9 hbase4).but hK7 (fun x hx e => by
                    obtain ⟨d1, g1⟩ := owns_has h9 hx
                    exact has_ne g1 hy6h int_ints e)
                have hR7 := (hR4.out.below hb'.out).put hK7 (hy6h.put i (.slice Ao 81 co)) hki'.out
                have hU := Lib.hid (hR7.up hki'.out hR4.out.2.1 hk ho7)
                have hb7 := Lib.hid ((hb4.out.trans (hb'.out.mono (Nat.le_of_lt hgy4))).setCell (p := ⟨gy, i, none⟩) (Nat.le_refl gy) (.slice Ao 81 co))
                clear hK7 ho7 hR7 hy6h hlq
                go_wp2_with fail
                go_roundg i
                case measure => have := hki'.out; omega
                case rel => exact ⟨i, _, _, by omega, rfl, by go_num, hU.out, hb7.out⟩

          · have hte : (i : Int) + 1 + s.b = (tn : Int) := by omega
            have hteh := Lib.hid hte
            clear htn htn' hte
            go_wp2_with fail
            rw [hteh.out]
            have hN0 := Lib.hid (show IOwn (W4.alloc (.cells #[] 3)) W4.heap.size (.slice (some ⟨W4.heap.size, 0, none⟩) 0 0) (rowP (valAt (hOf ds) os i) 0) from
              ⟨rfl, .inr ⟨W4.heap.size, 0, #[], rfl, Nat.le_refl _, Has.new W4 _ _, Nat.le_refl _, Nat.zero_le _, rfl, rfl⟩⟩)
            have hb5 := Lib.hid ((Below.refl W4.heap.size W4).alloc (Nat.le_refl _) (.cells #[] 3))
            generalize W4.alloc (.cells #[] 3) = W5 at hN0 hb5 ⊢
            generalize hnw4 : W4.heap.size = n4 at ⊢
            rw [hnw4] at hN0
            go_loopg [9, 10] 81 (fun gn o v wr => ∃ q : Nat, q ≤ 81 ∧ gn = 81 - q ∧ v = .int .i64 q ∧ IOwn wr W4.heap.size o (rowP (valAt (hOf ds) os i) q) ∧ Below W4.heap.size W4 wr)
            case atStart => exact ⟨0, by omega, rfl, rfl, by rw [hnw4]; exact hN0.out, hb5.out⟩
            case round =>
              clear hN0 hb5
              obtain ⟨q, hq, hgn, rfl, hO, hbr⟩ := hrel
              obtain ⟨gk2, rfl⟩ : ∃ x, x = gk := ⟨_, rfl⟩
              obtain ⟨w6, rfl⟩ : ∃ x, x = wr := ⟨_, rfl⟩
              have hgk2 : gk2 = 81 - q := hgn
              clear hgn
              obtain ⟨Ao, co, hvo, hco1, hco2⟩ := hO.form
              have hlq : (rowP (valAt (hOf ds) os i) q).length = q := rowP_len hq
              rw [hlq] at hvo
              subst hvo
              have hO' := Lib.hid hO
              have hb' := Lib.hid hbr
              have hBB6 : W4.heap.size ≤ w6.heap.size := hbr.size
              clear hO hbr
              by_cases hq81 : q < 81
              · have hqs : (0 : Int) ≤ (q : Int) ∧ (q : Int) ≤ 80 := by omega
                have hq0 : (0 : Int) ≤ (q : Int) := by omega
                have hq1 : (q : Int) < 81 := by omega
                have hSn := Lib.hid (rowP_succ (g := valAt (hOf ds) os i) hq81)
                have hR6 := Lib.hid (hR4.out.below hb'.out)
                have hT6 := (hT4.out.kept hb'.out).cell
                obtain ⟨e1, o1⟩ := hR6.out.2.2 k (Nat.le_refl _) hk
                rw [hvf'.out] at e1 o1
                obtain ⟨g1, f1, d1, rfl, hg1, hd1, c1⟩ := o1.lst.at_ hq81
                rw [rowL_at hq81] at hd1
                obtain rfl := Option.some.inj hd1
                have cy1 := (hR6.out.1.cell k).trans e1
                rw [hki'.out] at cy1
                obtain ⟨e2, o2⟩ := hR6.out.2.2 tn htk htm
                obtain ⟨At, ct, hvt, _, _⟩ := o2.form
                rw [rowL_length] at hvt
                rw [hvt] at e2 o2
                obtain ⟨g2, f2, d2, rfl, hg2, hd2, c2⟩ := o2.lst.at_ hq81
                rw [rowL_at hq81] at hd2
                obtain rfl := Option.some.inj hd2
                have cy2 := (hR6.out.1.cell tn).trans e2
                have cA := Lib.hid (fun wx => l1At_v q s.a wx hqs hsa)
                have hVa := skip_at (h := hOf ds) (st := (q : Int)) hks.out hk6.out
                rw [← htnH.out] at hVa
                clear e1 o1 hd1 e2 o2 hd2 hvt
                by_cases hv : valueAt q s.a = s.c
                · rw [hv] at cA
                  rw [if_pos hv] at hVa
                  have hVz := Lib.hid hVa
                  clear hVa hv
                  generalize valAt (hOf ds) os tn q = z at hVz c2
                  generalize valAt (hOf ds) os k q = z1 at c1
                  go_wp2_with fail
                  go_quiet ((go_at_call 49; exact Calls.quiet_of_same (cA.out _)))
                  generalize hWq : World.drewN w6 _ = Wq
                  have hbw : Below w6.heap.size w6 Wq := by rw [← hWq]; exact below_drewN (Below.refl _ _) _
                  have hce := Lib.hid (show ∀ p, Wq.cell? p = w6.cell? p from fun p => by rw [← hWq]; rfl)
                  have hOq := Lib.hid (hO'.out.below hbw)
                  have hbq' := Lib.hid (hb'.out.trans (hbw.mono hBB6))
                  have hBq : W4.heap.size ≤ Wq.heap.size := Nat.le_trans hBB6 hbw.size
                  have c2q := (hce.out _).trans c2
                  have cy2q := (hce.out _).trans cy2
                  clear hWq hbw c1 c2 cy1 cy2 hT6
                  have hO9 := Lib.hid (hOq.out.alloc (.cells #[.int .i64 z] 3))
                  have hnw := Lib.hid (new_one Wq (.int .i64 z) 3)
                  have hB9 := Lib.hid (hbq'.out.alloc hBq (.cells #[.int .i64 z] 3))
                  go_wp2_with (at_builtin; refine wpList_append_lies _ rfl (.tmp 83) (.tmp 85) 29 rfl W4.heap.size 3 i0 _ 1 8 Try.underlying29 hi0 hz0 hz1' hz2' rfl (by decide) (.slice Ao q co) q (ints (rowP (valAt (hOf ds) os i) q)) rfl (by have := hO9.out; unfold IOwn at this; rwa [hlq] at this) ⟨Wq.heap.size, 0, none⟩ 1 1 [.int .i64 z] rfl rfl (by exact hnw.out) (by simp [Value.oneCell']) (by omega) (by unfold maxLen; omega) (by omega) (by simp; omega) (Wq.heap.size + 1) (by simp) ?_; intro gr cr2 w8 hown8 hgrow8 hat8 hlt8)
                  have hF := Lib.hid (IOwn.append_ (news := [z]) hO9.out (by rw [hlq]; exact hown8) hgrow8 hB9.out (by simp; omega))
                  clear hown8 hgrow8 hat8
                  go_wp2_with fail
                  go_roundg (81 - (q + 1))
                  case measure => omega
                  case rel => exact ⟨q + 1, by omega, rfl, by go_num, by rw [hSn.out, hVz.out]; exact hF.out.1, hF.out.2⟩
                · have hvb : (valueAt q s.a == s.c) = false := by simpa using hv
                  rw [if_neg hv] at hVa
                  rw [← hki'.out] at hVa
                  have hVz := Lib.hid hVa
                  clear hVa hv
                  generalize valAt (hOf ds) os tn q = z2 at c2
                  generalize valAt (hOf ds) os k q = z at hVz c1
                  generalize valueAt q s.a = vv at cA hvb
                  go_wp2_with fail
                  go_quiet ((go_at_call 49; exact Calls.quiet_of_same (cA.out _)))
                  generalize hWq : World.drewN w6 _ = Wq
                  have hbw : Below w6.heap.size w6 Wq := by rw [← hWq]; exact below_drewN (Below.refl _ _) _
                  have hce := Lib.hid (show ∀ p, Wq.cell? p = w6.cell? p from fun p => by rw [← hWq]; rfl)
                  have hOq := Lib.hid (hO'.out.below hbw)
                  have hbq' := Lib.hid (hb'.out.trans (hbw.mono hBB6))
                  have hBq : W4.heap.size ≤ Wq.heap.size := Nat.le_trans hBB6 hbw.size
                  clear hWq hbw c1 c2 cy1 cy2 hT6
                  have hO9 := Lib.hid (hOq.out.alloc (.cells #[.int .i64 z] 3))
                  have hnw := Lib.hid (new_one Wq (.int .i64 z) 3)
                  have hB9 := Lib.hid (hbq'.out.alloc hBq (.cells #[.int .i64 z] 3))
                  go_wp2_with (at_builtin; refine wpList_append_lies _ rfl (.tmp 83) (.tmp 85) 29 rfl W4.heap.size 3 i0 _ 1 8 Try.underlying29 hi0 hz0 hz1' hz2' rfl (by decide) (.slice Ao q co) q (ints (rowP (valAt (hOf ds) os i) q)) rfl (by have := hO9.out; unfold IOwn at this; rwa [hlq] at this) ⟨Wq.heap.size, 0, none⟩ 1 1 [.int .i64 z] rfl rfl (by exact hnw.out) (by simp [Value.oneCell']) (by omega) (by unfold maxLen; omega) (by omega) (by simp; omega) (Wq.heap.size + 1) (by simp) ?_; intro gr cr2 w8 hown8 hgrow8 hat8 hlt8)
                  have hF := Lib.hid (IOwn.append_ (news := [z]) hO9.out (by rw [hlq]; exact hown8) hgrow8 hB9.out (by simp; omega))
                  clear hown8 hgrow8 hat8
                  go_wp2_with fail
                  go_roundg (81 - (q + 1))
                  case measure => omega
                  case rel => exact ⟨q + 1, by omega, rfl, by go_num, by rw [hSn.out, hVz.out]; exact hF.out.1, hF.out.2⟩
              · obtain rfl : q = 81 := by omega
                have hy6h := hR4.out.1.kept hb'.out
                have hy6f := hy6h.frozen
                obtain ⟨u6, hu6⟩ := hy6h.size_cell (x := i) (by rw [hR4.out.2.1]; exact hi4)
                have hK7 : KeptBut w6 (w6.setCell ⟨gy, i, none⟩ (.slice Ao 81 co)) (fun x => x = gy) := KeptBut.put (KeptBut.refl w6 (fun x => x = gy)) (p := ⟨gy, i, none⟩) (fun _ => rfl) _
                have ho7 : IOwn (w6.setCell ⟨gy, i, none⟩ (.slice Ao 81 co)) base (.slice Ao 81 co) (rowL (valAt (hOf ds) os i)) := by
                  have h9 := hO'.out
                  rw [rowP_all] at h9
                  exact (show IOwn w6 base (.slice Ao 81 co) (rowL (valAt (hOf ds) os i)) from owns_le h9 hbase4).but hK7 (fun x hx e => by
                    obtain ⟨d1, g1⟩ := owns_has h9 hx
                    exact has_ne g1 hy6h int_ints e)
                have hR7 := (hR4.out.below hb'.out).put hK7 (hy6h.put i (.slice Ao 81 co)) hki'.out
                have hU := Lib.hid (hR7.up hki'.out hR4.out.2.1 hk ho7)
                have hb7 := Lib.hid ((hb4.out.trans (hb'.out.mono (Nat.le_of_lt hgy4))).setCell (p := ⟨gy, i, none⟩) (Nat.le_refl gy) (.slice Ao 81 co))
                clear hK7 ho7 hR7 hy6h hlq
                go_wp2_with fail
                go_roundg i
                case measure => have := hki'.out; omega
                case rel => exact ⟨i, _, _, by omega, rfl, by go_num, hU.out, hb7.out⟩
end Go.Proofs.Ytcphclkaddhfmaa
