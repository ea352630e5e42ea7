/- The slopes of one weight: the program's SlopeOf. -/
import Derived.Test.YtbndonfpdioibaaS8
import Derived.Test.YtbndonfpdioibaaSe
import Derived.Test.YtbndonfpdioibaaAb
namespace Go.Proofs.Ytbndonfpdioibaa
set_option maxRecDepth 100000
set_option linter.unusedVariables false
open Go.RowKit

theorem sl_no {ps : List St} {a v : Int} (h : (wOf ps a && inB v 0 2) = false) : slOk ps a v = false ∧ slOf ps a v = [] := by
  unfold wOf at h
  unfold slOk slOf
  cases hu : unrolled ps with
  | none => exact ⟨rfl, rfl⟩
  | some os =>
    rw [hu] at h
    dsimp only at h ⊢
    rw [h, if_neg (by decide)]
    exact ⟨rfl, rfl⟩
theorem sl_yes {ps os : List St} {k : Nat} {v : Int} (hu : unrolled ps = some os) (hwa : wAt os (k : Int) = true) (hv : inB v 0 2 = true) : slOk ps (k : Int) v = true ∧ slOf ps (k : Int) v = slopesL os k v := by
  unfold slOk slOf
  rw [hu]
  dsimp only
  rw [hwa, hv, if_pos (by decide), Int.toNat_natCast]
  exact ⟨rfl, rfl⟩
theorem ent_rows (d : List Int) (m i z : Nat) : ent (d :: List.replicate m (zs 81)) i z = if i = 0 then d.getD z 0 else 0 := by
  unfold ent
  cases i with
  | zero =>
    rw [if_pos rfl]
    rfl
  | succ i =>
    rw [if_neg (by omega)]
    show ((List.replicate m (zs 81)).getD i []).getD z 0 = 0
    have key : ∀ l : List Int, (l = zs 81 ∨ l = []) → l.getD z 0 = 0 := fun l hl => by
      rcases hl with rfl | rfl
      · rw [List.getD_eq_getElem?_getD]
        unfold zs
        rw [List.getElem?_replicate]
        split <;> rfl
      · rfl
    apply key
    rw [List.getD_eq_getElem?_getD, List.getElem?_replicate]
    split
    · exact .inl rfl
    · exact .inr rfl
theorem start_SlA {cs : Array Value} {m : Nat} (hs : cs.size = (m + 1) * 162) (h0 : ∀ k, k < cs.size → cs[k]? = some (.int .i64 0)) :
    SlA ((cs.setIfInBounds 0 (.int .i64 1)).setIfInBounds 1 (.int .i64 0)) m ((zs 81).set 0 1 :: List.replicate m (zs 81)) (zs 81 :: List.replicate m (zs 81)) := by
  have hz : ∀ z : Nat, (zs 81).getD z 0 = 0 := fun z => by
    rw [List.getD_eq_getElem?_getD]
    unfold zs
    rw [List.getElem?_replicate]
    split <;> rfl
  have base : SlA cs m (zs 81 :: List.replicate m (zs 81)) (zs 81 :: List.replicate m (zs 81)) := ⟨hs, fun i z hi hz81 => by
    have e : ent (zs 81 :: List.replicate m (zs 81)) i z = 0 := by
      rw [ent_rows]
      split
      · exact hz z
      · rfl
    rw [e]
    exact ⟨h0 _ (by omega), h0 _ (by omega)⟩⟩
  have := base.put (j := 0) (y := 0) (ns' := (zs 81).set 0 1 :: List.replicate m (zs 81)) (gs' := zs 81 :: List.replicate m (zs 81)) (X := 1) (Y := 0) (Nat.zero_le _) (by decide) (fun i z => by
    rw [ent_rows, ent_rows]
    by_cases hi : i = 0
    · rw [if_pos hi, if_pos hi]
      by_cases h9 : z = 0
      · rw [if_pos ⟨hi, h9⟩, h9]
        rfl
      · rw [if_neg (fun q => h9 q.2), List.getD_eq_getElem?_getD, List.getElem?_set_ne (Ne.symm h9), ← List.getD_eq_getElem?_getD]
    · rw [if_neg hi, if_neg hi, if_neg (fun q => hi q.1)]) (fun i z => by
    rw [ent_rows]
    by_cases hq : i = 0 ∧ z = 0
    · rw [if_pos hq, if_pos hq.1, hz]
    · rw [if_neg hq])
  exact this
set_option maxHeartbeats 4000000 in
theorem SlopeOf_any (A : Option Addr) (n c : Nat) (ps : List St) (a v : Int) (w : World) (h : Lst w w.heap.size A n ps) (hn : n ≤ c) (hc : c ≤ maxLen) :
    Calls Try.prog 17 #[.slice A n c, .int .i64 a, .int .i64 v] w (Lbd w (slOf ps a v) (slOk ps a v)) := by
  have hC := Lib.hid (weightsAt_any A n c ps a w h hn hc)
  have cV := Lib.hid (fun wx => valueOk_any v wx)
  clear h hc
  cases hg : (wOf ps a && inB v 0 2)
  · obtain ⟨e1, e2⟩ := sl_no hg
    have hE := Lib.hid (And.intro e1 e2)
    clear e1 e2
    generalize hwo : wOf ps a = b1 at hg
    have hWo := Lib.hid hwo
    generalize inB v 0 2 = b2 at hg cV
    clear hwo
    go_enter Try.func17, Try.ntmps17
    go_wp2_with fail
    refine (hC.out).mono ?_
    rintro e w1 ⟨u, rfl, hown, hb⟩
    rw [hWo.out]
    obtain ⟨A3, c3, hv, _, _⟩ := hown.form
    subst hv
    have hF := Lib.hid hb
    clear hown hb
    cases b1 with
    | false =>
      clear hg
      go_wp2_with (first | (go_at_call 71; refine (cV.out _).mono ?_; rintro e w' ⟨rfl, rfl⟩))
      go_ret2
      exact ⟨.slice none 0 0, by rw [hE.out.1]; rfl, by rw [hE.out.2]; exact IOwn.nil _ _, hF.out⟩
    | true =>
      have hb2 : b2 = false := by simpa using hg
      rw [hb2] at cV
      clear hg hb2
      go_wp2_with (first | (go_at_call 71; refine (cV.out _).mono ?_; rintro e w' ⟨rfl, rfl⟩))
      go_ret2
      exact ⟨.slice none 0 0, by rw [hE.out.1]; rfl, by rw [hE.out.2]; exact IOwn.nil _ _, hF.out⟩
  · rw [Bool.and_eq_true] at hg
    obtain ⟨hg1, hg2⟩ := hg
    obtain ⟨os, k, t, hu, rfl, ht, hw, hto, hwa⟩ := w_parts hg1
    obtain ⟨_, hlen, _, hNL, hOK⟩ := unrolled_parts hu
    obtain ⟨e1, e2⟩ := sl_yes hu hwa hg2
    have hE1 := Lib.hid e1
    have hE2 := Lib.hid e2
    have hkl := (List.getElem?_eq_some_iff.1 ht).1
    have hOk := Lib.hid (show ∀ s ∈ os, s.ok = true from fun s hs => List.all_eq_true.1 hOK s hs)
    have hW1 := Lib.hid hg1
    have hU := Lib.hid hu
    have hT := Lib.hid (And.intro ht hw)
    rw [hg2] at cV
    clear hg1 hg2 hu hw hto hwa ht e1 e2 hOK hNL
    obtain ⟨m, hm⟩ : ∃ m, os.length = m := ⟨_, rfl⟩
    have hM := Lib.hid hm
    rw [hm] at hlen hkl
    obtain ⟨i0, hi0, hz0, hz1', hz2'⟩ := info_parts info_slo
    have hmk : ∀ wx : World, (Instr.makeSlice 83 (.int .i64 ((m : Int) + 1)) (.int .i64 ((m : Int) + 1))).run Try.prog wx = .ok (.slice (some ⟨wx.heap.size, 0, none⟩) (m + 1) (m + 1)) (wx.alloc (.cells (madeCells (Value.agg (List.toArray (List.replicate 162 (.int .i64 0)))).cells ((m + 1) * 162)) 88)) := by
      intro wx
      have hr := run_make (P := Try.prog) wx 83 88 i0 _ Try.underlying83 hi0 hz0 .i64 .i64 ((m : Int) + 1) ((m : Int) + 1) (by omega) (by omega) (by rw [hz2']; omega) (by omega)
      rw [hz1'] at hr
      rw [show ((m : Int) + 1).toNat = m + 1 by omega] at hr
      exact hr
    have hcs0 := Lib.hid (show (madeCells (Value.agg (List.toArray (List.replicate 162 (.int .i64 0)))).cells ((m + 1) * 162)).size = (m + 1) * 162 from size_madeCells _ _)
    have hcz : ∀ j : Nat, j < (madeCells (Value.agg (List.toArray (List.replicate 162 (.int .i64 0)))).cells ((m + 1) * 162)).size → (madeCells (Value.agg (List.toArray (List.replicate 162 (.int .i64 0)))).cells ((m + 1) * 162))[j]? = some (.int .i64 0) := fun j hj => by
      rw [size_madeCells] at hj
      have e9 : (Value.agg (List.toArray (List.replicate 162 (.int .i64 0)))).cells = List.toArray (List.replicate 162 (.int .i64 0)) := by kernel_rfl
      rw [e9, made_at hj (by simp), List.getElem?_toArray, List.getElem?_replicate, if_pos (by simp; exact Nat.mod_lt _ (by decide))]
    have hSt := Lib.hid (start_SlA hcs0.out hcz)
    generalize madeCells (Value.agg (List.toArray (List.replicate 162 (.int .i64 0)))).cells ((m + 1) * 162) = cs0 at hmk hSt hcs0 hcz
    have hc0 := hcz 0 (by rw [hcs0.out]; omega)
    have hc1 := hcz 1 (by rw [hcs0.out]; omega)
    have hw1 : IntKind.i64.wrap ((m : Int) + 1) = (m : Int) + 1 := IntWalk.i64_in _ (by omega)
    obtain ⟨j0, hj0, hy0, hy1', hy2'⟩ := info_parts info_int
    have hmk2 : ∀ wx : World, (Instr.makeSlice 24 (.int .i64 81) (.int .i64 81)).run Try.prog wx = .ok (.slice (some ⟨wx.heap.size, 0, none⟩) 81 81) (wx.alloc (.cells (madeCells (Value.int .i64 0).cells (81 * 1)) 3)) := by
      intro wx
      have hr := run_make (P := Try.prog) wx 24 3 j0 _ Try.underlying24 hj0 hy0 .i64 .i64 81 81 (by omega) (by omega) (by rw [hy2']; omega) (by omega)
      rw [hy1'] at hr
      exact hr
    have hm0 : (0 : Int) ≤ (m : Int) := by omega
    clear hi0 hz0 hz1' hz2' hcz hj0 hy0 hy1' hy2' hm
    go_enter Try.func17, Try.ntmps17
    go_wp2_with fail
    refine (hC.out).mono ?_
    rintro e w1 ⟨u, rfl, hown, hb⟩
    rw [hW1.out]
    have hown' : w1.ownsRow w.heap.size 78 7 u m (flat os) := by
      have h9 := hown
      rw [hU.out] at h9
      have h10 : w1.ownsRow w.heap.size 78 7 u os.length (flat os) := h9
      rwa [hM.out] at h10
    obtain ⟨A3, c3, hv, _, _⟩ := owns_form hown'
    subst hv
    have hO1 := Lib.hid (ownS_lst hown')
    have hB1 := Lib.hid hb
    have hR2 := Lib.hid (Has.new w1 88 cs0)
    have hBa := Lib.hid ((Below.refl w1.heap.size w1).alloc (Nat.le_refl _) (.cells cs0 88))
    clear hown hown' hb
    go_wp2_with (first | (go_at_call 71; refine (cV.out _).mono ?_; rintro e w' ⟨rfl, rfl⟩))
    clear hc0 hc1 hmk
    generalize (cs0.setIfInBounds 0 (.int .i64 1)).setIfInBounds 1 (.int .i64 0) = cs1 at hSt ⊢
    have hG1 := Lib.hid (show Has ((w1.alloc (.cells cs1 88)).alloc (.cells #[.slice A3 m c3, .int .i64 k, .int .i64 v, .slice (some ⟨w1.heap.size, 0, none⟩) (m + 1) (m + 1)] 85)) w1.heap.size 88 cs1 from (Has.new w1 _ _).alloc _)
    have hg1 := Has.new (w1.alloc (.cells cs1 88)) 85 #[.slice A3 m c3, .int .i64 k, .int .i64 v, .slice (some ⟨w1.heap.size, 0, none⟩) (m + 1) (m + 1)]
    rw [show (w1.alloc (.cells cs1 88)).heap.size = w1.heap.size + 1 by simp] at hg1
    have hbs := ((Below.refl w1.heap.size w1).alloc (Nat.le_refl _) (.cells cs1 88)).alloc (by simp) (.cells #[.slice A3 m c3, .int .i64 k, .int .i64 v, .slice (some ⟨w1.heap.size, 0, none⟩) (m + 1) (m + 1)] 85)
    have hcl := Lib.hid (show Clh ((w1.alloc (.cells cs1 88)).alloc (.cells #[.slice A3 m c3, .int .i64 k, .int .i64 v, .slice (some ⟨w1.heap.size, 0, none⟩) (m + 1) (m + 1)] 85)) w1.heap.size (w1.heap.size + 1) m A3 c3 os k v w1.heap.size from ⟨hg1, hO1.out.below hbs, hbs.size⟩)
    have hBs := Lib.hid (hB1.out.trans (hbs.mono hB1.out.size))
    have hz1 := Lib.hid hB1.out.size
    clear hg1 hbs hR2 hBa hO1
    generalize (w1.alloc (.cells cs1 88)).alloc (.cells #[.slice A3 m c3, .int .i64 k, .int .i64 v, .slice (some ⟨w1.heap.size, 0, none⟩) (m + 1) (m + 1)] 85) = WS at hG1 hcl hBs ⊢
    refine (toEnd_any WS w1.heap.size (w1.heap.size + 1) w1.heap.size m c3 k A3 os v _ _ t cs1 hcl.out hG1.out hSt.out (Gsl.start v hlen) (Nat.le_refl _) hlen hM.out hT.out.1 hT.out.2 hOk.out).mono ?_
    rintro e w5 ⟨rfl, ⟨ns, gs, cs5, hGs, hC5, hA5⟩, hk5⟩
    have hcl5 := Lib.hid (hcl.out.but hk5 hG1.out (Nat.le_refl _))
    have hB5 := Lib.hid (hBs.out.trans (hk5.below (fun i hi e => by have := hz1.out; omega) hBs.out.size))
    have hC5h := Lib.hid hC5
    have hrow := Lib.hid (hA5.row (i := m) (Nat.le_refl _))
    have hsl := Lib.hid (show ∀ z : Nat, z < 81 → ent gs m z = gro v (ind z) os 0 k 0 from fun z hz => by
      have e := hGs.last hM.out hkl hz
      have e2 := (hGs.2.1.ent (Nat.le_refl m) hz).1
      rw [e] at e2
      injection e2 with e2
      rw [← e2]
      unfold groAt
      rw [if_pos (Nat.zero_le _), List.drop_zero, Nat.sub_zero])
    clear hGs hA5 hk5 hG1 hcl hBs hSt hC5
    have hg5 := (hcl5.out.1.alloc (.cells (madeCells #[.int .i64 0] 81) 3)).cell
    have hga := hcl5.out.1.lt
    have hR5 := Lib.hid (has_range (o := m * 162) (vs := (cs5.extract (m * 162) (m * 162 + 162)).toList) (hC5h.out.alloc (.cells (madeCells #[.int .i64 0] 81) 3)) (fun j x hj => by
      rw [Array.getElem?_toList] at hj
      rw [Array.getElem?_extract] at hj
      split at hj
      · exact hj
      · cases hj))
    have hZ := Lib.hid (show (Try.prog.info? 88).map (·.size) = some (cs5.extract (m * 162) (m * 162 + 162)).toList.length from by rw [size_slo, Array.length_toList, hrow.out.1])
    generalize hsn : cs5.extract (m * 162) (m * 162 + 162) = sn at hrow hR5 hZ
    clear hsn
    have hN := Lib.hid (Has.new w5 3 (madeCells #[.int .i64 0] 81))
    have hfill := Lib.hid (show RowA (madeCells #[.int .i64 0] 81) (fun st => if st < 0 then gro v (ind st) os 0 k 0 else 0) from ⟨size_madeCells _ _, fun q hq => by
      dsimp only
      rw [made_at hq (by decide), if_neg (by omega)]
      simp [Nat.mod_one]⟩)
    have hB6 := Lib.hid (hB5.out.alloc hB5.out.size (.cells (madeCells #[.int .i64 0] 81) 3))
    have hNz := Lib.hid hB5.out.size
    have hm1 : (m : Int) < (m : Int) + 1 := by omega
    go_wp2_with (first | (refine wpList_load_mid rfl 88 (.tmp 46) rfl w1.heap.size (m * 162) (by rfl) sn.toList _ hR5.out Try.underlying88 rfl hZ.out ?_))
    clear hmk2 hR5 hZ hg5 hga
    generalize madeCells #[.int .i64 0] 81 = cs6 at hN hfill hB6 ⊢
    generalize w5.alloc (.cells cs6 3) = W6 at hN hB6 ⊢
    generalize w5.heap.size = N at hN hNz ⊢
    go_loopg [48] 81 (fun gn u wr => ∃ (q : Nat) (cs : Array Value), q ≤ 81 ∧ gn = 81 - q ∧ u = .int .i64 q ∧ Has wr N 3 cs ∧ RowA cs (fun st => if st < (q : Int) then gro v (ind st) os 0 k 0 else 0) ∧ Below w.heap.size w wr)
    case atStart => exact ⟨0, cs6, by omega, rfl, rfl, hN.out, hfill.out, hB6.out⟩
    case round =>
      obtain ⟨q, cs, hq, hgn, rfl, hC, hA, hB⟩ := hrel
      have hgk : gk = 81 - q := hgn
      clear hgn
      by_cases hlt : q < 81
      · have hq0 : (0 : Int) ≤ (q : Int) := by omega
        have hq1 : (q : Int) < 81 := by omega
        obtain ⟨hx, hy⟩ := hrow.out.2 q hlt
        rw [hsl.out q hlt] at hy
        have hix := fun wx => index_sl hx hy hlt wx
        have hRn := Lib.hid (show RowA (cs.setIfInBounds q (.int .i64 (gro v (ind q) os 0 k 0))) (fun st => if st < ((q + 1 : Nat) : Int) then gro v (ind st) os 0 k 0 else 0) from ⟨by simpa using hA.1, fun z hz => by
          dsimp only
          rw [Array.getElem?_setIfInBounds]
          by_cases hzq : q = z
          · subst hzq
            rw [if_pos rfl, if_pos (by rw [hA.1]; exact hlt), if_pos (by omega)]
          · rw [if_neg hzq, hA.2 z hz]
            dsimp only
            by_cases h1 : (z : Int) < (q : Int)
            · rw [if_pos h1, if_pos (by omega)]
            · rw [if_neg h1, if_neg (by omega)]⟩)
        generalize gro v (ind (q : Int)) os 0 k 0 = Y at hy hix hRn
        generalize ent ns m q = X at hx hix
        have hXn := Lib.hid (Has.new wr 87 #[.int .i64 X, .int .i64 Y])
        have hCa := Lib.hid (hC.alloc (.cells #[.int .i64 X, .int .i64 Y] 87))
        have hBa := Lib.hid (hB.alloc hB.size (.cells #[.int .i64 X, .int .i64 Y] 87))
        have hNl := Lib.hid hC.lt
        obtain ⟨u0, hu0⟩ := hCa.out.size_cell (x := q) (by rw [hA.1]; exact hlt)
        have fq := hCa.out.frozen q
        have hCn := Lib.hid (hCa.out.put q (.int .i64 Y))
        have hBn := Lib.hid (hBa.out.setCell (p := ⟨N, q, none⟩) hNz.out (.int .i64 Y))
        clear hC hA hB hx hy
        go_wp2_with fail
        go_roundg (81 - (q + 1))
        case measure => omega
        case rel => exact ⟨q + 1, _, by omega, rfl, by go_num, hCn.out, hRn.out, hBn.out⟩
      · obtain rfl : q = 81 := by omega
        have hA2 := hA.congr (g' := fun st => gro v (ind st) os 0 k 0) (fun st hst => if_pos (by omega))
        have hF := Lib.hid (show IOwn wr w.heap.size (.slice (some ⟨N, 0, none⟩) 81 81) (slOf ps (k : Int) v) from by
          rw [hE2.out]
          exact IOwn.of_has hC (show cs.toList = ints (slopesL os k v) from hA2.list) (slopesL_len _ _ _) hNz.out (by decide))
        have hBf := Lib.hid hB
        clear hC hA hA2 hB
        go_wp2_with fail
        go_ret2
        exact ⟨_, by rw [hE1.out]; rfl, hF.out, hBf.out⟩
end Go.Proofs.Ytbndonfpdioibaa
