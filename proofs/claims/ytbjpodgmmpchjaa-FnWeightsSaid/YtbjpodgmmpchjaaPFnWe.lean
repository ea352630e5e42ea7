/- For every list of bytes: of the drawn program the program's WeightsOf, TotalOf and Reached tell what the model's tell, nothing and -1 where it is no program; its total is the sum of its weights, each state that is reached has a weight above 0, and where all traces are told each state's weight is the sum of its traces' weights. No condition. -/
import Derived.Test.YtbjpodgmmpchjaaRows
import Derived.Test.YtbjpodgmmpchjaaVp
import Derived.Test.YtbjpodgmmpchjaaDj
import Derived.Test.YtbjpodgmmpchjaaTrb
import Derived.Test.YtbjpodgmmpchjaaDy
import Derived.Test.YtbjpodgmmpchjaaKt
import Derived.Test.YtbjpodgmmpchjaaOpB
import Derived.Test.YtbjpodgmmpchjaaAb
import Derived.ProofKit
import Derived.OpenShut
import Derived.ShutString
import Derived.ChangeOld
import Derived.Below
namespace Go.Proofs.Ytbjpodgmmpchjaa.fnWeights
open Go.ChangeShapes Go.WideShapes Go.ChangeAt Go.RowKit 
set_option linter.unusedVariables false
set_option maxRecDepth 100000

theorem own : ownKnob Try.prog.godebug = none := by kernel_rfl
theorem laidOut : laidOutB Try.prog = true := by kernel_rfl

theorem rowsV_below' {w w' : World} {base : Nat} {v : Value} {rs : List (List Int)} {vs : List Value} (h : RowsV w base v rs vs) (hb : Below w.heap.size w w') : RowsV w' base v rs vs :=
  h.but (KeptBut.of_below hb (fun _ => False)) (fun _ _ h => h) (fun _ _ _ _ _ h => h)
theorem rows_at {o : Option (List Leaf)} {k : Nat} {es : List Int} (h : (rowsT o)[k]? = some es) : ∃ l, (o.getD [])[k]? = some l ∧ l.1 = es := by
  unfold rowsT at h
  rw [List.getElem?_map] at h
  obtain ⟨l, hl, e⟩ := Option.map_eq_some_iff.1 h
  exact ⟨l, hl, e⟩
theorem rows_length (o : Option (List Leaf)) : (rowsT o).length = (o.getD []).length := List.length_map _
theorem leaf_facts {ps os : List St} (hu : unrolled ps = some os) : (∀ l ∈ (tracesOf ps).getD [], runTrace ps l.1 = some l.2 ∧ (0 ≤ l.2.1 ∧ l.2.1 ≤ 80) ∧ 0 ≤ l.2.2 ∧ l.1.length ≤ 12) ∧ ((tracesOf ps).getD []).length ≤ 531441 ∧
    (∀ (q : Int) (k : Nat), 0 ≤ sumL (ind q) (((tracesOf ps).getD []).take k) ∧ sumL (ind q) (((tracesOf ps).getD []).take k) ≤ 150094635296999121) ∧ ((tracesOf ps).isSome = true → accL ((tracesOf ps).getD []) ((tracesOf ps).getD []).length = weightsFrom ps 0) := by
  obtain ⟨_, h12, _, _, hOK⟩ := unrolled_parts hu
  have hok : ∀ s ∈ os, s.ok = true := fun s hs => List.all_eq_true.1 hOK s hs
  have hw : weightsFrom ps 0 = wts os 0 := by
    unfold weightsFrom
    rw [hu]
    exact if_pos (by decide)
  have ht : tracesOf ps = if (os.filter St.draws).length ≤ 6 then some (traces os) else none := by
    unfold tracesOf
    rw [hu]; rfl
  by_cases h6 : (os.filter St.draws).length ≤ 6
  · rw [if_pos h6] at ht
    rw [ht, hw]
    show (∀ l ∈ traces os, _) ∧ (traces os).length ≤ 531441 ∧ (∀ (q : Int) (k : Nat), 0 ≤ sumL (ind q) ((traces os).take k) ∧ sumL (ind q) ((traces os).take k) ≤ 150094635296999121) ∧ (_ → accL (traces os) (traces os).length = wts os 0)
    refine ⟨fun l hl => ?_, traces_len h12, fun q k => ?_, fun _ => accL_all (Nat.le_refl _)⟩
    · obtain ⟨f1, f2, _, f4⟩ := traces_fit hok hl
      have h5 : (os.filter St.draws).length ≤ os.length := List.length_filter_le _ _
      refine ⟨?_, f1, by omega, by omega⟩
      unfold runTrace
      rw [hu]
      exact (traces_iff.1 hl).1
    · have hb := sumL_bd (ls := traces os) (fun l hl => by have := (traces_fit hok hl).2.1; omega) q k
      have h := val_bd (ind q) 1 (fun y _ _ => by unfold ind; split <;> omega) (by decide) (os.drop 0) 0 0 (fun s hx => hok s (List.mem_of_mem_drop hx)) (by decide)
      have h2 := V2_top h12 0
      unfold V2 at h2
      rw [Nat.sub_zero] at h2
      rw [Int.one_mul, List.drop_zero] at h
      have h3 := traces_sum (ind q) os
      unfold valAt at h3
      rw [List.drop_zero] at h3
      exact ⟨hb.1, Int.le_trans hb.2 (by rw [h3]; exact Int.le_trans h.2 h2)⟩
  · rw [if_neg h6] at ht
    rw [ht]
    refine ⟨fun l hl => by simp at hl, by simp, fun q k => by simp [sumL], fun h => by cases h⟩
theorem reach_facts {ps : List St} : ∀ x ∈ reached ps, ∃ (q : Nat) (d : Int), x = (q : Int) ∧ (weightsFrom ps 0)[q]? = some d ∧ 0 < d := by
  intro x hx
  unfold reached reach at hx
  obtain ⟨q, hq, rfl⟩ := List.mem_map.1 hx
  obtain ⟨h1, h2⟩ := List.mem_filter.1 hq
  have hl := List.mem_range.1 h1
  have h0 := weights_nonneg ps _ (List.getElem_mem hl)
  have e : (weightsFrom ps 0).getD q 0 = (weightsFrom ps 0)[q] := by rw [List.getD_eq_getElem?_getD, List.getElem?_eq_getElem hl]; rfl
  rw [e] at h2
  have h3 : (weightsFrom ps 0)[q] ≠ 0 := by simpa using h2
  exact ⟨q, _, rfl, List.getElem?_eq_getElem hl, by omega⟩
theorem total_some {ps os : List St} (hu : unrolled ps = some os) : totalOf ps = isum (weightsFrom ps 0) ∧ (weightsFrom ps 0).length = 81 ∧ isum (weightsFrom ps 0) ≤ 150094635296999121 := by
  obtain ⟨_, h12, _, _, hOK⟩ := unrolled_parts hu
  have hok : ∀ s ∈ os, s.ok = true := fun s hs => List.all_eq_true.1 hOK s hs
  have hw : weightsFrom ps 0 = wts os 0 := by
    unfold weightsFrom
    rw [hu]
    exact if_pos (by decide)
  rw [hw]
  refine ⟨?_, wts_length os 0, wts_top hok h12 (by decide)⟩
  unfold totalOf
  rw [hu]
  exact (wts_sum (st := 0) hok (by decide)).symm

set_option maxHeartbeats 1000000 in
theorem walk {H : Type} (enc : TypeId × Value → H) (W : World) (base : Nat) (v0 : Value) (d0 : DataW H) (p0 : List MemPlace) (hv0 : Value.okWide Try.prog W .any base 40 v0)
    (h0 : DataW.Trod enc Try.prog W 0 (fun _ => true) true 40 v0 d0 p0) (_ : ∀ x ∈ p0, x.block < W.heap.size) :
    Calls Try.prog 8 #[v0] W fun e w' => e = .returned (.bool true) ∧ Below W.heap.size W w' := by
  obtain ⟨A, n, c, rfl, hn, hc, hb⟩ := open_bytes hv0 h0
  clear hv0 h0
  have hcM := Lib.hid hc
  have hnn : n ≤ 9223372036854775807 := by unfold maxLen at hc; omega
  clear hc
  by_cases h1 : 1048576 < n
  · go_enter Try.func8, Try.ntmps8
    go_wp2_with fail
    go_ret
    exact ⟨rfl, Below.refl _ _⟩
  go_enter Try.func8, Try.ntmps8
  go_wp2_with fail
  refine (DrawWeightsOf_any A n c _ hb hn hcM.out).mono ?_
  rintro e w1 ⟨v, ps, rfl, hO, hl11, hB1⟩
  obtain ⟨A1, c1, hv, hlc, hcm⟩ := hO.form
  subst hv
  have hP1 := Lib.hid hO.lst
  have hB1' := Lib.hid hB1
  have hbg : ps.length ≤ 1048576 := by omega
  have cV := Lib.hid (fun wx (hx : Lst wx wx.heap.size A1 ps.length ps) => WeightsOf_any A1 ps.length c1 ps wx hx hlc hcm)
  have cVs := Lib.hid (fun wx (hx : Lst wx wx.heap.size A1 ps.length ps) => specWeightsOf_any A1 ps.length c1 ps wx hx hlc hcm hbg)
  have cT := Lib.hid (fun wx (hx : Lst wx wx.heap.size A1 ps.length ps) => TotalOf_any A1 ps.length c1 ps wx hx hlc hcm)
  have cTs := Lib.hid (fun wx (hx : Lst wx wx.heap.size A1 ps.length ps) => specTotalOf_any A1 ps.length c1 ps wx hx hlc hcm hbg)
  have cR := Lib.hid (fun wx (hx : Lst wx wx.heap.size A1 ps.length ps) => Reached_any A1 ps.length c1 ps wx hx hlc hcm)
  have cRs := Lib.hid (fun wx (hx : Lst wx wx.heap.size A1 ps.length ps) => specReached_any A1 ps.length c1 ps wx hx hlc hcm hbg)
  have cP := Lib.hid (fun wx (hx : Lst wx wx.heap.size A1 ps.length ps) => ProgramOk_any A1 ps.length c1 ps wx hx hlc hcm)
  have cA := Lib.hid (fun wx (hx : Lst wx wx.heap.size A1 ps.length ps) => TracesOf_any A1 ps.length c1 ps wx hx hlc hcm)
  have cX := Lib.hid (fun A2 n2 c2 ds wx (hx : Lst wx wx.heap.size A1 ps.length ps) h2 hn2 => RunTrace_any A1 A2 ps.length c1 n2 c2 ps ds wx hx hlc hcm h2 hn2)
  unfold Wtsd at cV cVs cR cRs
  unfold TrOa at cA
  unfold RTd at cX
  have hwl := weightsFrom_len ps 0
  have hrl : (reached ps).length ≤ 81 := Nat.le_trans (reach_len _ _) hwl
  have hWb := Lib.hid (weights_nonneg ps)
  have hRf := Lib.hid (reach_facts (ps := ps))
  have hNone := Lib.hid (show unrolled ps = none → weightsFrom ps 0 = [] ∧ totalOf ps = -1 from fun h => by
    unfold weightsFrom totalOf
    rw [h]
    exact ⟨rfl, rfl⟩)
  have hSome := Lib.hid (fun os (h : unrolled ps = some os) => total_some h)
  have hLf := Lib.hid (fun os (h : unrolled ps = some os) => leaf_facts h)
  generalize weightsFrom ps 0 = ws at cV cVs hwl hWb hRf hNone hSome hLf
  generalize reached ps = re at cR cRs hrl hRf
  generalize totalOf ps = tot at cT cTs hNone hSome
  have n1 : (tot != tot) = false := by simp
  have n2 : (tot == tot) = true := by simp
  have hwm : ws.length ≤ maxLen := by unfold maxLen; omega
  have hrm : re.length ≤ maxLen := by unfold maxLen; omega
  clear hO hB1 hb hlc hcm
  go_wp2_with fail
  refine (cV.out _ hP1.out).mono ?_
  rintro e w2 ⟨v2, rfl, hI2, hb2⟩
  obtain ⟨A3, c3, hv, _, _⟩ := hI2.form
  subst hv
  have hB2 := Lib.hid (hB1'.out.trans (hb2.mono hB1'.out.size))
  have hP2 := Lib.hid ((hP1.out.below hb2).more hb2.size)
  have hX2 := Lib.hid hI2.lst
  clear hI2 hb2
  go_wp2_with fail
  refine (cVs.out _ hP2.out).mono ?_
  rintro e w3 ⟨v3, rfl, hI3, hb3⟩
  obtain ⟨A4, c4, hv, _, _⟩ := hI3.form
  subst hv
  have hB3 := Lib.hid (hB2.out.trans (hb3.mono hB2.out.size))
  have hP3 := Lib.hid ((hP2.out.below hb3).more hb3.size)
  have hX3 := Lib.hid ((hX2.out.below hb3).more hb3.size)
  have hY3 := Lib.hid hI3.lst
  clear hI3 hb3
  go_wp2_with fail
  refine (wcInts_any A3 A4 ws.length ws.length c3 c4 ws ws _ hX3.out hY3.out hwm hwm).mono ?_
  rw [decide_eq_true (rfl : ws = ws)]
  rintro e w4 ⟨rfl, hq⟩
  have hb4 : Below w3.heap.size w3 w4 := by obtain ⟨q, rfl⟩ := hq; exact below_drewN (Below.refl _ _) q
  have hB4 := Lib.hid (hB3.out.trans (hb4.mono hB3.out.size))
  have hP4 := Lib.hid ((hP3.out.below hb4).more hb4.size)
  have hX4 := Lib.hid ((hX3.out.below hb4).more hb4.size)
  clear hq hb4
  go_wp2_with fail
  refine (cT.out _ hP4.out).mono ?_
  rintro e w5 ⟨rfl, hb5⟩
  have hB5 := Lib.hid (hB4.out.trans (hb5.mono hB4.out.size))
  have hP5 := Lib.hid ((hP4.out.below hb5).more hb5.size)
  have hX5 := Lib.hid ((hX4.out.below hb5).more hb5.size)
  clear hb5
  go_wp2_with fail
  refine (cTs.out _ hP5.out).mono ?_
  rintro e w6 ⟨rfl, hb6⟩
  have hB6 := Lib.hid (hB5.out.trans (hb6.mono hB5.out.size))
  have hP6 := Lib.hid ((hP5.out.below hb6).more hb6.size)
  have hX6 := Lib.hid ((hX5.out.below hb6).more hb6.size)
  clear hb6
  go_wp2_with fail
  refine (cR.out _ hP6.out).mono ?_
  rintro e w7 ⟨v7, rfl, hI7, hb7⟩
  obtain ⟨A7, c7, hv, _, _⟩ := hI7.form
  subst hv
  have hB7 := Lib.hid (hB6.out.trans (hb7.mono hB6.out.size))
  have hP7 := Lib.hid ((hP6.out.below hb7).more hb7.size)
  have hX7 := Lib.hid ((hX6.out.below hb7).more hb7.size)
  have hZ7 := Lib.hid hI7.lst
  clear hI7 hb7
  go_wp2_with fail
  refine (cRs.out _ hP7.out).mono ?_
  rintro e w8 ⟨v8, rfl, hI8, hb8⟩
  obtain ⟨A8, c8, hv, _, _⟩ := hI8.form
  subst hv
  have hB8 := Lib.hid (hB7.out.trans (hb8.mono hB7.out.size))
  have hP8 := Lib.hid ((hP7.out.below hb8).more hb8.size)
  have hX8 := Lib.hid ((hX7.out.below hb8).more hb8.size)
  have hZ8 := Lib.hid ((hZ7.out.below hb8).more hb8.size)
  have hY8 := Lib.hid hI8.lst
  clear hI8 hb8
  go_wp2_with fail
  refine (wcInts_any A7 A8 re.length re.length c7 c8 re re _ hZ8.out hY8.out hrm hrm).mono ?_
  rw [decide_eq_true (rfl : re = re)]
  rintro e w9 ⟨rfl, hq⟩
  have hb9 : Below w8.heap.size w8 w9 := by obtain ⟨q, rfl⟩ := hq; exact below_drewN (Below.refl _ _) q
  have hB9 := Lib.hid (hB8.out.trans (hb9.mono hB8.out.size))
  have hP9 := Lib.hid ((hP8.out.below hb9).more hb9.size)
  have hX9 := Lib.hid ((hX8.out.below hb9).more hb9.size)
  clear hq hb9
  cases hu : unrolled ps with
  | none =>
    obtain ⟨hE, hT⟩ := hNone.out hu
    subst hE hT
    rw [hu] at cP
    clear hu n1 n2
    go_wp2_with fail
    refine (cP.out _ hP9.out).mono ?_
    rintro e w10 ⟨rfl, hb10⟩
    have hB10 := Lib.hid (hB9.out.trans (hb10.mono hB9.out.size))
    have hP10 := Lib.hid ((hP9.out.below hb10).more hb10.size)
    clear hb10
    go_wp2_with fail
    refine (cT.out _ hP10.out).mono ?_
    rintro e w11 ⟨rfl, hb11⟩
    have hB11 := Lib.hid (hB10.out.trans (hb11.mono hB10.out.size))
    clear hb11
    go_wp2_with fail
    go_ret
    exact ⟨rfl, hB11.out⟩
  | some os =>
    obtain ⟨hTot, h81, hTop⟩ := hSome.out os hu
    obtain ⟨hLv, hLl, hLs, hLe⟩ := hLf.out os hu
    have hLv' := Lib.hid hLv
    have hLs' := Lib.hid hLs
    have hLe' := Lib.hid hLe
    have hRat := Lib.hid (fun (k : Nat) (es : List Int) (h : (rowsT (tracesOf ps))[k]? = some es) => rows_at h)
    have hRl := rows_length (tracesOf ps)
    rw [hu] at cP
    rw [h81] at hX9
    rw [h81]
    clear hu hLv hLs hLe hLf hSome hNone
    generalize (tracesOf ps).isSome = ok at cA hLe'
    generalize (tracesOf ps).getD [] = L at hLv' hLs' hLe' hLl hRat hRl
    generalize rowsT (tracesOf ps) = rs at cA hRat hRl
    go_wp2_with fail
    refine (cP.out _ hP9.out).mono ?_
    rintro e w10 ⟨rfl, hb10⟩
    have hB10 := Lib.hid (hB9.out.trans (hb10.mono hB9.out.size))
    have hP10 := Lib.hid ((hP9.out.below hb10).more hb10.size)
    have hX10 := Lib.hid ((hX9.out.below hb10).more hb10.size)
    clear hb10
    obtain ⟨i0, hi0, hz0, hz1', hz2'⟩ := info_parts info_int
    have hmk : ∀ wx : World, (Instr.makeSlice 24 (.int .i64 81) (.int .i64 81)).run Try.prog wx = .ok (.slice (some ⟨wx.heap.size, 0, none⟩) 81 81) (wx.alloc (.cells (madeCells (Value.int .i64 0).cells (81 * 1)) 3)) := by
      intro wx
      have hr := run_make (P := Try.prog) wx 24 3 i0 _ Try.underlying24 hi0 hz0 .i64 .i64 81 81 (by omega) (by omega) (by rw [hz2']; omega) (by omega)
      rw [hz1'] at hr
      exact hr
    go_wp2_with fail
    refine (cA.out _ hP10.out).mono ?_
    rintro e w11 ⟨v11, vs11, rfl, hR11, _, hb11⟩
    obtain ⟨A11, c11, hv, _, _⟩ := hR11.form
    subst hv
    have hB11 := Lib.hid (hB10.out.trans (hb11.mono hB10.out.size))
    have hP11 := Lib.hid ((hP10.out.below hb11).more hb11.size)
    have hX11 := Lib.hid ((hX10.out.below hb11).more hb11.size)
    have hR11' := Lib.hid hR11
    have hz11 := hB11.out.size
    clear hR11 hb11
    have hO0 := Lib.hid (show (w11.alloc (.cells (madeCells #[.int .i64 0] 81) 3)).ownsRow w11.heap.size 3 1 (.slice (some ⟨w11.heap.size, 0, none⟩) 81 81) 81 (ints (accL L 0)) from by
      rw [accL_zero]
      have := IOwn.of_has (ds := zs 81) (Has.new w11 3 _) (made_ints 81) (zs_len 81) (Nat.le_refl _) (by decide)
      unfold IOwn at this
      rw [zs_len] at this
      exact this)
    have hB0 := Lib.hid ((Below.refl w11.heap.size w11).alloc (Nat.le_refl _) (.cells (madeCells #[.int .i64 0] 81) 3))
    go_wp2_with fail
    clear hmk
    go_loopg [61] rs.length (fun gn o wr => ∃ k : Nat, k ≤ rs.length ∧ gn = rs.length - k ∧ o = .int .i64 k ∧ wr.ownsRow w11.heap.size 3 1 (.slice (some ⟨w11.heap.size, 0, none⟩) 81 81) 81 (ints (accL L k)) ∧ Below w11.heap.size w11 wr)
    case atStart => exact ⟨0, Nat.zero_le _, rfl, rfl, hO0.out, hB0.out⟩
    case round =>
      obtain ⟨k, hk, hgn, rfl, hown, hB⟩ := hrel
      have hgk : gk = rs.length - k := hgn
      clear hgn
      obtain ⟨wq, rfl⟩ : ∃ x, x = wr := ⟨_, rfl⟩
      obtain ⟨gq, rfl⟩ : ∃ x, x = gk := ⟨_, rfl⟩
      have hOw := Lib.hid hown
      have hBq := Lib.hid hB
      have hzq := hB.size
      have hBW := Lib.hid (hB11.out.trans (hB.mono hz11))
      have hPq := Lib.hid ((hP11.out.below hB).more hzq)
      have hXq := Lib.hid ((hX11.out.below hB).more hzq)
      have hRq := Lib.hid (rowsV_below' hR11'.out hB)
      clear hown hB
      by_cases hlt : k < rs.length
      · obtain ⟨g, Ax, cx, es, rfl, _, hcg, hes, hOx⟩ := hRq.out.at_ rfl hlt
        obtain ⟨l, hl, hle⟩ := hRat.out k es hes
        obtain ⟨hrun, hst, hwt, hl12⟩ := hLv'.out l (List.mem_of_getElem? hl)
        obtain ⟨lp, st, wt⟩ := l
        have hle' : lp = es := hle
        subst hle'
        have hst' : 0 ≤ st ∧ st ≤ 80 := hst
        have hwt' : 0 ≤ wt := hwt
        have hl12' : lp.length ≤ 12 := hl12
        obtain ⟨z, rfl⟩ : ∃ z : Nat, st = (z : Int) := ⟨st.toNat, by omega⟩
        have hz81 : z < 81 := by omega
        have hIx := Lib.hid hOx.lst
        have cXk := Lib.hid (cX.out Ax lp.length cx lp _ hPq.out hIx.out (by unfold maxLen; omega))
        have hrun' : runTrace ps lp = some ((z : Int), wt) := hrun
        rw [hrun'] at cXk
        have hNx := Lib.hid (show sumL (ind z) (L.take (k + 1)) = sumL (ind z) (L.take k) + wt from by
          rw [sumL_take hl]
          show _ + wt * ind z z = _
          unfold ind
          rw [if_pos rfl, Int.mul_one])
        have hSt := Lib.hid (accL_step hl (z := z) rfl hz81)
        have b1 := hLs'.out z k
        have b2 := hLs'.out z (k + 1)
        rw [hNx.out] at b2
        have hk0 : (0 : Int) ≤ (k : Int) := by omega
        have hk1 : (k : Int) < (rs.length : Int) := by omega
        clear hOx hes hl hle hrun hrun' hst hwt hl12
        go_wp2_with fail
        refine cXk.out.mono ?_
        rintro e w12 ⟨rfl, hb12⟩
        have hO12 := owns_but hOw.out (KeptBut.of_below hb12 (fun _ => False)) (fun _ _ h => h)
        have hB12 := Lib.hid (hBq.out.trans (hb12.mono hzq))
        obtain ⟨b, cur, hbe, hwb', hH, _, _, _, hcl⟩ := owns_open hO12 (by decide)
        have hbe' : w11.heap.size = b := by injection hbe with e; injection e
        subst hbe'
        have hc1 := hcl z (by omega)
        rw [ints_get (accL_at L k hz81)] at hc1
        have hfz := hH.frozen z
        have hO13 := Lib.hid (owns_set (x := sumL (ind z) (L.take k) + wt) hO12 hz81)
        have hB13 := Lib.hid (hB12.out.setCell (p := ⟨w11.heap.size, z, none⟩) (Nat.le_refl _) (.int .i64 (sumL (ind z) (L.take k) + wt)))
        have hSt' := Lib.hid (show (accL L k).set z (sumL (ind z) (L.take k) + wt) = accL L (k + 1) from hSt.out)
        generalize sumL (ind z) (L.take k) = sk at *
        have hw : IntKind.i64.wrap (sk + wt) = sk + wt := by rw [IntKind.wrap_i64]; omega
        have hz0 : (0 : Int) ≤ (z : Int) := by omega
        have hz1 : (z : Int) < 81 := by omega
        clear hb12 hO12 hbe hwb' hH hcl hcg
        go_wp2_with fail
        go_roundg (rs.length - (k + 1))
        case measure => omega
        case rel => exact ⟨k + 1, by omega, rfl, by go_num, by rw [← hSt'.out]; exact hO13.out, hB13.out⟩
      · obtain hkr : k = rs.length := by omega
        have hSums := Lib.hid (show ok = true → Ils wq wq.heap.size (some ⟨w11.heap.size, 0, none⟩) 81 ws from fun h => by
          have h1 := ownI_lst hOw.out
          rw [hkr, hRl, hLe'.out h] at h1
          exact h1)
        clear hOw
        go_wp2_with fail
        refine (cR.out _ hPq.out).mono ?_
        rintro e w13 ⟨v13, rfl, hI13, hb13⟩
        obtain ⟨A13, c13, hv, _, _⟩ := hI13.form
        subst hv
        have hB13 := Lib.hid (hBW.out.trans (hb13.mono hBW.out.size))
        have hP13 := Lib.hid ((hPq.out.below hb13).more hb13.size)
        have hX13 := Lib.hid ((hXq.out.below hb13).more hb13.size)
        have hS13 := Lib.hid (fun h => ((hSums.out h).below hb13).more hb13.size)
        have hY13 := Lib.hid hI13.lst
        have hz13 := hB13.out.size
        clear hI13 hb13 hSums
        go_wp2_with fail
        go_loopg [85] re.length (fun gn o wr => ∃ j : Nat, j ≤ re.length ∧ gn = re.length - j ∧ o = .int .i64 j ∧ Below w13.heap.size w13 wr)
        case atStart => exact ⟨0, Nat.zero_le _, rfl, rfl, Below.refl _ _⟩
        case round =>
          obtain ⟨j, hj, hgn, rfl, hB⟩ := hrel
          have hgj : gk = re.length - j := hgn
          have hBr := Lib.hid hB
          have hBX := Lib.hid (hB13.out.trans (hB.mono hz13))
          clear hgn
          by_cases hltj : j < re.length
          · obtain ⟨g2, o2, x, rfl, _, hx, x0⟩ := (hY13.out.below hB).at_ hltj
            obtain ⟨q, d, rfl, hd, hd0⟩ := hRf.out x (List.mem_of_getElem? hx)
            obtain ⟨g3, o3, hA3, _, hc3⟩ := (hX13.out.below hB).2 (by decide)
            have x1 := hc3 q d hd
            have hq81 : q < 81 := by
              have := (List.getElem?_eq_some_iff.1 hd).1
              omega
            have hq0 : (0 : Int) ≤ (q : Int) := by omega
            have hq1 : (q : Int) < 81 := by omega
            have hj0 : (0 : Int) ≤ (j : Int) := by omega
            have hj1 : (j : Int) < (re.length : Int) := by omega
            have m1 : ¬ d ≤ 0 := by omega
            subst hA3
            clear hB hx hd hc3
            go_wp2_with fail
            go_roundg (re.length - (j + 1))
            case measure => omega
            case rel => exact ⟨j + 1, by omega, rfl, by go_num, hBr.out⟩
          · have hPr := Lib.hid ((hP13.out.below hB).more hB.size)
            have hXr := Lib.hid ((hX13.out.below hB).more hB.size)
            have hSr := Lib.hid (fun h => ((hS13.out h).below hB).more hB.size)
            clear hB
            have n3 : (tot == isum ws) = true := by simp [hTot]
            go_wp2_with fail
            refine (cT.out _ hPr.out).mono ?_
            rintro e w14 ⟨rfl, hb14⟩
            have hB14 := Lib.hid (hBX.out.trans (hb14.mono hBX.out.size))
            have hX14 := Lib.hid ((hXr.out.below hb14).more hb14.size)
            have hS14 := Lib.hid (fun h => ((hSr.out h).below hb14).more hb14.size)
            clear hb14
            go_wp2_with fail
            refine (wcSum_any A3 81 c3 ws _ hX14.out (by decide) (fun x hx => hWb.out x hx) (by omega)).mono ?_
            rintro e w15 ⟨rfl, hb15⟩
            have hB15 := Lib.hid (hB14.out.trans (hb15.mono hB14.out.size))
            have hX15 := Lib.hid ((hX14.out.below hb15).more hb15.size)
            have hS15 := Lib.hid (fun h => ((hS14.out h).below hb15).more hb15.size)
            clear hb15 hTot
            cases ok
            · go_wp2_with fail
              go_ret
              exact ⟨rfl, hB15.out⟩
            · have hSx := Lib.hid (hS15.out rfl)
              go_wp2_with fail
              refine (wcInts_any _ A3 81 81 81 c3 ws ws _ hSx.out hX15.out (by decide) (by decide)).mono ?_
              rw [decide_eq_true (rfl : ws = ws)]
              rintro e w16 ⟨rfl, q, rfl⟩
              go_wp2_with fail
              go_ret
              exact ⟨rfl, below_drewN hB15.out _⟩

set_option maxRecDepth 100000 in
theorem lifted (os : Os) (started : os.Started) (H : Type) (enc : TypeId × Value → H) :
    ReturnsInHanded {} Try.checked os 8 .any (Rows.fnWeightsSpec.pre6 enc Try.prog Try.f8 Rows.fnWeightsRow.domain false) (Rows.fnWeightsSpec.post enc Try.prog Try.f8 false true false false) := by
  refine returnsInHanded_of_change (C := Try.checked) own started (by kernel_rfl) Try.func8
    (ChangeSpec.witness6 (enc := enc) (C := Try.checked) false ⟨#[], #[.slice none 0 0], []⟩ 8 (by kernel_rfl) (by kernel_rfl) (by kernel_rfl) (by kernel_rfl)) ?_
  intro W base args ds gs before hval0 hW hcnd _
  have hval : ∀ (j : Nat) t v, Try.f8.params[j]? = some t → args[j]? = some v → Value.okWide Try.prog W .any base t v := hval0
  have hW' := hW
  obtain ⟨p, q, hA0, hV, rfl, hfz, hnd⟩ := hW
  have hA : DataW.TrodAll enc Try.prog W 0 (fun _ => true) true Try.f8.params.toList args.toList ds p := hA0
  rw [Try.params8] at hA hval
  obtain ⟨v0, vs0, d0, ds0, p0, q0, hargs, rfl, rfl, h0, r0⟩ := trodAll_cons hA
  obtain ⟨rfl, rfl, rfl⟩ := trodAll_nil r0
  obtain rfl : args = #[v0] := by cases args; simp_all
  obtain ⟨rfl, rfl⟩ := trodVars_none hV
  have lt0 : ∀ x ∈ p0, x.block < W.heap.size := by
    obtain ⟨m, hm⟩ := h0
    exact DataW.trod_lt m _ _ _ hm
  clear hA0 hval0
  refine (walk enc W base v0 d0 p0 (hval 0 40 v0 rfl rfl) h0 lt0).mono fun e W' ⟨he, bel⟩ => ?_
  subst he
  exact ⟨_, rfl, _, _, _, [], _, [], hW', trodAll_mk1 (shut_bool Try.underlying4 _), (trodAll_cons_mk (Below.trod laidOut (by kernel_rfl) (of_decide_eq_true (by kernel_rfl)) h0 bel lt0) trodAll_mk0), rfl, bel.frame _, fun h => by cases h⟩

theorem proved : Rows.FnWeightsSaid :=
  OpenClaim.holds_of_wide 8 Try.f8 rfl rfl rfl rfl rfl rfl rfl ⟨rfl, rfl, rfl, rfl, rfl⟩ rfl rfl rfl rfl rfl (by kernel_rfl) Try.func8 (by kernel_rfl)
    (of_decide_eq_true (by kernel_rfl)) (by unfold Func.isWrapper; first | (rw [if_pos (by decide +kernel)]; kernel_rfl) | (rw [if_neg (by decide +kernel)]; exact ⟨rfl, rfl⟩))
    (fun os started H enc _ => lifted os started H enc)
end Go.Proofs.Ytbjpodgmmpchjaa.fnWeights
