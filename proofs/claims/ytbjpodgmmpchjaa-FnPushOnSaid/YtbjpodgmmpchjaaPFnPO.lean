/- For every list of bytes: of the drawn program and the drawn numbers the program's PushOn returns what the model's returns; nothing where it is refused, and else, for each state, the sum of the numbers times the weights from their states on. No condition. -/
import Derived.Test.YtbjpodgmmpchjaaRows
import Derived.Test.YtbjpodgmmpchjaaAf
import Derived.Test.YtbjpodgmmpchjaaDw
import Derived.Test.YtbjpodgmmpchjaaNm
import Derived.Test.YtbjpodgmmpchjaaKt
import Derived.ProofKit
import Derived.OpenShut
import Derived.ShutString
import Derived.ChangeOld
import Derived.Below
namespace Go.Proofs.Ytbjpodgmmpchjaa.fnPushOn
open Go.ChangeShapes Go.WideShapes Go.ChangeAt Go.RowKit 
set_option linter.unusedVariables false
set_option maxRecDepth 100000

theorem own : ownKnob Try.prog.godebug = none := by kernel_rfl
theorem laidOut : laidOutB Try.prog = true := by kernel_rfl

theorem pushOf_no {ps : List St} {ds : List Int} (h : pushOk ps ds = false) : pushOf ps ds = [] := by
  unfold pushOk at h
  unfold pushOf
  cases hu : unrolled ps with
  | none => rfl
  | some os =>
    rw [hu] at h
    have h' : (decide (os.length ≤ 10) && lstOk 9 ds) = false := h
    show (if (decide (os.length ≤ 10) && lstOk 9 ds) = true then pushed os ds else []) = []
    rw [h']
    rfl
theorem pushOf_yes {ps : List St} {ds : List Int} (h : pushOk ps ds = true) : ∃ os, unrolled ps = some os ∧ os.length ≤ 10 ∧ lstOk 9 ds = true ∧ pushOf ps ds = pushed os ds := by
  unfold pushOk at h
  cases hu : unrolled ps with
  | none => rw [hu] at h; cases h
  | some os =>
    rw [hu] at h
    have h' : (decide (os.length ≤ 10) && lstOk 9 ds) = true := h
    have h2 := h'
    rw [Bool.and_eq_true] at h2
    refine ⟨os, rfl, of_decide_eq_true h2.1, h2.2, ?_⟩
    unfold pushOf
    rw [hu]
    show (if (decide (os.length ≤ 10) && lstOk 9 ds) = true then pushed os ds else []) = _
    rw [h']
    rfl
/-- Sums, the first j weights added. -/
def addW (S ws : List Int) (d : Int) (j : Nat) : List Int := (List.range 81).map fun (q : Nat) => S.getD q 0 + if q < j then d * ws.getD q 0 else 0
theorem addW_len (S ws : List Int) (d : Int) (j : Nat) : (addW S ws d j).length = 81 := by simp [addW]
theorem addW_at (S ws : List Int) (d : Int) (j : Nat) {q : Nat} (h : q < 81) : (addW S ws d j)[q]? = some (S.getD q 0 + if q < j then d * ws.getD q 0 else 0) := by
  unfold addW
  rw [List.getElem?_map, List.getElem?_range h]; rfl
theorem addW_zero {S ws : List Int} {d : Int} (h : S.length = 81) : addW S ws d 0 = S := by
  apply List.ext_getElem?
  intro q
  by_cases hq : q < 81
  · rw [addW_at S ws d 0 hq, if_neg (by omega), Int.add_zero, List.getD_eq_getElem?_getD, List.getElem?_eq_getElem (by omega)]; rfl
  · rw [List.getElem?_eq_none (by rw [addW_len]; omega), List.getElem?_eq_none (by omega)]
theorem addW_step (S ws : List Int) (d : Int) {j : Nat} (h : j < 81) : (addW S ws d j).set j (S.getD j 0 + d * ws.getD j 0) = addW S ws d (j + 1) := by
  apply List.ext_getElem?
  intro q
  by_cases hq : q < 81
  · rw [addW_at S ws d (j + 1) hq]
    by_cases hqj : q = j
    · subst hqj
      rw [List.getElem?_set_self (by rw [addW_len]; exact hq), if_pos (by omega)]
    · rw [List.getElem?_set_ne (by omega), addW_at S ws d j hq]
      by_cases h1 : q < j
      · rw [if_pos h1, if_pos (by omega)]
      · rw [if_neg h1, if_neg (by omega)]
  · rw [List.getElem?_eq_none (by rw [List.length_set, addW_len]; omega), List.getElem?_eq_none (by rw [addW_len]; omega)]
theorem pushed_at (os : List St) (ds : List Int) {q : Nat} (h : q < 81) : (pushed os ds)[q]? = some (rsum (valAt (ind q) os 0) ds 0) := by
  unfold pushed
  rw [List.getElem?_map, List.getElem?_range h]; rfl
theorem pushed_getD (os : List St) (ds : List Int) {q : Nat} (h : q < 81) : (pushed os ds).getD q 0 = rsum (valAt (ind q) os 0) ds 0 := by
  rw [List.getD_eq_getElem?_getD, pushed_at os ds h]; rfl
theorem wts_getD (os : List St) (st : Int) {q : Nat} (h : q < 81) : (wts os st).getD q 0 = valAt (ind q) os 0 st := by
  unfold wts
  rw [List.getD_eq_getElem?_getD, List.getElem?_map, List.getElem?_range h]; rfl
theorem addW_all {os : List St} {ds : List Int} {k : Nat} {d : Int} (h : ds[k]? = some d) : addW (pushed os (ds.take k)) (wts os k) d 81 = pushed os (ds.take (k + 1)) := by
  apply List.ext_getElem?
  intro q
  by_cases hq : q < 81
  · rw [addW_at _ _ d 81 hq, pushed_at os _ hq, if_pos hq, pushed_getD os _ hq, wts_getD os k hq, rsum_take _ h]
  · rw [List.getElem?_eq_none (by rw [addW_len]; omega), List.getElem?_eq_none (by rw [pushed_len]; omega)]
theorem pushed_nil (os : List St) : pushed os [] = zs 81 := by
  unfold pushed zs
  rw [List.eq_replicate_iff]
  exact ⟨by simp, fun b hb => by
    obtain ⟨q, _, rfl⟩ := List.mem_map.1 hb
    rfl⟩
theorem pushed_same {os : List St} {ds : List Int} {k : Nat} (h : ds[k]? = some 0) : pushed os (ds.take (k + 1)) = pushed os (ds.take k) := by
  unfold pushed
  refine List.map_congr_left fun q _ => ?_
  rw [rsum_take _ h]
  omega
theorem entry_bd {os : List St} (hok : ∀ s ∈ os, s.ok = true) (hl : os.length ≤ 10) (q : Int) {st : Int} (hs : 0 ≤ st ∧ st ≤ 80) : 0 ≤ valAt (ind q) os 0 st ∧ valAt (ind q) os 0 st ≤ 205891132094649 := by
  have h := val_bd (ind q) 1 (fun y _ _ => by unfold ind; split <;> omega) (by decide) (os.drop 0) 0 st (fun s hx => hok s (List.mem_of_mem_drop hx)) hs
  have h2 := (V2_ten hl 0).2
  unfold V2 at h2
  rw [Nat.sub_zero] at h2
  rw [Int.one_mul, List.drop_zero] at h
  exact ⟨h.1, Int.le_trans h.2 h2⟩
theorem sums_bd {os : List St} (hok : ∀ s ∈ os, s.ok = true) (hl : os.length ≤ 10) {ds : List Int} (hd : ∀ x ∈ ds, 0 ≤ x ∧ x ≤ 9) (h81 : ds.length = 81) (q : Int) (k : Nat) : 0 ≤ rsum (valAt (ind q) os 0) (ds.take k) 0 ∧ rsum (valAt (ind q) os 0) (ds.take k) 0 ≤ 200000000000000000 := by
  have e : rsum (valAt (ind q) os 0) (ds.take k) 0 = rsum (fun st => max 0 (min 205891132094649 (valAt (ind q) os 0 st))) (ds.take k) 0 := rsum_congr _ 0 fun i _ h2 => by
    have h3 : (ds.take k).length ≤ ds.length := by rw [List.length_take]; omega
    have h := entry_bd hok hl q (st := i) (by omega)
    omega
  have h1 := rsum_part (v := fun st => max 0 (min 205891132094649 (valAt (ind q) os 0 st))) (c := 205891132094649) (fun st => by omega) (ds := ds.take k) 0 (fun y hy => (hd y (List.mem_of_mem_take hy)).1)
  have h2 := (isum_le (fun x hx => (hd x hx).1) k).2
  have h3 := (isum_top (by decide) hd).2
  rw [h81] at h3
  rw [e]
  omega

set_option maxHeartbeats 2000000 in
theorem walk {H : Type} (enc : TypeId × Value → H) (W : World) (base : Nat) (v0 : Value) (d0 : DataW H) (p0 : List MemPlace) (hv0 : Value.okWide Try.prog W .any base 40 v0)
    (h0 : DataW.Trod enc Try.prog W 0 (fun _ => true) true 40 v0 d0 p0) (_ : ∀ x ∈ p0, x.block < W.heap.size) :
    Calls Try.prog 9 #[v0] W fun e w' => e = .returned (.bool true) ∧ Below W.heap.size W w' := by
  obtain ⟨A, n, c, rfl, hn, hc, hb⟩ := open_bytes hv0 h0
  clear hv0 h0
  have hcM := Lib.hid hc
  have hnn : n ≤ 9223372036854775807 := by unfold maxLen at hc; omega
  clear hc
  by_cases h1 : 1048576 < n
  · go_enter Try.func9, Try.ntmps9
    go_wp2_with fail
    go_ret
    exact ⟨rfl, Below.refl _ _⟩
  go_enter Try.func9, Try.ntmps9
  go_wp2_with fail
  refine (DrawPushOn_any A n c _ hb hn hcM.out).mono ?_
  rintro e w1 ⟨v, u, ps, ds, rfl, hO, hl11, hI, hl82, hB1⟩
  obtain ⟨A1, c1, hv, hlc, hcm⟩ := hO.form
  subst hv
  obtain ⟨A2, c2, hv, hlc2, hcm2⟩ := hI.form
  subst hv
  have hP := Lib.hid hO.lst
  have hD := Lib.hid hI.lst
  have hB1' := Lib.hid hB1
  have hbg : ps.length ≤ 1048576 := by omega
  have hdm : ds.length ≤ maxLen := by unfold maxLen; omega
  have cI := Lib.hid (fun wx (hx : Lst wx wx.heap.size A1 ps.length ps) h2 => PushOn_any A1 A2 ps.length c1 ds.length c2 ps ds wx hx hlc hcm h2 hdm)
  have cS := Lib.hid (fun wx (hx : Lst wx wx.heap.size A1 ps.length ps) h2 => specPushOn_any A1 A2 ps.length c1 ds.length c2 ps ds wx hx hlc hcm hbg h2 hdm)
  have cW := Lib.hid (fun st wx (hx : Lst wx wx.heap.size A1 ps.length ps) => WeightsFrom_any A1 ps.length c1 ps st wx hx hlc hcm)
  unfold Lbd at cI cS
  unfold Wtsd at cW
  clear hO hI hB1 hb hlc hcm
  have hpl := pushOf_len ps ds
  cases hok : pushOk ps ds
  · have hE := pushOf_no hok
    rw [hok, hE] at cI cS
    clear hok hE hpl
    go_wp2_with fail
    refine (cI.out _ hP.out hD.out).mono ?_
    rintro e w2 ⟨v2, rfl, hI2, hb2⟩
    obtain ⟨A3, c3, hv, _, _⟩ := hI2.form
    subst hv
    have hB2 := Lib.hid (hB1'.out.trans (hb2.mono hB1'.out.size))
    have hP2 := Lib.hid ((hP.out.below hb2).more hb2.size)
    have hD2 := Lib.hid ((hD.out.below hb2).more hb2.size)
    have hI2' := Lib.hid hI2
    clear hI2 hb2
    go_wp2_with fail
    refine (cS.out _ hP2.out hD2.out).mono ?_
    rintro e w3 ⟨v3, rfl, hI3, hb3⟩
    obtain ⟨A4, c4, hv, _, _⟩ := hI3.form
    subst hv
    have hB3 := Lib.hid (hB2.out.trans (hb3.mono hB2.out.size))
    have hx3 := Lib.hid ((hI2'.out.below hb3).lst)
    have hy3 := Lib.hid hI3.lst
    clear hI3 hb3
    go_wp2_with (first | (go_at_call 33; refine (wcInts_any A3 A4 0 0 c3 c4 [] [] _ hx3.out hy3.out (by decide) (by decide)).mono ?_; rintro e w4 ⟨rfl, q, rfl⟩))
    go_ret
    exact ⟨rfl, below_drewN hB3.out _⟩
  · obtain ⟨os, hu, h10, hk9, hE⟩ := pushOf_yes hok
    obtain ⟨_, _, _, _, hOK⟩ := unrolled_parts hu
    have hokS : ∀ s ∈ os, s.ok = true := fun s hs => List.all_eq_true.1 hOK s hs
    have hLB := Lib.hid (lstOk_bd hk9)
    have hWt := Lib.hid (fun (k : Nat) (hk : k < 81) => show weightsFrom ps k = wts os k from by
      unfold weightsFrom
      rw [hu]
      exact if_pos (inB_yes (by omega)))
    have hEn := Lib.hid (fun (q : Int) (k : Nat) (hk : k < 81) => entry_bd hokS h10 q (st := k) (by omega))
    have hSm := Lib.hid (sums_bd hokS h10 hLB.out.2 hLB.out.1)
    have hT := Lib.hid (show ds.take 81 = ds from List.take_of_length_le (by rw [hLB.out.1]; exact Nat.le_refl _))
    rw [hok, hE] at cI cS
    have e81 := Lib.hid hLB.out.1
    clear hok hE hpl hk9 hu hOK hokS
    have hpl := pushed_len os ds
    rw [e81.out] at cI cS hD
    rw [e81.out]
    go_wp2_with fail
    refine (cI.out _ hP.out hD.out).mono ?_
    rintro e w2 ⟨v2, rfl, hI2, hb2⟩
    obtain ⟨A3, c3, hv, _, _⟩ := hI2.form
    rw [hpl] at hv
    subst hv
    have hB2 := Lib.hid (hB1'.out.trans (hb2.mono hB1'.out.size))
    have hP2 := Lib.hid ((hP.out.below hb2).more hb2.size)
    have hD2 := Lib.hid ((hD.out.below hb2).more hb2.size)
    have hI2' := Lib.hid hI2
    clear hI2 hb2
    go_wp2_with fail
    refine (cS.out _ hP2.out hD2.out).mono ?_
    rintro e w3 ⟨v3, rfl, hI3, hb3⟩
    obtain ⟨A4, c4, hv, _, _⟩ := hI3.form
    rw [hpl] at hv
    subst hv
    have hB3 := Lib.hid (hB2.out.trans (hb3.mono hB2.out.size))
    have hP3 := Lib.hid ((hP2.out.below hb3).more hb3.size)
    have hD3 := Lib.hid ((hD2.out.below hb3).more hb3.size)
    have hx3 := Lib.hid ((hI2'.out.below hb3).lst)
    have hy3 := Lib.hid hI3.lst
    clear hI3 hb3
    obtain ⟨i0, hi0, hz0, hz1', hz2'⟩ := info_parts info_int
    have hmk : ∀ wx : World, (Instr.makeSlice 24 (.int .i64 81) (.int .i64 81)).run Try.prog wx = .ok (.slice (some ⟨wx.heap.size, 0, none⟩) 81 81) (wx.alloc (.cells (madeCells (Value.int .i64 0).cells (81 * 1)) 3)) := by
      intro wx
      have hr := run_make (P := Try.prog) wx 24 3 i0 _ Try.underlying24 hi0 hz0 .i64 .i64 81 81 (by omega) (by omega) (by rw [hz2']; omega) (by omega)
      rw [hz1'] at hr
      exact hr
    go_wp2_with (first | (go_at_call 33; refine (wcInts_any A3 A4 81 81 c3 c4 (pushed os ds) (pushed os ds) _ hx3.out hy3.out (by decide) (by decide)).mono ?_; rw [decide_eq_true (rfl : pushed os ds = pushed os ds)]; rintro e w4 ⟨rfl, q, rfl⟩))
    clear hmk
    have hz3 := hB3.out.size
    have hO0 := Lib.hid (show ((w3.drewN q).alloc (.cells (madeCells #[.int .i64 0] 81) 3)).ownsRow w3.heap.size 3 1 (.slice (some ⟨w3.heap.size, 0, none⟩) 81 81) 81 (ints (pushed os (ds.take 0))) from by
      rw [List.take_zero, pushed_nil]
      have := IOwn.of_has (ds := zs 81) (Has.new (w3.drewN q) 3 _) (made_ints 81) (zs_len 81) (Nat.le_refl _) (by decide)
      unfold IOwn at this
      rw [zs_len] at this
      exact this)
    have hB0 := Lib.hid ((below_drewN (Below.refl w3.heap.size w3) q).alloc (Nat.le_refl _) (.cells (madeCells #[.int .i64 0] 81) 3))
    go_loopg [51] 81 (fun gn o wr => ∃ k : Nat, k ≤ 81 ∧ gn = 81 - k ∧ o = .int .i64 k ∧ wr.ownsRow w3.heap.size 3 1 (.slice (some ⟨w3.heap.size, 0, none⟩) 81 81) 81 (ints (pushed os (ds.take k))) ∧ Below w3.heap.size w3 wr)
    case atStart => exact ⟨0, Nat.zero_le _, rfl, rfl, hO0.out, hB0.out⟩
    case round =>
      obtain ⟨k, hk, hgn, rfl, hown, hB⟩ := hrel
      have hgk : gk = 81 - k := hgn
      clear hgn
      obtain ⟨wq, rfl⟩ : ∃ x, x = wr := ⟨_, rfl⟩
      obtain ⟨gq, rfl⟩ : ∃ x, x = gk := ⟨_, rfl⟩
      have hOw := Lib.hid hown
      have hBq := Lib.hid hB
      have hzq := hB.size
      have hBW := Lib.hid (hB3.out.trans (hB.mono hz3))
      have hPq := Lib.hid ((hP3.out.below hB).more hzq)
      have hDq := Lib.hid ((hD3.out.below hB).more hzq)
      clear hown hB
      by_cases hlt : k < 81
      · obtain ⟨g, off, d, rfl, hg, hd, c0⟩ := hDq.out.at_ hlt
        have hd9 := hLB.out.2 d (List.mem_of_getElem? hd)
        have hk0 : (0 : Int) ≤ (k : Int) := by omega
        have hk1 : (k : Int) < 81 := by omega
        by_cases hd0 : 0 < d
        · have hNx := Lib.hid (addW_all (os := os) hd)
          have cWk := Lib.hid (cW.out k _ hPq.out)
          rw [hWt.out k hlt] at cWk
          clear hd
          go_wp2_with fail
          refine cWk.out.mono ?_
          rintro e w5 ⟨v5, rfl, hI5, hb5⟩
          obtain ⟨A5, c5, hv, _, _⟩ := hI5.form
          rw [wts_length] at hv
          subst hv
          have hGq := (owns_has hOw.out rfl)
          have hGl : w3.heap.size < wq.heap.size := by
            obtain ⟨cur, hh⟩ := hGq
            exact hh.lt
          have hne5 := Lib.hid (show ∀ g, A5.map (·.block) = some g → ¬ g = w3.heap.size from fun g hg e => by
            have := (World.ownsRow.lt hI5 g (by rw [own_map]; exact hg)).1
            omega)
          have hL5 := Lib.hid (show Ils w5 w5.heap.size A5 81 (wts os k) from hI5.lst)
          have hO5 := Lib.hid (show w5.ownsRow w3.heap.size 3 1 (.slice (some ⟨w3.heap.size, 0, none⟩) 81 81) 81 (ints (addW (pushed os (ds.take k)) (wts os k) d 0)) from by
            rw [addW_zero (pushed_len _ _)]
            exact owns_but hOw.out (KeptBut.of_below hb5 (fun _ => False)) (fun _ _ h => h))
          have hB5 := Lib.hid (hBq.out.trans (hb5.mono hzq))
          have hSk := Lib.hid (fun (q : Nat) (hq : q < 81) => pushed_getD os (ds.take k) hq)
          have hWk := Lib.hid (fun (q : Nat) (hq : q < 81) => wts_getD os (k : Int) hq)
          have hEk := Lib.hid (fun (q : Nat) => hEn.out q k hlt)
          have hMk := Lib.hid (fun (q : Nat) => hSm.out q k)
          clear hI5 hb5 hGq cWk
          go_wp2_with fail
          go_loopg [62] 81 (fun gn o wr => ∃ j : Nat, j ≤ 81 ∧ gn = 81 - j ∧ o = .int .i64 j ∧ wr.ownsRow w3.heap.size 3 1 (.slice (some ⟨w3.heap.size, 0, none⟩) 81 81) 81 (ints (addW (pushed os (ds.take k)) (wts os k) d j)) ∧ Below w3.heap.size w3 wr ∧ Ils wr wr.heap.size A5 81 (wts os k))
          case atStart => exact ⟨0, Nat.zero_le _, rfl, rfl, hO5.out, hB5.out, hL5.out⟩
          case round =>
            obtain ⟨j, hj, hgn, rfl, hown, hB, hL⟩ := hrel
            have hgj : gk = 81 - j := hgn
            have hOr := Lib.hid hown
            have hBr := Lib.hid hB
            have hLr := Lib.hid hL
            clear hgn
            by_cases hltj : j < 81
            · obtain ⟨g5, off5, x, rfl, hg5, hx, c5x⟩ := hL.at_ hltj
              have hxe : x = valAt (ind j) os 0 k := by
                have h1 := hWk.out j hltj
                rw [List.getD_eq_getElem?_getD, hx] at h1
                exact h1
              have hxb := hEk.out j
              rw [← hxe] at hxb
              have hsb := hMk.out j
              have hSt := Lib.hid (addW_step (pushed os (ds.take k)) (wts os k) d hltj)
              rw [hSk.out j hltj, hWk.out j hltj, ← hxe] at hSt
              obtain ⟨b, cur, hbe, hwb', hH, _, _, _, hcl⟩ := owns_open hown (by decide)
              have hbe' : w3.heap.size = b := by injection hbe with e; injection e
              subst hbe'
              have hc1 := hcl j (by omega)
              rw [ints_get (addW_at _ _ d j hltj), if_neg (Nat.lt_irrefl _), Int.add_zero, hSk.out j hltj] at hc1
              have hfz := hH.frozen j
              generalize rsum (valAt (ind j) os 0) (ds.take k) 0 = sk at *
              have hdx : 0 ≤ d * x ∧ d * x ≤ 2000000000000000 := by
                have h1 := Int.mul_nonneg hd9.1 hxb.1
                have h2 : d * x ≤ 9 * x := Int.mul_le_mul_of_nonneg_right hd9.2 hxb.1
                omega
              have hw0 : IntKind.i64.wrap (d * x) = d * x := by rw [IntKind.wrap_i64]; omega
              have hw1 : IntKind.i64.wrap (sk + d * x) = sk + d * x := by rw [IntKind.wrap_i64]; omega
              have hO6 := Lib.hid (owns_set (x := sk + d * x) hOr.out hltj)
              have hB6 := Lib.hid (hBr.out.setCell (p := ⟨w3.heap.size, j, none⟩) (Nat.le_refl _) (.int .i64 (sk + d * x)))
              have hL6 := Lib.hid (ils_but hLr.out ((KeptBut.refl wr (fun i => i = w3.heap.size)).put (p := ⟨w3.heap.size, j, none⟩) (fun _ => rfl) (.int .i64 (sk + d * x))) (fun g hg e => hne5.out g hg e))
              have hj0 : (0 : Int) ≤ (j : Int) := by omega
              have hj1 : (j : Int) < 81 := by omega
              clear hown hB hL hbe hH hcl hx hxe hwb'
              go_wp2_with fail
              go_roundg (81 - (j + 1))
              case measure => omega
              case rel => exact ⟨j + 1, by omega, rfl, by go_num, by rw [← hSt.out]; exact hO6.out, hB6.out, hL6.out⟩
            · obtain rfl : j = 81 := by omega
              have hOf := Lib.hid (show wr.ownsRow w3.heap.size 3 1 (.slice (some ⟨w3.heap.size, 0, none⟩) 81 81) 81 (ints (pushed os (ds.take (k + 1)))) from by rw [← hNx.out]; exact hown)
              clear hown hB hL
              go_wp2_with fail
              go_roundg (81 - (k + 1))
              case measure => omega
              case rel => exact ⟨k + 1, by omega, rfl, by go_num, hOf.out, hBr.out⟩
        · obtain rfl : d = 0 := by omega
          have hNx := Lib.hid (pushed_same (os := os) hd)
          clear hd
          go_wp2_with fail
          go_roundg (81 - (k + 1))
          case measure => omega
          case rel => exact ⟨k + 1, by omega, rfl, by go_num, by rw [hNx.out]; exact hOw.out, hBq.out⟩
      · obtain rfl : k = 81 := by omega
        have hy := Lib.hid (show Ils wq wq.heap.size (some ⟨w3.heap.size, 0, none⟩) 81 (pushed os ds) from by
          have := ownI_lst hOw.out
          rwa [hT.out] at this)
        have hx := Lib.hid ((hx3.out.below hBq.out).more hzq)
        go_wp2_with fail
        refine (wcInts_any _ A3 81 81 _ c3 (pushed os ds) (pushed os ds) _ hy.out hx.out (by decide) (by decide)).mono ?_
        rw [decide_eq_true (rfl : pushed os ds = pushed os ds)]
        rintro e w7 ⟨rfl, q7, rfl⟩
        go_wp2_with fail
        go_ret
        exact ⟨rfl, below_drewN hBW.out _⟩

set_option maxRecDepth 100000 in
theorem lifted (os : Os) (started : os.Started) (H : Type) (enc : TypeId × Value → H) :
    ReturnsInHanded {} Try.checked os 9 .any (Rows.fnPushOnSpec.pre6 enc Try.prog Try.f9 Rows.fnPushOnRow.domain false) (Rows.fnPushOnSpec.post enc Try.prog Try.f9 false true false false) := by
  refine returnsInHanded_of_change (C := Try.checked) own started (by kernel_rfl) Try.func9
    (ChangeSpec.witness6 (enc := enc) (C := Try.checked) false ⟨#[], #[.slice none 0 0], []⟩ 8 (by kernel_rfl) (by kernel_rfl) (by kernel_rfl) (by kernel_rfl)) ?_
  intro W base args ds gs before hval0 hW hcnd _
  have hval : ∀ (j : Nat) t v, Try.f9.params[j]? = some t → args[j]? = some v → Value.okWide Try.prog W .any base t v := hval0
  have hW' := hW
  obtain ⟨p, q, hA0, hV, rfl, hfz, hnd⟩ := hW
  have hA : DataW.TrodAll enc Try.prog W 0 (fun _ => true) true Try.f9.params.toList args.toList ds p := hA0
  rw [Try.params9] at hA hval
  obtain ⟨v0, vs0, d0, ds0, p0, q0, hargs, rfl, rfl, h0, r0⟩ := trodAll_cons hA
  obtain ⟨rfl, rfl, rfl⟩ := trodAll_nil r0
  obtain rfl : args = #[v0] := by cases args; simp_all
  obtain ⟨rfl, rfl⟩ := trodVars_none hV
  have lt0 : ∀ x ∈ p0, x.block < W.heap.size := by
    obtain ⟨m, hm⟩ := h0
    exact DataW.trod_lt m _ _ _ hm
  clear hA0 hval0
  refine (walk enc W base v0 d0 p0 (hval 0 40 v0 rfl rfl) h0 lt0).mono fun e W' ⟨he, bel⟩ => ?_
  subst he
  exact ⟨_, rfl, _, _, _, [], _, [], hW', trodAll_mk1 (shut_bool Try.underlying4 _), (trodAll_cons_mk (Below.trod laidOut (by kernel_rfl) (of_decide_eq_true (by kernel_rfl)) h0 bel lt0) trodAll_mk0), rfl, bel.frame _, fun h => by cases h⟩

theorem proved : Rows.FnPushOnSaid :=
  OpenClaim.holds_of_wide 9 Try.f9 rfl rfl rfl rfl rfl rfl rfl ⟨rfl, rfl, rfl, rfl, rfl⟩ rfl rfl rfl rfl rfl (by kernel_rfl) Try.func9 (by kernel_rfl)
    (of_decide_eq_true (by kernel_rfl)) (by unfold Func.isWrapper; first | (rw [if_pos (by decide +kernel)]; kernel_rfl) | (rw [if_neg (by decide +kernel)]; exact ⟨rfl, rfl⟩))
    (fun os started H enc _ => lifted os started H enc)
end Go.Proofs.Ytbjpodgmmpchjaa.fnPushOn
