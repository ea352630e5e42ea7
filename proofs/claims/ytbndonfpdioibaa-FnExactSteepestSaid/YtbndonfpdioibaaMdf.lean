/- The model's WeightsFrom, WeightsOf, TotalOf. The model's TotalOf and Reached. -/
import Derived.Test.YtbndonfpdioibaaSm
import Derived.Test.YtbndonfpdioibaaMdd
import Derived.Test.YtbndonfpdioibaaUnP
namespace Go.Proofs.Ytbndonfpdioibaa
set_option maxRecDepth 100000
set_option linter.unusedVariables false
open Go.RowKit

theorem l1In_v (n lo hi : Int) (w : World) :
    Calls Try.prog 67 #[.int .i64 n, .int .i64 lo, .int .i64 hi] w fun e w' => e = .returned (.bool (inB n lo hi)) ∧ w' = w :=
  (l1In_any n lo hi w).mono fun _ _ h => ⟨h.1, h.2.symm⟩
theorem rsum_one (v : Int → Int) {z : Nat} (hz : z < 81) : rsum v (one81 z) 0 = v z := by
  have h := rsum_set v (zs 81) z 0 1 (by rw [zs_len]; exact hz)
  have e : (zs 81).getD z 0 = 0 := by
    unfold zs
    rw [List.getD_eq_getElem?_getD, List.getElem?_replicate, if_pos hz]; rfl
  have e2 : rsum v (zs 81) 0 = 0 := rsum_zero v 81 0
  rw [e, e2, Nat.zero_add, Int.zero_add, Int.zero_add, Int.one_mul] at h
  exact h
theorem one_nonneg (z : Nat) : ∀ x ∈ one81 z, 0 ≤ x := fun x hx => by
  unfold one81 at hx
  rcases List.mem_or_eq_of_mem_set hx with hx | rfl
  · unfold zs at hx
    rw [List.mem_replicate] at hx
    omega
  · decide
theorem one_len (z : Nat) : (one81 z).length = 81 := by unfold one81; rw [List.length_set, zs_len]
theorem pushed_one (os : List St) {z : Nat} (hz : z < 81) : pushed os (one81 z) = wts os z := by
  unfold pushed wts
  refine List.map_congr_left fun q _ => ?_
  exact rsum_one _ hz

set_option maxHeartbeats 1000000 in
theorem specWeightsFrom_any (A : Option Addr) (n c : Nat) (ps : List St) (st : Int) (w : World) (h : Lst w w.heap.size A n ps) (hn : n ≤ c) (hc : c ≤ maxLen) (hbig : n ≤ 1048576) :
    Calls Try.prog 169 #[.slice A n c, .int .i64 st] w (Wtsd w (weightsFrom ps st)) := by
  have hC := Lib.hid (l1Unrolled_any A n c ps w h hn hc hbig)
  have cW := Lib.hid (fun wx => l1In_v st 0 80 wx)
  clear h hc
  cases hu : unrolled ps with
  | none =>
    have hU := Lib.hid hu
    have hR := Lib.hid (show weightsFrom ps st = [] by unfold weightsFrom; rw [hu])
    clear hu
    go_enter Try.func169, Try.ntmps169
    go_wp2_with fail
    refine (hC.out).mono ?_
    rw [hU.out]
    rintro e w1 ⟨v, rfl, hown, hb⟩
    clear hown
    go_wp2_with fail
    go_ret
    exact ⟨_, rfl, by rw [hR.out]; exact IOwn.nil _ _, hb⟩
  | some os =>
    obtain ⟨_, hlen, _, hNL, hOK⟩ := unrolled_parts hu
    have hU := Lib.hid hu
    cases hin : inB st 0 80
    · have hR := Lib.hid (show weightsFrom ps st = [] by unfold weightsFrom; rw [hu]; exact if_neg (by simp [hin]))
      rw [hin] at cW
      clear hu hNL hOK hin
      go_enter Try.func169, Try.ntmps169
      go_wp2_with fail
      refine (hC.out).mono ?_
      rw [hU.out]
      rintro e w1 ⟨v, rfl, hown, hb⟩
      clear hown
      go_wp2_with fail
      refine (cW.out _).mono ?_
      rintro e w' ⟨rfl, rfl⟩
      go_wp2_with fail
      go_ret
      exact ⟨_, rfl, by rw [hR.out]; exact IOwn.nil _ _, hb⟩
    · have hR := Lib.hid (show weightsFrom ps st = wts os st by unfold weightsFrom; rw [hu]; exact if_pos hin)
      have hs := inB_iff.1 hin
      have hOkN := Lib.hid (show ∀ s ∈ os, s.ok = true ∧ s.notLoop = true from fun s hs => ⟨List.all_eq_true.1 hOK s hs, hNL s hs⟩)
      rw [hin] at cW
      clear hu hNL hOK hin
      obtain ⟨z, rfl⟩ : ∃ z : Nat, st = (z : Int) := ⟨st.toNat, (Int.toNat_of_nonneg hs.1).symm⟩
      have hz : z < 81 := by omega
      clear hs
      go_enter Try.func169, Try.ntmps169
      go_wp2_with fail
      refine (hC.out).mono ?_
      rw [hU.out]
      rintro e w1 ⟨v, rfl, hown', hb⟩
      have hown : Own w1 w.heap.size v os := hown' os rfl
      obtain ⟨A3, c3, hv, hlc, hcm⟩ := hown.form
      subst hv
      generalize hm : os.length = m at hlen hlc ⊢
      have hM := Lib.hid hm
      have hO := Lib.hid (show Lst w1 w1.heap.size A3 m os from by
        have := hown.lst
        rwa [hm] at this)
      have hB1 := Lib.hid hb
      have hz1 := hb.size
      clear hown hown' hm hb
      go_wp2_with fail
      refine (cW.out _).mono ?_
      rintro e w' ⟨rfl, rfl⟩
      go_wp2_with fail
      refine (l3One_any z _ hz).mono ?_
      rintro e w2 ⟨v2, rfl, hO2, hb2⟩
      obtain ⟨A4, c4, hv2, _, _⟩ := hO2.form
      rw [one_len] at hv2
      subst hv2
      have hz2 := hb2.size
      have hB2 := Lib.hid (hB1.out.trans (hb2.mono hz1))
      have cP := Lib.hid (l3Push_any A3 A4 m c3 c4 _ os (one81 z) w2 (hO.out.below hb2) hM.out hlen hOkN.out hO2 (one_len z) (one_nonneg z) (by rw [rsum_one _ hz]; exact Int.le_trans (V2_top hlen z) (by decide)) hz2)
      clear hO2 hb2
      go_wp2_with fail
      refine (cP.out).mono ?_
      rintro e w5 ⟨v5, rfl, hO5, hb5⟩
      obtain ⟨A5, c5, hv5, _, _⟩ := hO5.form
      subst hv5
      have hF := Lib.hid (show Wtsd w (weightsFrom ps z) (.returned (.slice A5 (pushed os (one81 z)).length c5)) w5 from ⟨_, rfl, by rw [hR.out, ← pushed_one os hz]; exact owns_le hO5 hz1, hB2.out.trans (hb5.mono hz1)⟩)
      clear hO5 hb5
      go_wp2_with fail
      go_ret
      exact hF.out

theorem specWeightsOf_any (A : Option Addr) (n c : Nat) (ps : List St) (w : World) (h : Lst w w.heap.size A n ps) (hn : n ≤ c) (hc : c ≤ maxLen) (hbig : n ≤ 1048576) :
    Calls Try.prog 134 #[.slice A n c] w (Wtsd w (weightsFrom ps 0)) := by
  have hC := Lib.hid (specWeightsFrom_any A n c ps 0 w h hn hc hbig)
  clear h hc
  go_enter Try.func134, Try.ntmps134
  go_wp2_with fail
  refine (hC.out).mono ?_
  rintro e w1 ⟨v, rfl, hown, hb⟩
  obtain ⟨A2, c2, hv, _, _⟩ := hown.form
  subst hv
  have hO := Lib.hid hown
  clear hown
  go_wp2_with fail
  go_ret
  exact ⟨_, rfl, hO.out, hb⟩
end Go.Proofs.Ytbndonfpdioibaa

namespace Go.Proofs.Ytbndonfpdioibaa
set_option maxRecDepth 100000
set_option linter.unusedVariables false
open Go.RowKit

/-- 1 for the first n states. -/
def cnt (n : Nat) (x : Int) : Int := if 0 ≤ x ∧ x < n then 1 else 0
theorem wts_cnt (os : List St) (st : Int) : ∀ n : Nat, isum ((List.range n).map fun (q : Nat) => valAt (ind q) os 0 st) = valAt (cnt n) os 0 st
  | 0 => by
    have e : cnt 0 = fun x => 0 * cnt 0 x := by
      funext x
      unfold cnt
      rw [if_neg (by omega)]; rfl
    have h : valAt (cnt 0) os 0 st = 0 * valAt (cnt 0) os 0 st := by
      conv => lhs; rw [e]
      exact val_mul 0 (cnt 0) _ _ _
    rw [h]; simp [isum]
  | n + 1 => by
    rw [List.range_succ, List.map_append, isum_append, wts_cnt os st n]
    have e : cnt (n + 1) = fun x => cnt n x + ind n x := by
      funext x
      unfold cnt ind
      by_cases h1 : 0 ≤ x ∧ x < n
      · rw [if_pos h1, if_pos (by omega), if_neg (by omega)]; rfl
      · by_cases h2 : x = n
        · rw [if_neg h1, if_pos (by omega), if_pos h2]; rfl
        · rw [if_neg h1, if_neg (by omega), if_neg h2]; rfl
    rw [e]
    have h := val_add (cnt n) (ind n) (os.drop 0) 0 st
    show valAt (cnt n) os 0 st + isum [valAt (ind n) os 0 st] = val _ (os.drop 0) 0 st
    rw [h]
    simp [isum, valAt]
theorem wts_sum {os : List St} {st : Int} (hok : ∀ s ∈ os, s.ok = true) (hs : 0 ≤ st ∧ st ≤ 80) : isum (wts os st) = valAt (fun _ => 1) os 0 st := by
  have h := wts_cnt os st 81
  unfold wts
  rw [h]
  refine val_congr (fun x h0 h1 => ?_) _ _ _ (fun s hx => hok s (List.mem_of_mem_drop hx)) hs
  unfold cnt
  rw [if_pos (by omega)]
theorem wts_nonneg {os : List St} {st : Int} (hok : ∀ s ∈ os, s.ok = true) (hs : 0 ≤ st ∧ st ≤ 80) : ∀ x ∈ wts os st, 0 ≤ x := fun x hx => by
  unfold wts at hx
  obtain ⟨q, _, rfl⟩ := List.mem_map.1 hx
  refine (val_bd (ind q) 1 (fun y _ _ => ?_) (by decide) _ _ _ (fun s hx => hok s (List.mem_of_mem_drop hx)) hs).1
  unfold ind
  split <;> omega
theorem wts_top {os : List St} {st : Int} (hok : ∀ s ∈ os, s.ok = true) (hl : os.length ≤ 12) (hs : 0 ≤ st ∧ st ≤ 80) : isum (wts os st) ≤ 150094635296999121 := by
  rw [wts_sum hok hs]
  have h := (val_bd (fun _ => 1) 1 (fun y _ _ => by decide) (by decide) (os.drop 0) 0 st (fun s hx => hok s (List.mem_of_mem_drop hx)) hs).2
  have h2 := V2_top hl 0
  unfold V2 at h2
  rw [Int.one_mul, List.drop_zero] at h
  rw [Nat.sub_zero] at h2
  exact Int.le_trans h h2
theorem weights_nonneg (ps : List St) : ∀ x ∈ weightsFrom ps 0, 0 ≤ x := by
  intro x hx
  unfold weightsFrom at hx
  cases hu : unrolled ps with
  | none => rw [hu] at hx; simp at hx
  | some os =>
    rw [hu] at hx
    obtain ⟨_, _, _, _, hOK⟩ := unrolled_parts hu
    exact wts_nonneg (st := 0) (fun s hs => List.all_eq_true.1 hOK s hs) (by decide) x hx

theorem specTotalOf_any (A : Option Addr) (n c : Nat) (ps : List St) (w : World) (h : Lst w w.heap.size A n ps) (hn : n ≤ c) (hc : c ≤ maxLen) (hbig : n ≤ 1048576) :
    Calls Try.prog 79 #[.slice A n c] w fun e w' => e = .returned (.int .i64 (totalOf ps)) ∧ Below w.heap.size w w' := by
  have hC := Lib.hid (specProgramOk_any A n c ps w h hn hc hbig)
  have hH := Lib.hid h
  have cW := Lib.hid (fun wx (hx : Lst wx wx.heap.size A n ps) => specWeightsOf_any A n c ps wx hx hn hc hbig)
  clear h hc
  cases hu : unrolled ps with
  | none =>
    have hR := Lib.hid (show totalOf ps = -1 by unfold totalOf; rw [hu])
    rw [hu] at hC
    clear hu
    go_enter Try.func79, Try.ntmps79
    go_wp2_with fail
    refine (hC.out).mono ?_
    rintro e w1 ⟨rfl, hb⟩
    go_wp2_with fail
    go_ret
    exact ⟨ret_int hR.out, hb⟩
  | some os =>
    obtain ⟨_, hlen, _, _, hOK⟩ := unrolled_parts hu
    have hok : ∀ s ∈ os, s.ok = true := fun s hs => List.all_eq_true.1 hOK s hs
    have hR := Lib.hid (show isum (weightsFrom ps 0) = totalOf ps by
      unfold totalOf weightsFrom
      rw [hu]
      exact wts_sum (st := 0) hok (by decide))
    have hTop := Lib.hid (show isum (weightsFrom ps 0) ≤ 1000000000000000000 by
      unfold weightsFrom
      rw [hu]
      exact Int.le_trans (wts_top (st := 0) hok hlen (by decide)) (by decide))
    have hNn := Lib.hid (weights_nonneg ps)
    have hl := weightsFrom_len ps 0
    generalize weightsFrom ps 0 = ws at hR hTop hNn hl cW
    rw [hu] at hC
    clear hu hOK hok
    go_enter Try.func79, Try.ntmps79
    go_wp2_with fail
    refine (hC.out).mono ?_
    rintro e w1 ⟨rfl, hb⟩
    have hL1 := Lib.hid ((hH.out.below hb).more hb.size)
    go_wp2_with fail
    refine (cW.out _ hL1.out).mono ?_
    rintro e w2 ⟨v, rfl, hO, hb2⟩
    obtain ⟨A2, c2, hv, _, _⟩ := hO.form
    subst hv
    have hI := Lib.hid hO.lst
    have hB2 := Lib.hid (hb.trans (hb2.mono hb.size))
    clear hO hb hb2
    go_wp2_with fail
    refine (l3Sum_any A2 ws.length c2 ws _ hI.out rfl (by omega) hNn.out hTop.out).mono ?_
    rintro e w3 ⟨rfl, hb3⟩
    have hB3 := Lib.hid (hB2.out.trans (hb3.mono hB2.out.size))
    clear hb3
    go_wp2_with fail
    go_ret
    exact ⟨ret_int hR.out.symm, hB3.out⟩

end Go.Proofs.Ytbndonfpdioibaa
