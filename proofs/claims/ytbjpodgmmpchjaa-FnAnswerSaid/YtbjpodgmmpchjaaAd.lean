/- Answers of programs, and whether two have the same: the program's and the model's functions. -/
import Derived.Test.YtbjpodgmmpchjaaAb
import Derived.Test.YtbjpodgmmpchjaaAm
import Derived.Test.YtbjpodgmmpchjaaMdf
namespace Go.Proofs.Ytbjpodgmmpchjaa
set_option maxRecDepth 100000
set_option linter.unusedVariables false
open Go.RowKit

def ansOk (ps : List St) : Bool := decide (isum (weightsFrom ps 0) ≠ 0)
def answOf (ps : List St) : List Int := answ (weightsFrom ps 0)
theorem weights_top (ps : List St) : isum (weightsFrom ps 0) ≤ 1000000000000000000 := by
  unfold weightsFrom
  cases hu : unrolled ps with
  | none => decide
  | some os =>
    obtain ⟨_, hlen, _, _, hOK⟩ := unrolled_parts hu
    have := wts_top (st := 0) (fun s hs => List.all_eq_true.1 hOK s hs) hlen (by decide)
    show isum (if inB 0 0 80 = true then wts os 0 else []) ≤ _
    rw [if_pos (by decide)]
    omega
theorem weights_bd (ps : List St) : ∀ x ∈ weightsFrom ps 0, 0 ≤ x ∧ x ≤ 1000000000000000000 := fun x hx => by
  have h0 := weights_nonneg ps
  have h1 := h0 x hx
  have h2 := rsum_ge (v := fun _ => 1) (fun _ => by decide) 0 h0 x hx
  rw [rsum_one'] at h2
  have h3 := weights_top ps
  omega
theorem answOf_len (ps : List St) : (answOf ps).length ≤ 81 := Nat.le_trans (answ_len _) (weightsFrom_len ps 0)
theorem answOf_81 {ps : List St} (h : ansOk ps = true) : (answOf ps).length = 81 := by
  have h0 := of_decide_eq_true h
  have hl : (weightsFrom ps 0).length = 81 := by
    unfold weightsFrom at h0 ⊢
    cases hu : unrolled ps with
    | none => rw [hu] at h0; exact absurd rfl h0
    | some os => exact wts_length os 0
  unfold answOf answ redL
  rw [if_neg h0, divL_len, hl]

set_option maxHeartbeats 1000000 in
theorem AnswerOf_any (A : Option Addr) (n c : Nat) (ps : List St) (w : World) (h : Lst w w.heap.size A n ps) (hn : n ≤ c) (hc : c ≤ maxLen) :
    Calls Try.prog 45 #[.slice A n c] w (Lbd w (answOf ps) (ansOk ps)) := by
  have hC := Lib.hid (WeightsOf_any A n c ps w h hn hc)
  have hl := weightsFrom_len ps 0
  have hBd := Lib.hid (weights_bd ps)
  have hT := weights_top ps
  have hTn := (isum_le (weights_nonneg ps) 0)
  have hR1 := Lib.hid (show answOf ps = answ (weightsFrom ps 0) from rfl)
  have hR2 := Lib.hid (show ansOk ps = decide (isum (weightsFrom ps 0) ≠ 0) from rfl)
  generalize weightsFrom ps 0 = ws at hC hl hBd hT hTn hR1 hR2
  have hG := gcdF_bd hBd.out (by decide)
  have hfd := tally_common
  clear h hc
  go_enter Try.func45, Try.ntmps45
  go_wp2_with fail
  refine (hC.out).mono ?_
  rintro e w1 ⟨v, rfl, hO, hb⟩
  obtain ⟨A2, c2, hv, hlc, hcm⟩ := hO.form
  subst hv
  have hI := Lib.hid hO.lst
  have hB := Lib.hid hb
  have hcm' : ws.length ≤ maxLen := by omega
  clear hO hb
  go_wp2_with fail
  refine (tallyOf_any A2 ws.length c2 ws _ hI.out hcm' (fun x hx => (hBd.out x hx).1) hT).mono ?_
  rintro e w2 ⟨rfl, hb⟩
  have hI2 := Lib.hid ((hI.out.below hb).more hb.size)
  have hB2 := Lib.hid (hB.out.trans (hb.mono hB.out.size))
  clear hb
  by_cases hs0 : isum ws = 0
  · have hF := Lib.hid (show ∀ w3, Below w.heap.size w w3 → Lbd w (answOf ps) (ansOk ps) (.returned (.tuple #[.slice none 0 0, .bool false])) w3 from fun w3 hb3 => by
      refine ⟨.slice none 0 0, by rw [hR2.out]; simp [hs0], ?_, hb3⟩
      rw [hR1.out]
      unfold answ
      rw [if_pos hs0]
      exact IOwn.nil _ _)
    rw [hs0]
    go_wp2_with fail
    go_ret2
    exact hF.out _ (hB2.out.alloc hB2.out.size _)
  · have hI3 := Lib.hid (((hI2.out).below (((Below.refl w2.heap.size w2).alloc (Nat.le_refl _) (.cells #[.int .i64 (isum ws), .int .i64 (gcdF ws)] 95)))).more (B' := (w2.alloc (.cells #[.int .i64 (isum ws), .int .i64 (gcdF ws)] 95)).heap.size) (by simp))
    have hB3 := Lib.hid (hB2.out.alloc hB2.out.size (.cells #[.int .i64 (isum ws), .int .i64 (gcdF ws)] 95))
    have hF := Lib.hid (show ∀ w3 o, IOwn w3 w.heap.size o (divL ws (gcdF ws)) → Below w.heap.size w w3 → Lbd w (answOf ps) (ansOk ps) (.returned (.tuple #[o, .bool true])) w3 from fun w3 o ho hb3 => by
      refine ⟨o, by rw [hR2.out]; simp [hs0], ?_, hb3⟩
      rw [hR1.out]
      unfold answ redL
      rw [if_neg hs0]
      exact ho)
    go_wp2_with fail
    refine (divided_any A2 ws.length c2 ws (gcdF ws) _ hI3.out (by omega) hG hBd.out).mono ?_
    rintro e w4 ⟨o, rfl, hO, hb⟩
    have hF2 := Lib.hid (hF.out w4 o (owns_le hO hB3.out.size) (hB3.out.trans (hb.mono hB3.out.size)))
    clear hO hb
    go_wp2_with fail
    go_ret2
    exact hF2.out

set_option maxHeartbeats 1000000 in
theorem specAnswerOf_any (A : Option Addr) (n c : Nat) (ps : List St) (w : World) (h : Lst w w.heap.size A n ps) (hn : n ≤ c) (hc : c ≤ maxLen) (hbig : n ≤ 1048576) :
    Calls Try.prog 44 #[.slice A n c] w (Lbd w (answOf ps) (ansOk ps)) := by
  have hC := Lib.hid (specWeightsOf_any A n c ps w h hn hc hbig)
  have hl := weightsFrom_len ps 0
  have hBd := Lib.hid (weights_bd ps)
  have hT := weights_top ps
  have hR1 := Lib.hid (show answOf ps = answ (weightsFrom ps 0) from rfl)
  have hR2 := Lib.hid (show ansOk ps = decide (isum (weightsFrom ps 0) ≠ 0) from rfl)
  generalize weightsFrom ps 0 = ws at hC hl hBd hT hR1 hR2
  clear h hc
  go_enter Try.func44, Try.ntmps44
  go_wp2_with fail
  refine (hC.out).mono ?_
  rintro e w1 ⟨v, rfl, hO, hb⟩
  obtain ⟨A2, c2, hv, hlc, hcm⟩ := hO.form
  subst hv
  have hI := Lib.hid hO.lst
  have hB := Lib.hid hb
  clear hO hb
  go_wp2_with fail
  refine (l3Sum_any A2 ws.length c2 ws _ hI.out rfl (by omega) (fun x hx => (hBd.out x hx).1) hT).mono ?_
  rintro e w2 ⟨rfl, hb⟩
  have hI2 := Lib.hid ((hI.out.below hb).more hb.size)
  have hB2 := Lib.hid (hB.out.trans (hb.mono hB.out.size))
  clear hb
  by_cases hs0 : isum ws = 0
  · have hF := Lib.hid (show ∀ w3, Below w.heap.size w w3 → Lbd w (answOf ps) (ansOk ps) (.returned (.tuple #[.slice none 0 0, .bool false])) w3 from fun w3 hb3 => by
      refine ⟨.slice none 0 0, by rw [hR2.out]; simp [hs0], ?_, hb3⟩
      rw [hR1.out]
      unfold answ
      rw [if_pos hs0]
      exact IOwn.nil _ _)
    rw [hs0]
    go_wp2_with fail
    go_ret2
    exact hF.out _ hB2.out
  · have hF := Lib.hid (show ∀ w3 o, IOwn w3 w.heap.size o (redL ws) → Below w.heap.size w w3 → Lbd w (answOf ps) (ansOk ps) (.returned (.tuple #[o, .bool true])) w3 from fun w3 o ho hb3 => by
      refine ⟨o, by rw [hR2.out]; simp [hs0], ?_, hb3⟩
      rw [hR1.out]
      unfold answ
      rw [if_neg hs0]
      exact ho)
    go_wp2_with fail
    refine (l4Reduced_any A2 ws.length c2 ws _ hI2.out (by omega) hBd.out).mono ?_
    rintro e w4 ⟨o, rfl, hO, hb⟩
    have hF2 := Lib.hid (hF.out w4 o (owns_le hO hB2.out.size) (hB2.out.trans (hb.mono hB2.out.size)))
    clear hO hb
    go_wp2_with fail
    go_ret2
    exact hF2.out

/-- Whether two answers are the same. -/
def sameA (ps qs : List St) : Bool := ansOk ps && (ansOk qs && decide (answOf ps = answOf qs))

set_option maxHeartbeats 1000000 in
theorem SameAnswer_any (A A2 : Option Addr) (n c n2 c2 : Nat) (ps qs : List St) (w : World) (h : Lst w w.heap.size A n ps) (hn : n ≤ c) (hc : c ≤ maxLen) (h2 : Lst w w.heap.size A2 n2 qs) (hn2 : n2 ≤ c2) (hc2 : c2 ≤ maxLen) :
    Calls Try.prog 47 #[.slice A n c, .slice A2 n2 c2] w fun e w' => e = .returned (.bool (sameA ps qs)) ∧ Below w.heap.size w w' := by
  have cP := Lib.hid (AnswerOf_any A n c ps w h hn hc)
  have cQ := Lib.hid (fun wx (hx : Lst wx wx.heap.size A2 n2 qs) => AnswerOf_any A2 n2 c2 qs wx hx hn2 hc2)
  have hQ := Lib.hid h2
  have hR := Lib.hid (show sameA ps qs = (ansOk ps && (ansOk qs && decide (answOf ps = answOf qs))) from rfl)
  have l1 := Lib.hid (fun h => answOf_81 (ps := ps) h)
  have l2 := Lib.hid (fun h => answOf_81 (ps := qs) h)
  have k1 := answOf_len ps
  have k2 := answOf_len qs
  generalize answOf ps = xs1 at cP hR l1 k1
  generalize answOf qs = ys1 at cQ hR l2 k2
  generalize ansOk ps = o1 at cP hR l1
  generalize ansOk qs = o2 at cQ hR l2
  clear h h2 hc hc2
  go_enter Try.func47, Try.ntmps47
  go_wp2_with fail
  refine (cP.out).mono ?_
  rintro e w1 ⟨v, rfl, hO, hb⟩
  obtain ⟨A3, c3, hv, hlc, hcm⟩ := hO.form
  subst hv
  have hI := Lib.hid hO.lst
  have hB := Lib.hid hb
  have hQ1 := Lib.hid ((hQ.out.below hb).more hb.size)
  clear hO hb
  go_wp2_with fail
  refine (cQ.out _ hQ1.out).mono ?_
  rintro e w2 ⟨v, rfl, hO, hb⟩
  obtain ⟨A4, c4, hv, hlc4, hcm4⟩ := hO.form
  subst hv
  have hI2 := Lib.hid ((hI.out.below hb).more hb.size)
  have hJ2 := Lib.hid hO.lst
  have hB2 := Lib.hid (hB.out.trans (hb.mono hB.out.size))
  clear hO hb
  cases o1
  · have hF := Lib.hid (show sameA ps qs = false by rw [hR.out]; rfl)
    go_wp2_with fail
    go_ret
    exact ⟨ret_bool hF.out, hB2.out⟩
  · cases o2
    · have hF := Lib.hid (show sameA ps qs = false by rw [hR.out]; rfl)
      go_wp2_with fail
      go_ret
      exact ⟨ret_bool hF.out, hB2.out⟩
    · have hF := Lib.hid (show sameA ps qs = decide (xs1 = ys1) by rw [hR.out]; rfl)
      have e1 := l1.out rfl
      have e2 := l2.out rfl
      rw [e1] at hI2
      rw [e2] at hJ2
      rw [e1, e2]
      go_wp2_with fail
      go_loopg [29] 81 (fun gn v wr => ∃ k : Nat, k ≤ 81 ∧ gn = 81 - k ∧ v = .int .i64 k ∧ xs1.take k = ys1.take k ∧ Below w2.heap.size w2 wr)
      case atStart => exact ⟨0, Nat.zero_le _, rfl, rfl, by simp, Below.refl _ _⟩
      case round =>
        obtain ⟨k, hk, hgn, rfl, heq, hBr⟩ := hrel
        have hgk : gk = 81 - k := hgn
        have hE := Lib.hid heq
        have hBr' := Lib.hid hBr
        have hBW := Lib.hid (hB2.out.trans (hBr.mono hB2.out.size))
        clear hgn heq
        by_cases hlt : k < 81
        · obtain ⟨g, off, a, rfl, hg, hs, c0⟩ := (hI2.out.below hBr).at_ hlt
          obtain ⟨g2, off2, b, rfl, hg2, hs2, d0⟩ := (hJ2.out.below hBr).at_ hlt
          have hk0 : (0 : Int) ≤ (k : Int) := by omega
          have hk1 : (k : Int) < 81 := by omega
          by_cases hab : a = b
          · subst hab
            have hT := Lib.hid (take_next hE.out hs hs2)
            have hne : (a != a) = false := by simp
            clear hs hs2 hBr
            go_wp2_with fail
            go_roundg (81 - (k + 1))
            case measure => omega
            case rel => exact ⟨k + 1, by omega, rfl, by go_num, hT.out, hBr'.out⟩
          · have hN := Lib.hid (hF.out.trans (ils_ne hs hs2 hab))
            have hab' : (b != a) = true := by simpa using fun e => hab e.symm
            clear hs hs2 hab hBr
            go_wp2_with fail
            go_ret
            exact ⟨ret_bool hN.out, hBW.out⟩
        · obtain rfl : k = 81 := by omega
          have hN := Lib.hid (show sameA ps qs = true by
            rw [hF.out]
            have := hE.out
            rw [List.take_of_length_le (by omega), List.take_of_length_le (by omega)] at this
            exact decide_eq_true this)
          clear hBr
          go_wp2_with fail
          go_ret
          exact ⟨ret_bool hN.out, hBW.out⟩

theorem l4Same_any (A A2 : Option Addr) (n n2 c c2 : Nat) (ds es : List Int) (w : World) (h : Ils w w.heap.size A n ds) (h2 : Ils w w.heap.size A2 n2 es) (hn : n ≤ maxLen) (hn2 : n2 ≤ maxLen) :
    Calls Try.prog 82 #[.slice A n c, .slice A2 n2 c2] w fun e w' => e = .returned (.bool (decide (ds = es))) ∧ ∃ k, w' = w.drewN k := by
  unfold maxLen at hn hn2
  have hH := Lib.hid h
  have hH2 := Lib.hid h2
  have hL := Lib.hid h.1
  have hL2 := Lib.hid h2.1
  clear h h2
  by_cases hnn : n = n2
  · subst hnn
    go_enter Try.func82, Try.ntmps82
    go_wp2
    go_loopw [5] (fun i wr => ∃ k : Nat, k ≤ n ∧ i = .int .i64 k ∧ ds.take k = es.take k ∧ ∃ q, wr = w.drewN q) (fun i _ => n - (intOf i).toNat)
    case atStart => exact ⟨0, Nat.zero_le _, rfl, by simp, 0, rfl⟩
    case round =>
      obtain ⟨k, hk, rfl, heq, q, rfl⟩ := hrel
      have hE := Lib.hid heq
      clear heq
      by_cases hlt : k < n
      · obtain ⟨g, off, a, rfl, hg, hs, c0⟩ := hH.out.at_ hlt
        obtain ⟨g2, off2, b, rfl, hg2, hs2, d0⟩ := hH2.out.at_ hlt
        have hk0 : (0 : Int) ≤ (k : Int) := Int.natCast_nonneg _
        have hk1 : (k : Int) < (n : Int) := by omega
        by_cases hab : a = b
        · subst hab
          have hR := Lib.hid (take_next hE.out hs hs2)
          clear hs hs2
          go_wp2
          go_quiet (fail)
          go_wp2
          exact ⟨⟨k + 1, by omega, by go_num, hR.out, _, rfl⟩, by simp [intOf]; omega⟩
        · have hR := Lib.hid (ils_ne hs hs2 hab)
          have hab' : (a != b) = true := by simpa using hab
          clear hs hs2 hab
          go_wp2
          go_quiet (fail)
          go_wp2
          go_ret
          exact ⟨ret_bool hR.out, _, by rw [World.drewN_drewN]⟩
      · obtain rfl : n = k := by omega
        have hR := Lib.hid (show decide (ds = es) = true by
          have := hE.out
          rw [List.take_of_length_le (by rw [hL.out]; omega), List.take_of_length_le (by rw [hL2.out]; omega)] at this
          exact decide_eq_true this)
        go_wp2
        go_ret
        exact ⟨ret_bool hR.out, q, rfl⟩
  · have hR := Lib.hid (show decide (ds = es) = false from decide_eq_false (by rintro rfl; exact hnn (hL.out.symm.trans hL2.out)))
    have hnn' : ((n : Int) != (n2 : Int)) = true := by simp; omega
    clear hnn
    go_enter Try.func82, Try.ntmps82
    go_wp2
    go_ret
    exact ⟨ret_bool hR.out, 0, rfl⟩

set_option maxHeartbeats 1000000 in
theorem specSameAnswer_any (A A2 : Option Addr) (n c n2 c2 : Nat) (ps qs : List St) (w : World) (h : Lst w w.heap.size A n ps) (hn : n ≤ c) (hc : c ≤ maxLen) (hbig : n ≤ 1048576) (h2 : Lst w w.heap.size A2 n2 qs) (hn2 : n2 ≤ c2) (hc2 : c2 ≤ maxLen) (hbig2 : n2 ≤ 1048576) :
    Calls Try.prog 46 #[.slice A n c, .slice A2 n2 c2] w fun e w' => e = .returned (.bool (sameA ps qs)) ∧ Below w.heap.size w w' := by
  have cP := Lib.hid (specAnswerOf_any A n c ps w h hn hc hbig)
  have cQ := Lib.hid (fun wx (hx : Lst wx wx.heap.size A2 n2 qs) => specAnswerOf_any A2 n2 c2 qs wx hx hn2 hc2 hbig2)
  have hQ := Lib.hid h2
  have hR := Lib.hid (show sameA ps qs = (ansOk ps && (ansOk qs && decide (answOf ps = answOf qs))) from rfl)
  have k1 := answOf_len ps
  have k2 := answOf_len qs
  generalize answOf ps = xs1 at cP hR k1
  generalize answOf qs = ys1 at cQ hR k2
  generalize ansOk ps = o1 at cP hR
  generalize ansOk qs = o2 at cQ hR
  clear h h2 hc hc2
  go_enter Try.func46, Try.ntmps46
  go_wp2_with fail
  refine (cP.out).mono ?_
  rintro e w1 ⟨v, rfl, hO, hb⟩
  obtain ⟨A3, c3, hv, hlc, hcm⟩ := hO.form
  subst hv
  have hI := Lib.hid hO.lst
  have hB := Lib.hid hb
  have hQ1 := Lib.hid ((hQ.out.below hb).more hb.size)
  clear hO hb
  go_wp2_with fail
  refine (cQ.out _ hQ1.out).mono ?_
  rintro e w2 ⟨v, rfl, hO, hb⟩
  obtain ⟨A4, c4, hv, hlc4, hcm4⟩ := hO.form
  subst hv
  have hI2 := Lib.hid ((hI.out.below hb).more hb.size)
  have hJ2 := Lib.hid hO.lst
  have hB2 := Lib.hid (hB.out.trans (hb.mono hB.out.size))
  clear hO hb
  cases o1
  · have hF := Lib.hid (show sameA ps qs = false by rw [hR.out]; rfl)
    go_wp2_with fail
    go_ret
    exact ⟨ret_bool hF.out, hB2.out⟩
  · cases o2
    · have hF := Lib.hid (show sameA ps qs = false by rw [hR.out]; rfl)
      go_wp2_with fail
      go_ret
      exact ⟨ret_bool hF.out, hB2.out⟩
    · have hF := Lib.hid (show sameA ps qs = decide (xs1 = ys1) by rw [hR.out]; rfl)
      have cL := Lib.hid (l4Same_any A3 A4 xs1.length ys1.length c3 c4 xs1 ys1 _ hI2.out hJ2.out (by omega) (by omega))
      go_wp2_with (first | (go_at_call 82; refine cL.out.mono ?_; rintro e w3 ⟨rfl, q, rfl⟩))
      go_ret
      exact ⟨ret_bool hF.out, below_drewN hB2.out _⟩

end Go.Proofs.Ytbjpodgmmpchjaa
