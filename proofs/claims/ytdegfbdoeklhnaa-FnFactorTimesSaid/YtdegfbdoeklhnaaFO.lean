/- Factors: the program's FactorOk, varsOf, numberIn, FactorAt, isOver. -/
import Derived.Test.YtdegfbdoeklhnaaFD
import Derived.Test.YtdegfbdoeklhnaaAa
namespace Go.Proofs.Ytdegfbdoeklhnaa
set_option maxRecDepth 100000
set_option linter.unusedVariables false
open Go.RowKit

theorem p3_bd4 {k : Nat} (h : k ≤ 4) : 1 ≤ p3 k ∧ p3 k ≤ 81 := by
  have h1 := pow_four h
  have h2 : 0 < 3 ^ k := Nat.pow_pos (by decide)
  rw [p3_pow]
  omega
theorem over_hasF : ∀ L : Fin 16, ∀ v : Fin 4, decide ((v.val : Int) ∈ over (L.val : Int)) = !(bits .and .i64 (L.val : Int) (bitN (v.val : Int)) == 0) := by decide +kernel
theorem over_hasZ : ∀ L : Fin 16, (bits .and .i64 (L.val : Int) 0 == 0) = true := by decide +kernel
theorem over_has {vs : List Int} {L : Fin 16} (h : vs = over (L.val : Int)) (v : Int) : decide (v ∈ vs) = !(bits .and .i64 (L.val : Int) (bitN v) == 0) := by
  subst h
  cases hin : inB v 0 3
  · have hb : bitN v = 0 := by unfold bitN; rw [hin]; rfl
    rw [hb, over_hasZ L]
    apply decide_eq_false
    intro hv
    have := (vars_len (over_ok L).1).2 v hv
    rw [inB_iff.2 this] at hin
    cases hin
  · obtain ⟨V, rfl, _⟩ := nat_three (inB_iff.1 hin)
    exact over_hasF L V
set_option maxHeartbeats 1000000 in
theorem FactorOk_any (A1 A2 : Option Addr) (n1 c1 n2 c2 : Nat) (F : Fac) (w : World) (h : FacW w w.heap.size A1 n1 A2 n2 F) (hn1 : n1 ≤ maxLen) (hn2 : n2 ≤ maxLen) :
    Calls Try.prog 18 #[.agg #[.slice A1 n1 c1, .slice A2 n2 c2]] w fun e w' => e = .returned (.bool (facOk 1000000000 F)) ∧ Below w.heap.size w w' := by
  have hB0 : Below w.heap.size w (w.alloc (.cells #[.slice A1 n1 c1, .slice A2 n2 c2] 27)) := (Below.refl _ _).alloc (Nat.le_refl _) _
  have hl1 := h.1.1
  have hl2 := h.2.1
  have hF := Lib.hid (h.below hB0)
  have hH := Lib.hid (Has.new w 27 #[.slice A1 n1 c1, .slice A2 n2 c2])
  have hB := Lib.hid hB0
  have cN := Lib.hid (fun wx hx => numbersOk_any A2 n2 c2 F.ns 1000000000 wx hx hn2)
  unfold maxLen at hn1 hn2
  clear h hB0
  go_enter Try.func18, Try.ntmps18
  go_wp2_with fail
  generalize w.alloc (.cells #[.slice A1 n1 c1, .slice A2 n2 c2] 27) = W0 at hF hH hB ⊢
  generalize hG : w.heap.size = G at hH ⊢
  have hc0 := hH.out.cell
  go_wp2_with fail
  clear hc0
  go_loopg [3, 4, 10] n1 (fun gn s m v wr => ∃ k : Nat, k ≤ n1 ∧ gn = n1 - k ∧ v = .int .i64 k ∧ s = .int .i64 (setOf (F.vs.take k)) ∧ m = .int .i64 (p3 k) ∧ (∀ i, i < k → vOkAt F.vs i = true) ∧ ∃ q, wr = W0.drewN q)
  case atStart => exact ⟨0, Nat.zero_le _, rfl, rfl, rfl, rfl, fun i hi => absurd hi (by omega), 0, rfl⟩
  case round =>
    obtain ⟨k, hk, hgn, rfl, rfl, rfl, hno, q, rfl⟩ := hrel
    have hgk : gk = n1 - k := hgn
    clear hgn
    have hNo := Lib.hid hno
    have hvt := vars_take (show k ≤ F.vs.length by omega) hno
    have hk4 : k ≤ 4 := by
      have := (vars_len hvt).1
      rw [List.length_take] at this
      omega
    have hp := pow_four hk4
    have hsb := setOf_bd (vars_len hvt).2 k
    rw [List.take_take, Nat.min_self] at hsb
    clear hno hvt
    by_cases hlt : k < n1
    · obtain ⟨g, off, d, rfl, hg, hd, cd⟩ := hF.out.1.at_ hlt
      have cd' : (W0.drewN q).cell? ⟨g, off + k, none⟩ = some (.int .i64 d) := cd
      have hk0 : (0 : Int) ≤ (k : Int) := by omega
      have hk1 : (k : Int) < (n1 : Int) := by omega
      have hvk := Lib.hid (vOk_bit hd hNo.out)
      have hst := Lib.hid (setOf_take hd)
      have cB := Lib.hid (fun wx => bitOf_any d wx)
      clear cd hd
      by_cases hbl : bitN d ≤ setOf (F.vs.take k)
      · have hR := Lib.hid (facOk_no (M := 1000000000) (k := k) (F := F) (by omega) (by rw [hvk.out, decide_eq_true hbl]; rfl))
        have hbl' : ¬ setOf (F.vs.take k) < bitN d := by omega
        go_wp2_with fail
        refine (cB.out _).mono ?_
        rintro e w' ⟨rfl, rfl⟩
        go_wp2_with fail
        go_ret
        exact ⟨ret_bool hR.out, hB.out.trans ((below_drewN (Below.refl _ _) _).mono hB.out.size)⟩
      · have hO := Lib.hid (show vOkAt F.vs k = true by rw [hvk.out, decide_eq_false hbl]; rfl)
        have hbd := bitN_le d
        have hbo := bits_or hsb hbd
        have hp3 := p3_bd4 hk4
        go_wp2_with fail
        refine (cB.out _).mono ?_
        rintro e w' ⟨rfl, rfl⟩
        go_wp2_with fail
        refine (cB.out _).mono ?_
        rintro e w' ⟨rfl, rfl⟩
        go_wp2_with fail
        go_roundg (n1 - (k + 1))
        case measure => omega
        case rel => exact ⟨k + 1, by omega, rfl, by go_num, by rw [hst.out, ← hbo], rfl, fun i hi => by
          by_cases he : i = k
          · rw [he]; exact hO.out
          · exact hNo.out i (by omega), _, rfl⟩
    · obtain rfl : k = n1 := by omega
      have hvo : varsOk F.vs = true := vars_all fun i hi => hNo.out i (by omega)
      have hcm := (hH.out.drewN q).cell
      have hF2 := Lib.hid ((hF.out.2.below (below_drewN (Below.refl W0.heap.size W0) q)).more (below_drewN (Below.refl W0.heap.size W0) q).size)
      cases hln : ((n2 : Int) == p3 k)
      · have hR := Lib.hid (show facOk 1000000000 F = false by
          unfold facOk
          rw [hvo, hl2, hl1, decide_eq_false (by intro e; rw [e, p3_pow] at hln; simp at hln), Bool.and_false, Bool.and_false])
        go_wp2_with fail
        go_ret
        exact ⟨ret_bool hR.out, hB.out.trans ((below_drewN (Below.refl _ _) _).mono hB.out.size)⟩
      · have hR := Lib.hid (show facOk 1000000000 F = numsOk 1000000000 F.ns by
          unfold facOk
          rw [hvo, hl2, hl1, decide_eq_true (by have h4 := p3_pow k; have h5 : (n2 : Int) = p3 k := (by simpa using hln); omega), Bool.and_true, Bool.true_and])
        go_wp2_with fail
        refine (cN.out _ hF2.out).mono ?_
        rintro e w3 ⟨rfl, hb3⟩
        have hB3 := Lib.hid (hB.out.trans ((below_drewN (Below.refl _ _) q).mono hB.out.size))
        go_wp2_with fail
        go_ret
        exact ⟨ret_bool hR.out, hB3.out.trans (hb3.mono hB3.out.size)⟩
set_option maxHeartbeats 1000000 in
theorem varsOf_any (A1 A2 : Option Addr) (n1 c1 n2 c2 : Nat) (F : Fac) (w : World) (h : FacW w w.heap.size A1 n1 A2 n2 F) (hn1 : n1 ≤ maxLen) (hv : ∀ v ∈ F.vs, 0 ≤ v ∧ v ≤ 3) :
    Calls Try.prog 69 #[.agg #[.slice A1 n1 c1, .slice A2 n2 c2]] w fun e w' => e = .returned (.int .i64 (setOf F.vs)) ∧ Below w.heap.size w w' := by
  have hB0 : Below w.heap.size w (w.alloc (.cells #[.slice A1 n1 c1, .slice A2 n2 c2] 27)) := (Below.refl _ _).alloc (Nat.le_refl _) _
  have hl1 := h.1.1
  have hF := Lib.hid (h.below hB0)
  have hV := Lib.hid hv
  have hH := Lib.hid (Has.new w 27 #[.slice A1 n1 c1, .slice A2 n2 c2])
  have hB := Lib.hid hB0
  have hT := Lib.hid (show F.vs.take n1 = F.vs from List.take_of_length_le (by omega))
  unfold maxLen at hn1
  clear h hB0 hv
  go_enter Try.func69, Try.ntmps69
  go_wp2_with fail
  generalize w.alloc (.cells #[.slice A1 n1 c1, .slice A2 n2 c2] 27) = W0 at hF hH hB ⊢
  generalize hG : w.heap.size = G at hH ⊢
  have hc0 := hH.out.cell
  go_wp2_with fail
  clear hc0
  go_loopg [3, 9] n1 (fun gn s v wr => ∃ k : Nat, k ≤ n1 ∧ gn = n1 - k ∧ v = .int .i64 k ∧ s = .int .i64 (setOf (F.vs.take k)) ∧ wr = W0)
  case atStart => exact ⟨0, Nat.zero_le _, rfl, rfl, rfl, rfl⟩
  case round =>
    obtain ⟨k, hk, hgn, rfl, rfl, rfl⟩ := hrel
    have hgk : gk = n1 - k := hgn
    clear hgn
    by_cases hlt : k < n1
    · obtain ⟨g, off, d, rfl, hg, hd, cd⟩ := hF.out.1.at_ hlt
      have hk0 : (0 : Int) ≤ (k : Int) := by omega
      have hk1 : (k : Int) < (n1 : Int) := by omega
      have hst := Lib.hid (setOf_take hd)
      have cB := Lib.hid (fun wx => bitOf_any d wx)
      have hbo := bits_or (setOf_bd hV.out k) (bitN_le d)
      clear hd
      go_wp2_with fail
      refine (cB.out _).mono ?_
      rintro e w' ⟨rfl, rfl⟩
      go_wp2_with fail
      go_roundg (n1 - (k + 1))
      case measure => omega
      case rel => exact ⟨k + 1, by omega, rfl, by go_num, by rw [hst.out, ← hbo], rfl⟩
    · obtain rfl : k = n1 := by omega
      rw [hT.out]
      go_wp2_with fail
      go_ret
      exact ⟨rfl, hB.out⟩
set_option maxHeartbeats 1000000 in
theorem numberIn_any (A1 A2 : Option Addr) (n1 c1 n2 c2 : Nat) (F : Fac) (st : Int) (w : World) (h : FacW w w.heap.size A1 n1 A2 n2 F) (hn : n1 ≤ 4) (hln : F.ns.length = 3 ^ F.vs.length) (hv : ∀ v ∈ F.vs, 0 ≤ v ∧ v ≤ 3) (hs : 0 ≤ st ∧ st ≤ 80) :
    Calls Try.prog 64 #[.agg #[.slice A1 n1 c1, .slice A2 n2 c2], .int .i64 st] w fun e w' => e = .returned (.int .i64 (fAt F st)) ∧ Below w.heap.size w w' := by
  have hB0 : Below w.heap.size w (w.alloc (.cells #[.slice A1 n1 c1, .slice A2 n2 c2] 27)) := (Below.refl _ _).alloc (Nat.le_refl _) _
  have hl1 := h.1.1
  have hl2 := h.2.1
  have hF := Lib.hid (h.below hB0)
  have hV := Lib.hid hv
  have hH := Lib.hid (Has.new w 27 #[.slice A1 n1 c1, .slice A2 n2 c2])
  have hB := Lib.hid hB0
  have hT := Lib.hid (show F.vs.take n1 = F.vs from List.take_of_length_le (by omega))
  obtain ⟨q, hq, hqn, hd0⟩ := fAt_get hln hv hs
  have hD := Lib.hid hd0
  have hq9 : (q : Int) < (n2 : Int) := by omega
  have hq0 : (0 : Int) ≤ (q : Int) := by omega
  have hQ := Lib.hid hq
  clear h hB0 hv hq hd0
  go_enter Try.func64, Try.ntmps64
  go_wp2_with fail
  generalize w.alloc (.cells #[.slice A1 n1 c1, .slice A2 n2 c2] 27) = W0 at hF hH hB ⊢
  generalize hG : w.heap.size = G at hH ⊢
  have hc0 := hH.out.cell
  go_wp2_with fail
  go_loopg [5, 6, 12] n1 (fun gn a m v wr => ∃ k : Nat, k ≤ n1 ∧ gn = n1 - k ∧ v = .int .i64 k ∧ a = .int .i64 (idx (F.vs.take k) st) ∧ m = .int .i64 (p3 k) ∧ wr = W0)
  case atStart => exact ⟨0, Nat.zero_le _, rfl, rfl, rfl, rfl, rfl⟩
  case round =>
    obtain ⟨k, hk, hgn, rfl, rfl, rfl, rfl⟩ := hrel
    have hgk : gk = n1 - k := hgn
    clear hgn
    by_cases hlt : k < n1
    · obtain ⟨g, off, d, rfl, hg, hd, cd⟩ := hF.out.1.at_ hlt
      have hk0 : (0 : Int) ≤ (k : Int) := by omega
      have hk1 : (k : Int) < (n1 : Int) := by omega
      have hst := Lib.hid (show idx (F.vs.take (k + 1)) st = idx (F.vs.take k) st + p3 k * valueAt st d by rw [p3_pow]; exact idx_take (st := st) hd)
      have hdb := hV.out d (List.mem_of_getElem? hd)
      have hvb := value_bd hs hdb
      have cA := Lib.hid (fun wx => ValueAt_any st d wx)
      have hib := idx_bd (vs := F.vs.take k) (fun v hx => hV.out v (List.mem_of_mem_take hx)) hs
      have hp4 := pow_four (n := (F.vs.take k).length) (by rw [List.length_take]; omega)
      have hp := pow_four (n := k) (by omega)
      have hp0 : 0 < 3 ^ k := Nat.pow_pos (by decide)
      have hp3 := p3_bd4 (k := k) (by omega)
      generalize idx (F.vs.take k) st = q0 at hst hib ⊢
      generalize valueAt st d = y at hst hvb cA
      have hm : 0 ≤ p3 k * y ∧ p3 k * y ≤ 162 := by
        obtain rfl | rfl | rfl : y = 0 ∨ y = 1 ∨ y = 2 := by omega
        all_goals omega
      have hst' := Lib.hid hst.out.symm
      generalize hP : p3 k * y = z at hm hst'
      have hw1 : IntKind.i64.wrap (p3 k * y) = z := by rw [hP, IntKind.wrap_i64]; omega
      have hw2 : IntKind.i64.wrap (q0 + z) = q0 + z := by rw [IntKind.wrap_i64]; omega
      clear hd hst hdb
      go_wp2_with fail
      refine (cA.out _).mono ?_
      rintro e w' ⟨rfl, rfl⟩
      go_wp2_with fail
      go_roundg (n1 - (k + 1))
      case measure => omega
      case rel => exact ⟨k + 1, by omega, rfl, by go_num, by first | (rw [← hst'.out, hw1, hw2]) | (rw [← hst'.out, hw2]) | rw [← hst'.out], rfl, rfl⟩
    · obtain rfl : k = n1 := by omega
      rw [hT.out, hQ.out]
      obtain ⟨g2, o2, d2, rfl, hg2, hd2, cd⟩ := hF.out.2.at_ (k := q) (by omega)
      obtain rfl : d2 = fAt F st := by have := hD.out; rw [hd2] at this; injection this
      go_wp2_with fail
      go_ret
      exact ⟨rfl, hB.out⟩
theorem FactorAt_any (A1 A2 : Option Addr) (n1 c1 n2 c2 : Nat) (F : Fac) (st : Int) (w : World) (h : FacW w w.heap.size A1 n1 A2 n2 F) (hn1 : n1 ≤ maxLen) (hn2 : n2 ≤ maxLen) :
    Calls Try.prog 21 #[.agg #[.slice A1 n1 c1, .slice A2 n2 c2], .int .i64 st] w fun e w' => e = .returned (.int .i64 (fAtTo F st)) ∧ Below w.heap.size w w' := by
  have hB0 : Below w.heap.size w (w.alloc (.cells #[.slice A1 n1 c1, .slice A2 n2 c2] 27)) := (Below.refl _ _).alloc (Nat.le_refl _) _
  have cF := Lib.hid (FactorOk_any A1 A2 n1 c1 n2 c2 F _ (h.below hB0) hn1 hn2)
  have hFw := Lib.hid (h.below hB0)
  have hH := Lib.hid (Has.new w 27 #[.slice A1 n1 c1, .slice A2 n2 c2])
  have hB := Lib.hid hB0
  have hc := hH.out.cell
  have hl := h.1.1
  clear h hB0 hn1 hn2
  cases hk : facOk 1000000000 F
  · have hR := Lib.hid (show fAtTo F st = -1 by unfold fAtTo; rw [hk]; simp)
    rw [hk] at cF
    clear hk
    go_enter Try.func21, Try.ntmps21
    go_wp2_with fail
    refine cF.out.mono ?_
    rintro e w1 ⟨rfl, hb⟩
    have hB1 := Lib.hid (hB.out.trans (hb.mono hB.out.size))
    clear hb hc
    go_wp2_with fail
    go_ret
    exact ⟨ret_int hR.out, hB1.out⟩
  · rw [hk] at cF
    have cI := Lib.hid (fun wx => within_any st 0 80 wx)
    cases hs : inB st 0 80
    · have hR := Lib.hid (show fAtTo F st = -1 by unfold fAtTo; rw [hs]; simp)
      rw [hs] at cI
      clear hk hs
      go_enter Try.func21, Try.ntmps21
      go_wp2_with fail
      refine cF.out.mono ?_
      rintro e w1 ⟨rfl, hb⟩
      have hB1 := Lib.hid (hB.out.trans (hb.mono hB.out.size))
      clear hb hc
      go_wp2_with fail
      refine (cI.out _).mono ?_
      rintro e w' ⟨rfl, rfl⟩
      go_wp2_with fail
      go_ret
      exact ⟨ret_int hR.out, hB1.out⟩
    · have hR := Lib.hid (show fAtTo F st = fAt F st by unfold fAtTo; rw [hk, hs]; rfl)
      obtain ⟨_, _, h3, h4, h5⟩ := fac_parts hk
      have cA := Lib.hid (fun wx hx => numberIn_any A1 A2 n1 c1 n2 c2 F st wx hx (by omega) h3 h5 (inB_iff.1 hs))
      rw [hs] at cI
      clear hk hs h3 h4 h5
      go_enter Try.func21, Try.ntmps21
      go_wp2_with fail
      refine cF.out.mono ?_
      rintro e w1 ⟨rfl, hb⟩
      have hB1 := Lib.hid (hB.out.trans (hb.mono hB.out.size))
      have hF1 := Lib.hid (hFw.out.below hb)
      have hc1 := (hH.out.kept hb).cell
      clear hb hc
      go_wp2_with fail
      refine (cI.out _).mono ?_
      rintro e w' ⟨rfl, rfl⟩
      go_wp2_with fail
      refine (cA.out _ hF1.out).mono ?_
      rintro e w3 ⟨rfl, hb3⟩
      have hB3 := Lib.hid (hB1.out.trans (hb3.mono hB1.out.size))
      clear hb3 hc1
      go_wp2_with fail
      go_ret
      exact ⟨ret_int hR.out, hB3.out⟩
set_option maxHeartbeats 1000000 in
/-- Whether a factor has a variable. -/
theorem isOver_any (A1 A2 : Option Addr) (n1 c1 n2 c2 : Nat) (F : Fac) (v : Int) (w : World) (h : FacW w w.heap.size A1 n1 A2 n2 F) (hn1 : n1 ≤ maxLen) (hn2 : n2 ≤ maxLen) :
    Calls Try.prog 72 #[.agg #[.slice A1 n1 c1, .slice A2 n2 c2], .int .i64 v] w fun e w' => e = .returned (.bool (facOk 1000000000 F && decide (v ∈ F.vs))) ∧ Below w.heap.size w w' := by
  have hB0 : Below w.heap.size w (w.alloc (.cells #[.slice A1 n1 c1, .slice A2 n2 c2] 27)) := (Below.refl _ _).alloc (Nat.le_refl _) _
  have cF := Lib.hid (FactorOk_any A1 A2 n1 c1 n2 c2 F _ (h.below hB0) hn1 hn2)
  have hFw := Lib.hid (h.below hB0)
  have hH := Lib.hid (Has.new w 27 #[.slice A1 n1 c1, .slice A2 n2 c2])
  have hB := Lib.hid hB0
  have hc := hH.out.cell
  clear h hB0
  cases hk : facOk 1000000000 F
  · rw [hk] at cF
    clear hk
    go_enter Try.func72, Try.ntmps72
    go_wp2_with fail
    refine cF.out.mono ?_
    rintro e w1 ⟨rfl, hb⟩
    have hB1 := Lib.hid (hB.out.trans (hb.mono hB.out.size))
    clear hb hc
    go_wp2_with fail
    go_ret
    exact ⟨rfl, hB1.out⟩
  · rw [hk] at cF
    obtain ⟨h1, _, _, _, h5⟩ := fac_parts hk
    obtain ⟨L, hL, hS, _⟩ := fac_set hk
    have cV := Lib.hid (fun wx hx => varsOf_any A1 A2 n1 c1 n2 c2 F wx hx hn1 h5)
    have cB := Lib.hid (fun wx => bitOf_any v wx)
    have hM := Lib.hid (over_has hL v)
    rw [hS] at cV
    clear hk h1 h5 hS
    go_enter Try.func72, Try.ntmps72
    go_wp2_with fail
    refine cF.out.mono ?_
    rintro e w1 ⟨rfl, hb⟩
    have hB1 := Lib.hid (hB.out.trans (hb.mono hB.out.size))
    have hF1 := Lib.hid (hFw.out.below hb)
    have hc1 := (hH.out.kept hb).cell
    clear hb hc
    go_wp2_with fail
    refine (cV.out _ hF1.out).mono ?_
    rintro e w3 ⟨rfl, hb3⟩
    have hB3 := Lib.hid (hB1.out.trans (hb3.mono hB1.out.size))
    clear hb3 hc1
    go_wp2_with fail
    refine (cB.out _).mono ?_
    rintro e w' ⟨rfl, rfl⟩
    go_wp2_with fail
    go_ret
    exact ⟨by rw [hM.out]; rfl, hB3.out⟩
end Go.Proofs.Ytdegfbdoeklhnaa
