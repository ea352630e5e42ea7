/- Parts of the proof: Ch. -/
import Derived.Test.YtkggejmamhakaaaZAU
namespace Go.Proofs.Ytkggejmamhakaaa
set_option maxRecDepth 100000
set_option linter.unusedVariables false
open Go.RowKit
theorem ok_kind {s : St} (h : s.ok = true) (h6 : s.k < 6) : 0 ≤ s.k ∧ s.k ≤ 6 := by
  rcases (ok_low h6).1 h with ⟨hk, _⟩ | ⟨hk, _⟩ | ⟨hk, _⟩ | ⟨hk, _⟩ <;> omega
theorem ok_ws {s : St} (h : s.ok = true) (h6 : s.k < 6) : (0 ≤ s.u ∧ s.u ≤ 9) ∧ (0 ≤ s.v ∧ s.v ≤ 9) ∧ (0 ≤ s.x ∧ s.x ≤ 9) := by
  have := ok_w h h6
  exact ⟨this.1, this.2.1, this.2.2.1⟩
theorem may2_none {c : Int} (hc : 0 ≤ c ∧ c ≤ 4) (h : may2 c 6 = true) : c = 3 := by
  obtain rfl | rfl | rfl | rfl | rfl : c = 0 ∨ c = 1 ∨ c = 2 ∨ c = 3 ∨ c = 4 := by omega
  all_goals first | rfl | (exact absurd h (by decide))
set_option maxHeartbeats 1000000 in
theorem changeFits_none (c : Int) (a : St) (A : Option Addr) (cap : Nat) (w : World) (hc : 0 ≤ c ∧ c ≤ 4) (ha : a.ok = true ∧ a.k < 6) (h : Lst w w.heap.size A 1 [a]) (hcap : 1 ≤ cap) :
    Calls Try.prog 46 #[.int .i64 c, .slice A 1 cap] w fun e w' => e = .returned (.bool (fits c a none)) ∧ Below w.heap.size w w' := by
  obtain ⟨g, off, s0, rfl, hg, hs0, hat⟩ := h.at_ (k := 0) (by omega)
  obtain rfl : a = s0 := by simpa using hs0
  obtain ⟨c0, c1, c2, c3, c4, c5, c6⟩ := hat.open_
  simp only [Nat.zero_mul, Nat.add_zero] at c0 c1 c2 c3 c4 c5 c6
  have hka := ok_kind ha.1 ha.2
  have hwa := ok_ws ha.1 ha.2
  have hkb : (0 : Int) ≤ 6 ∧ (6 : Int) ≤ 6 := by decide
  have h1 := Has.new w 63 #[.int .i64 a.k, .int .i64 a.a, .int .i64 a.b, .int .i64 a.c, .int .i64 a.u, .int .i64 a.v, .int .i64 a.x]
  have hB := Lib.hid (show Below w.heap.size w (w.alloc (.cells #[.int .i64 a.k, .int .i64 a.a, .int .i64 a.b, .int .i64 a.c, .int .i64 a.u, .int .i64 a.v, .int .i64 a.x] 63)) from (Below.refl _ _).alloc (Nat.le_refl _) _)
  have hF : fits c a none = (may1 c a.k && may2 c 6 && (if c = 3 then decide (1 < com a) else false)) := rfl
  have hsum : isum [a.u, a.v, a.x] = a.u + a.v + a.x := by simp [isum]; omega
  have hcom : gcdF [a.u, a.v, a.x] = com a := rfl
  have cT := Lib.hid (tallyOf_any (some ⟨w.heap.size, 4, none⟩) 3 3 [a.u, a.v, a.x] (w.alloc (.cells #[.int .i64 a.k, .int .i64 a.a, .int .i64 a.b, .int .i64 a.c, .int .i64 a.u, .int .i64 a.v, .int .i64 a.x] 63)) (wts_ils h1) (by decide) (by simp; omega) (by rw [hsum]; omega))
  rw [hsum, hcom] at cT
  clear h hat hs0 hsum hcom hwa
  cases hm1 : may1 c a.k
  · have hR := Lib.hid (show fits c a none = false by rw [hF, hm1]; rfl)
    have hm := Lib.hid hm1
    clear hm1 hF
    go_enter Try.func46, Try.ntmps46
    go_wp2_with fail
    refine (mayStand_1 c a.k hc hka _).mono ?_
    rw [hm.out]
    rintro e w9 ⟨rfl, hbe⟩
    obtain rfl := hbe
    go_wp2_with fail
    go_ret
    exact ⟨ret_bool hR.out, hB.out⟩
  · have hm := Lib.hid hm1
    cases hm2 : may2 c 6
    · have hR := Lib.hid (show fits c a none = false by rw [hF, hm1, hm2]; rfl)
      have hn := Lib.hid hm2
      clear hm1 hm2 hF
      go_enter Try.func46, Try.ntmps46
      go_wp2_with fail
      refine (mayStand_1 c a.k hc hka _).mono ?_
      rw [hm.out]
      rintro e w9 ⟨rfl, hbe⟩
      obtain rfl := hbe
      go_wp2_with fail
      refine (mayStand_2 c 6 hc hkb _).mono ?_
      rw [hn.out]
      rintro e w9 ⟨rfl, hbe⟩
      obtain rfl := hbe
      go_wp2_with fail
      go_ret
      exact ⟨ret_bool hR.out, hB.out⟩
    · obtain rfl := may2_none hc hm2
      have hR := Lib.hid (show fits 3 a none = decide (1 < com a) by rw [hF, hm1, hm2]; rfl)
      have hn := Lib.hid hm2
      clear hm1 hm2 hF
      go_enter Try.func46, Try.ntmps46
      go_wp2_with fail
      refine (mayStand_1 3 a.k hc hka _).mono ?_
      rw [hm.out]
      rintro e w9 ⟨rfl, hbe⟩
      obtain rfl := hbe
      go_wp2_with fail
      refine (mayStand_2 3 6 hc hkb _).mono ?_
      rw [hn.out]
      rintro e w9 ⟨rfl, hbe⟩
      obtain rfl := hbe
      go_wp2_with fail
      refine cT.out.mono ?_
      rintro e w5 ⟨rfl, hb5⟩
      have hB5 := Lib.hid (hB.out.trans (hb5.mono (by simp)))
      clear hb5
      have tc := tally_common (a.u + a.v + a.x) (com a)
      go_wp2_with fail
      go_ret
      exact ⟨ret_bool hR.out, hB5.out⟩
set_option maxHeartbeats 2000000 in
theorem changeFits_some (c : Int) (a b : St) (A : Option Addr) (cap : Nat) (w : World) (hc : 0 ≤ c ∧ c ≤ 4) (ha : a.ok = true ∧ a.k < 6) (hb : b.ok = true ∧ b.k < 6) (h : Lst w w.heap.size A 2 [a, b]) (hcap : 2 ≤ cap) :
    Calls Try.prog 46 #[.int .i64 c, .slice A 2 cap] w fun e w' => e = .returned (.bool (fits c a (some b))) ∧ Below w.heap.size w w' := by
  obtain ⟨g, off, s0, rfl, hg, hs0, hat⟩ := h.at_ (k := 0) (by omega)
  obtain rfl : a = s0 := by simpa using hs0
  obtain ⟨c0, c1, c2, c3, c4, c5, c6⟩ := hat.open_
  simp only [Nat.zero_mul, Nat.add_zero] at c0 c1 c2 c3 c4 c5 c6
  have hka := ok_kind ha.1 ha.2
  have hwa := ok_ws ha.1 ha.2
  obtain ⟨g', off', s1, e, _, hs1, hat1⟩ := h.at_ (k := 1) (by omega)
  obtain ⟨rfl, rfl⟩ : g = g' ∧ off = off' := by injection e with e; injection e with e1 e2; exact ⟨e1, e2⟩
  obtain rfl : b = s1 := by simpa using hs1
  obtain ⟨d0, d1, d2, d3, d4, d5, d6⟩ := hat1.open_
  simp only [Nat.one_mul] at d0 d1 d2 d3 d4 d5 d6
  have hkb := ok_kind hb.1 hb.2
  have hwb := ok_ws hb.1 hb.2
  have h1 := Has.new w 63 #[.int .i64 a.k, .int .i64 a.a, .int .i64 a.b, .int .i64 a.c, .int .i64 a.u, .int .i64 a.v, .int .i64 a.x]
  have h1' := h1.alloc (.cells #[.int .i64 b.k, .int .i64 b.a, .int .i64 b.b, .int .i64 b.c, .int .i64 b.u, .int .i64 b.v, .int .i64 b.x] 63)
  have h2 := (Has.newAt (w := w.alloc (.cells #[.int .i64 a.k, .int .i64 a.a, .int .i64 a.b, .int .i64 a.c, .int .i64 a.u, .int .i64 a.v, .int .i64 a.x] 63)) (n := w.heap.size + 1) (t := 63) (cs := #[.int .i64 b.k, .int .i64 b.a, .int .i64 b.b, .int .i64 b.c, .int .i64 b.u, .int .i64 b.v, .int .i64 b.x]) (by simp))
  have hB := Lib.hid (show Below w.heap.size w (w.alloc (.cells #[.int .i64 a.k, .int .i64 a.a, .int .i64 a.b, .int .i64 a.c, .int .i64 a.u, .int .i64 a.v, .int .i64 a.x] 63)) from (Below.refl _ _).alloc (Nat.le_refl _) _)
  have hB2 := Lib.hid (show Below w.heap.size w ((w.alloc (.cells #[.int .i64 a.k, .int .i64 a.a, .int .i64 a.b, .int .i64 a.c, .int .i64 a.u, .int .i64 a.v, .int .i64 a.x] 63)).alloc (.cells #[.int .i64 b.k, .int .i64 b.a, .int .i64 b.b, .int .i64 b.c, .int .i64 b.u, .int .i64 b.v, .int .i64 b.x] 63)) from ((Below.refl _ _).alloc (Nat.le_refl _) _).alloc (by simp) _)
  have hF : fits c a (some b) = (may1 c a.k && may2 c b.k && (if c = 3 then decide (1 < com a) else fitR c a b)) := fits_some c a b
  have hsum : isum [a.u, a.v, a.x] = a.u + a.v + a.x := by simp [isum]; omega
  have hcom : gcdF [a.u, a.v, a.x] = com a := rfl
  have cT := Lib.hid (tallyOf_any (some ⟨w.heap.size, 4, none⟩) 3 3 [a.u, a.v, a.x] (w.alloc (.cells #[.int .i64 a.k, .int .i64 a.a, .int .i64 a.b, .int .i64 a.c, .int .i64 a.u, .int .i64 a.v, .int .i64 a.x] 63)) (wts_ils h1) (by decide) (by simp; omega) (by rw [hsum]; omega))
  rw [hsum, hcom] at cT
  have cFo := Lib.hid (fun wx => foldedWeights_any a b wx hwa hwb)
  have cWo := Lib.hid (fun wx => weightsOk_any (a.u * b.u) (a.v * b.v) (a.x * b.x) wx)
  have cSw := Lib.hid (fun wx => swapFits_any a b wx)
  have e1 := h1'.cell
  have e2 := h2.cell
  have hh1 := Lib.hid h1'
  have hh2 := Lib.hid h2
  have hz2 : ((w.alloc (.cells #[.int .i64 a.k, .int .i64 a.a, .int .i64 a.b, .int .i64 a.c, .int .i64 a.u, .int .i64 a.v, .int .i64 a.x] 63)).alloc (.cells #[.int .i64 b.k, .int .i64 b.a, .int .i64 b.b, .int .i64 b.c, .int .i64 b.u, .int .i64 b.v, .int .i64 b.x] 63)).heap.size = w.heap.size + 2 := by simp
  have hzz := Lib.hid hz2
  clear h hat hs0 hsum hcom hat1 hs1 e hwa hwb h1 h1' h2 hz2
  cases hm1 : may1 c a.k
  · have hR := Lib.hid (show fits c a (some b) = false by rw [hF, hm1]; rfl)
    have hm := Lib.hid hm1
    clear hm1 hF e1 e2
    go_enter Try.func46, Try.ntmps46
    go_wp2_with fail
    refine (mayStand_1 c a.k hc hka _).mono ?_
    rw [hm.out]
    rintro e w9 ⟨rfl, hbe⟩
    obtain rfl := hbe
    go_wp2_with fail
    go_ret
    exact ⟨ret_bool hR.out, hB.out⟩
  · have hm := Lib.hid hm1
    cases hm2 : may2 c b.k
    · have hR := Lib.hid (show fits c a (some b) = false by rw [hF, hm1, hm2]; rfl)
      have hn := Lib.hid hm2
      clear hm1 hm2 hF e1 e2
      go_enter Try.func46, Try.ntmps46
      go_wp2_with fail
      refine (mayStand_1 c a.k hc hka _).mono ?_
      rw [hm.out]
      rintro e w9 ⟨rfl, hbe⟩
      obtain rfl := hbe
      go_wp2_with fail
      refine (mayStand_2 c b.k hc hkb _).mono ?_
      rw [hn.out]
      rintro e w9 ⟨rfl, hbe⟩
      obtain rfl := hbe
      go_wp2_with fail
      go_ret
      exact ⟨ret_bool hR.out, hB.out⟩
    · have hR0 : fits c a (some b) = (if c = 3 then decide (1 < com a) else fitR c a b) := by rw [hF, hm1, hm2]; rfl
      have hn := Lib.hid hm2
      clear hm1 hm2 hF
      obtain rfl | rfl | rfl | rfl | rfl : c = 0 ∨ c = 1 ∨ c = 2 ∨ c = 3 ∨ c = 4 := by omega
      · have hR := Lib.hid (show fits 0 a (some b) = swapOk a b from hR0)
        clear hR0
        go_enter Try.func46, Try.ntmps46
        go_wp2_with fail
        refine (mayStand_1 0 a.k hc hka _).mono ?_
        rw [hm.out]
        rintro e w9 ⟨rfl, hbe⟩
        obtain rfl := hbe
        go_wp2_with fail
        refine (mayStand_2 0 b.k hc hkb _).mono ?_
        rw [hn.out]
        rintro e w9 ⟨rfl, hbe⟩
        obtain rfl := hbe
        go_wp2_with fail
        refine (cSw.out _).mono ?_
        rintro e w5 ⟨rfl, hb5⟩
        have hB5 := Lib.hid (hB2.out.trans (hb5.mono (by simp; omega)))
        clear hb5 e1 e2
        go_wp2_with fail
        go_ret
        exact ⟨ret_bool hR.out, hB5.out⟩
      · have hR1 : fits 1 a (some b) = (a.a == b.a && wOk (a.u * b.u) (a.v * b.v) (a.x * b.x)) := hR0
        cases hq : (a.a == b.a)
        · have hR := Lib.hid (show fits 1 a (some b) = false by rw [hR1, hq]; rfl)
          clear hR0 hR1
          go_enter Try.func46, Try.ntmps46
          go_wp2_with fail
          refine (mayStand_1 1 a.k hc hka _).mono ?_
          rw [hm.out]
          rintro e w9 ⟨rfl, hbe⟩
          obtain rfl := hbe
          go_wp2_with fail
          refine (mayStand_2 1 b.k hc hkb _).mono ?_
          rw [hn.out]
          rintro e w9 ⟨rfl, hbe⟩
          obtain rfl := hbe
          go_wp2_with fail
          go_ret
          exact ⟨ret_bool hR.out, hB2.out⟩
        · have hR := Lib.hid (show fits 1 a (some b) = wOk (a.u * b.u) (a.v * b.v) (a.x * b.x) by rw [hR1, hq]; rfl)
          clear hR0 hR1
          go_enter Try.func46, Try.ntmps46
          go_wp2_with fail
          refine (mayStand_1 1 a.k hc hka _).mono ?_
          rw [hm.out]
          rintro e w9 ⟨rfl, hbe⟩
          obtain rfl := hbe
          go_wp2_with fail
          refine (mayStand_2 1 b.k hc hkb _).mono ?_
          rw [hn.out]
          rintro e w9 ⟨rfl, hbe⟩
          obtain rfl := hbe
          go_wp2_with fail
          refine (cFo.out _).mono ?_
          rintro e w5 ⟨rfl, hb5⟩
          have hB5 := Lib.hid (hB2.out.trans (hb5.mono (by simp; omega)))
          clear hb5 e1 e2
          go_wp2_with fail
          refine (cWo.out _).mono ?_
          rintro e w6 ⟨rfl, hb6⟩
          have hB6 := Lib.hid (hB5.out.trans (hb6.mono hB5.out.size))
          clear hb6
          go_wp2_with fail
          go_ret
          exact ⟨ret_bool hR.out, hB6.out⟩
      · have hR1 : fits 2 a (some b) = (a.a == b.a && (bits .and .i64 b.reads (bitN a.a) == 0)) := hR0
        cases hq : (a.a == b.a)
        · have hR := Lib.hid (show fits 2 a (some b) = false by rw [hR1, hq]; rfl)
          clear hR0 hR1
          go_enter Try.func46, Try.ntmps46
          go_wp2_with fail
          refine (mayStand_1 2 a.k hc hka _).mono ?_
          rw [hm.out]
          rintro e w9 ⟨rfl, hbe⟩
          obtain rfl := hbe
          go_wp2_with fail
          refine (mayStand_2 2 b.k hc hkb _).mono ?_
          rw [hn.out]
          rintro e w9 ⟨rfl, hbe⟩
          obtain rfl := hbe
          go_wp2_with fail
          go_quiet (fail)
          go_wp2_with fail
          go_ret
          exact ⟨ret_bool hR.out, below_drewN hB2.out _⟩
        · have hR := Lib.hid (show fits 2 a (some b) = (bits .and .i64 (St.mk b.k b.a b.b b.c b.u b.v b.x).reads (bitN a.a) == 0) by rw [hR1, hq]; rfl)
          clear hR0 hR1
          go_enter Try.func46, Try.ntmps46
          go_wp2_with fail
          refine (mayStand_1 2 a.k hc hka _).mono ?_
          rw [hm.out]
          rintro e w9 ⟨rfl, hbe⟩
          obtain rfl := hbe
          go_wp2_with fail
          refine (mayStand_2 2 b.k hc hkb _).mono ?_
          rw [hn.out]
          rintro e w9 ⟨rfl, hbe⟩
          obtain rfl := hbe
          go_wp2_with fail
          generalize ((w.alloc (.cells #[.int .i64 a.k, .int .i64 a.a, .int .i64 a.b, .int .i64 a.c, .int .i64 a.u, .int .i64 a.v, .int .i64 a.x] 63)).alloc (.cells #[.int .i64 b.k, .int .i64 b.a, .int .i64 b.b, .int .i64 b.c, .int .i64 b.u, .int .i64 b.v, .int .i64 b.x] 63)) = W0 at hh1 hh2 hB2 hzz e1 e2 ⊢
          have hOk := Lib.hid (fun (wx : World) (hx : Below W0.heap.size W0 wx) => two_of hh1.out hh2.out hx)
          go_region_held3 (fun wx => Below W0.heap.size W0 wx ∧ wx.cell? ⟨w.heap.size, 0, none⟩ = some (.int .i64 a.k) ∧ wx.cell? ⟨w.heap.size, 1, none⟩ = some (.int .i64 a.a) ∧ wx.cell? ⟨w.heap.size, 2, none⟩ = some (.int .i64 a.b) ∧ wx.cell? ⟨w.heap.size, 3, none⟩ = some (.int .i64 a.c) ∧ wx.cell? ⟨w.heap.size, 4, none⟩ = some (.int .i64 a.u) ∧ wx.cell? ⟨w.heap.size, 5, none⟩ = some (.int .i64 a.v) ∧ wx.cell? ⟨w.heap.size, 6, none⟩ = some (.int .i64 a.x) ∧ wx.cell? ⟨w.heap.size + 1, 0, none⟩ = some (.int .i64 b.k) ∧ wx.cell? ⟨w.heap.size + 1, 1, none⟩ = some (.int .i64 b.a) ∧ wx.cell? ⟨w.heap.size + 1, 2, none⟩ = some (.int .i64 b.b) ∧ wx.cell? ⟨w.heap.size + 1, 3, none⟩ = some (.int .i64 b.c) ∧ wx.cell? ⟨w.heap.size + 1, 4, none⟩ = some (.int .i64 b.u) ∧ wx.cell? ⟨w.heap.size + 1, 5, none⟩ = some (.int .i64 b.v) ∧ wx.cell? ⟨w.heap.size + 1, 6, none⟩ = some (.int .i64 b.x)) (first | exact hOk.out _ ((Below.refl _ _).drew) | exact hOk.out _ (bt6 (by assumption) hbq) | exact hOk.out _ (bs6 (by assumption)) | exact hOk.out _ (bd6 (by assumption)) | go_keep) (first | (go_at_call 80; refine (StmtReads_any _ _ _ _ _ _ _ _).mono ?_; rintro e q ⟨rfl, hbq⟩) | (go_at_call 81; refine (bitOf_any _ _).mono ?_; rintro e q2 ⟨rfl, hbe⟩; obtain rfl := hbe))
          rename_i hHeld
          have hB5 := Lib.hid (hB2.out.trans (hHeld.1.mono (by have := hzz.out; omega)))
          clear hHeld e1 e2 hbq hOk
          go_wp2_with fail
          go_ret
          exact ⟨ret_bool hR.out, hB5.out⟩
      · have hR := Lib.hid (show fits 3 a (some b) = decide (1 < com a) from hR0)
        clear hR0
        go_enter Try.func46, Try.ntmps46
        go_wp2_with fail
        refine (mayStand_1 3 a.k hc hka _).mono ?_
        rw [hm.out]
        rintro e w9 ⟨rfl, hbe⟩
        obtain rfl := hbe
        go_wp2_with fail
        refine (mayStand_2 3 b.k hc hkb _).mono ?_
        rw [hn.out]
        rintro e w9 ⟨rfl, hbe⟩
        obtain rfl := hbe
        go_wp2_with fail
        refine cT.out.mono ?_
        rintro e w5 ⟨rfl, hb5⟩
        have hB5 := Lib.hid (hB.out.trans (hb5.mono (by simp)))
        clear hb5
        have tc := tally_common (a.u + a.v + a.x) (com a)
        go_wp2_with fail
        go_ret
        exact ⟨ret_bool hR.out, hB5.out⟩
      · have hR1 : fits 4 a (some b) = (a.b == -1 && a.a == b.b) := hR0
        cases hq : (a.b == -1)
        · have hR := Lib.hid (show fits 4 a (some b) = false by rw [hR1, hq]; rfl)
          clear hR0 hR1
          go_enter Try.func46, Try.ntmps46
          go_wp2_with fail
          refine (mayStand_1 4 a.k hc hka _).mono ?_
          rw [hm.out]
          rintro e w9 ⟨rfl, hbe⟩
          obtain rfl := hbe
          go_wp2_with fail
          refine (mayStand_2 4 b.k hc hkb _).mono ?_
          rw [hn.out]
          rintro e w9 ⟨rfl, hbe⟩
          obtain rfl := hbe
          go_wp2_with fail
          go_ret
          exact ⟨ret_bool hR.out, hB2.out⟩
        · have hR := Lib.hid (show fits 4 a (some b) = (a.a == b.b) by rw [hR1, hq]; rfl)
          clear hR0 hR1
          go_enter Try.func46, Try.ntmps46
          go_wp2_with fail
          refine (mayStand_1 4 a.k hc hka _).mono ?_
          rw [hm.out]
          rintro e w9 ⟨rfl, hbe⟩
          obtain rfl := hbe
          go_wp2_with fail
          refine (mayStand_2 4 b.k hc hkb _).mono ?_
          rw [hn.out]
          rintro e w9 ⟨rfl, hbe⟩
          obtain rfl := hbe
          go_wp2_with fail
          go_ret
          exact ⟨ret_bool hR.out, hB2.out⟩
theorem changeFits_any (c : Int) (a : St) (ob : Option St) (A : Option Addr) (cap : Nat) (w : World) (hc : 0 ≤ c ∧ c ≤ 4) (ha : a.ok = true ∧ a.k < 6) (hb : ∀ b, ob = some b → b.ok = true ∧ b.k < 6) (h : Lst w w.heap.size A (1 + ob.toList.length) (a :: ob.toList)) (hcap : 1 + ob.toList.length ≤ cap) :
    Calls Try.prog 46 #[.int .i64 c, .slice A (1 + ob.toList.length) cap] w fun e w' => e = .returned (.bool (fits c a ob)) ∧ Below w.heap.size w w' := by
  cases ob with
  | none => exact changeFits_none c a A cap w hc ha h hcap
  | some b => exact changeFits_some c a b A cap w hc ha (hb b rfl) h hcap
end Go.Proofs.Ytkggejmamhakaaa
