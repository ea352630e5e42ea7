/- Which variables are over: the program's liveAhead, behindSkip and livesOf. -/
import Derived.Test.YtjokiminlplbcaaSwa
import Derived.Test.YtjokiminlplbcaaUnC
import Derived.Deep.RegionHeld3
import Derived.Deep.RegionLaw
import Derived.StillTailTactics
namespace Go.Proofs.Ytjokiminlplbcaa
set_option maxRecDepth 100000
set_option linter.unusedVariables false
open Go.RowKit

def St.weighs (s : St) : Bool := s.k == 4 || s.k == 5
theorem isWeigh_any (s : St) (w : World) :
    Calls Try.prog 126 #[.agg #[.int .i64 s.k, .int .i64 s.a, .int .i64 s.b, .int .i64 s.c, .int .i64 s.u, .int .i64 s.v, .int .i64 s.x]] w fun e w' => e = .returned (.bool s.weighs) ∧ Below w.heap.size w w' := by
  have hB : Below w.heap.size w (w.alloc (.cells #[.int .i64 s.k, .int .i64 s.a, .int .i64 s.b, .int .i64 s.c, .int .i64 s.u, .int .i64 s.v, .int .i64 s.x] 83)) := (Below.refl _ _).alloc (Nat.le_refl _) _
  cases h4 : (s.k == 4)
  · cases h5 : (s.k == 5)
    · have hR := Lib.hid (show s.weighs = false by unfold St.weighs; rw [h4, h5]; rfl)
      go_enter Try.func126, Try.ntmps126
      go_wp2
      go_ret
      exact ⟨ret_bool hR.out, hB⟩
    · have hR := Lib.hid (show s.weighs = true by unfold St.weighs; rw [h4, h5]; rfl)
      go_enter Try.func126, Try.ntmps126
      go_wp2
      go_ret
      exact ⟨ret_bool hR.out, hB⟩
  · have hR := Lib.hid (show s.weighs = true by unfold St.weighs; rw [h4]; rfl)
    go_enter Try.func126, Try.ntmps126
    go_wp2
    go_ret
    exact ⟨ret_bool hR.out, hB⟩

theorem bitN_le (n : Int) : 0 ≤ bitN n ∧ bitN n ≤ 15 := by have := bitN_bd n; omega
theorem and_none : ∀ (n : Fin 16), (bits .and .i64 (n.val : Int) 0 == 0) = true := by decide +kernel
/-- Whether what is set is live behind. -/
def St.lives (s : St) (L : Int) : Bool := decide (0 ≤ s.sets) && tb L s.sets.toNat
theorem lives_bits {s : St} {L : Int} (hL : 0 ≤ L ∧ L ≤ 15) (hs : s.sets = -1 ∨ (0 ≤ s.sets ∧ s.sets ≤ 3)) : (bits .and .i64 L (bitN s.sets) == 0) = !s.lives L := by
  unfold St.lives
  rcases hs with h | ⟨h0, h3⟩
  · rw [h]
    obtain ⟨n, rfl⟩ := fin16 hL
    exact and_none n
  · have := bits_and hL (k := s.sets.toNat) (by omega)
    rw [show ((s.sets.toNat : Nat) : Int) = s.sets by omega] at this
    rw [this, decide_eq_true h0, Bool.true_and]
theorem sets_rng {s : St} (h : s.ok = true) : s.sets = -1 ∨ (0 ≤ s.sets ∧ s.sets ≤ 3) := by
  unfold St.sets
  obtain ⟨k, a, b, c, u, v, x⟩ := s
  have := ok_rng h
  split
  · right
    dsimp only
    omega
  · left; rfl
theorem ahead_yes {s : St} {L : Int} (h : s.weighs = true ∨ s.lives L = true) : s.ahead L = bor (bdf L (bitN s.sets)) s.reads := by
  unfold St.ahead
  rw [if_pos]
  rcases h with h | h
  · unfold St.weighs at h
    simp at h
    rcases h with h | h
    · exact .inl h
    · exact .inr (.inl h)
  · unfold St.lives at h
    simp at h
    exact .inr (.inr h)
theorem ahead_no {s : St} {L : Int} (h : s.weighs = false) (h2 : s.lives L = false) : s.ahead L = L := by
  unfold St.ahead
  rw [if_neg]
  unfold St.weighs at h
  unfold St.lives at h2
  simp at h h2
  rintro (e | e | ⟨e, e2⟩)
  · exact h.1 e
  · exact h.2 e
  · rw [h2 e] at e2
    cases e2

theorem liveAhead_any (s : St) (L : Int) (w : World) (hok : s.ok = true) (hL : 0 ≤ L ∧ L ≤ 15) :
    Calls Try.prog 117 #[.agg #[.int .i64 s.k, .int .i64 s.a, .int .i64 s.b, .int .i64 s.c, .int .i64 s.u, .int .i64 s.v, .int .i64 s.x], .int .i64 L] w fun e w' => e = .returned (.int .i64 (s.ahead L)) ∧ Below w.heap.size w w' := by
  have cS := Lib.hid (fun wx => StmtSets_any s.k s.a s.b s.c s.u s.v s.x wx)
  have cR := Lib.hid (fun wx => StmtReads_any s.k s.a s.b s.c s.u s.v s.x wx)
  have cW := Lib.hid (fun wx => isWeigh_any s wx)
  have hlb : (bits .and .i64 L (bitN s.sets) != 0) = s.lives L := by rw [bne, lives_bits hL (sets_rng hok), Bool.not_not]
  have hd := bits_diff hL (bitN_le s.sets)
  have ho := bits_or (bdf_bd (b := bitN s.sets) hL.2) (reads_bd s)
  have hyes := Lib.hid (fun h => ahead_yes (s := s) (L := L) h)
  have hno := Lib.hid (fun h h2 => ahead_no (s := s) (L := L) h h2)
  have cB := Lib.hid (fun n wx => bitOf_any n wx)
  rw [show St.mk s.k s.a s.b s.c s.u s.v s.x = s from rfl] at cS cR
  have hG := Lib.hid (Has.new w 83 #[.int .i64 s.k, .int .i64 s.a, .int .i64 s.b, .int .i64 s.c, .int .i64 s.u, .int .i64 s.v, .int .i64 s.x])
  have hB0 : Below w.heap.size w (w.alloc (.cells #[.int .i64 s.k, .int .i64 s.a, .int .i64 s.b, .int .i64 s.c, .int .i64 s.u, .int .i64 s.v, .int .i64 s.x] 83)) := (Below.refl _ _).alloc (Nat.le_refl _) _
  cases hw : s.weighs
  · cases hl : s.lives L
    · have hR := Lib.hid (hno.out hw hl)
      have hWg := Lib.hid hw
      rw [hl] at hlb
      clear hw hl
      go_enter Try.func117, Try.ntmps117
      go_wp2_with fail
      refine (cS.out _).mono ?_
      rintro e w1 ⟨rfl, hb1⟩
      have hG1 := hG.out.kept hb1
      have hB1 := Lib.hid (hB0.trans (hb1.mono hB0.size))
      have hc1 := hG1.cell
      have hG1' := Lib.hid hG1
      clear hb1 hG1
      go_wp2_with fail
      refine (cB.out _ _).mono ?_
      rintro e w' ⟨rfl, rfl⟩
      go_wp2_with fail
      refine (cW.out _).mono ?_
      rw [hWg.out]
      rintro e w2 ⟨rfl, hb2⟩
      have hG2 := hG1'.out.kept hb2
      have hB2 := Lib.hid (hB1.out.trans (hb2.mono hB1.out.size))
      have hc2 := hG2.cell
      clear hb2 hc1 hG2 hG1'
      go_wp2_with fail
      go_ret
      exact ⟨ret_int hR.out, hB2.out⟩
    · have hR := Lib.hid (hyes.out (.inr hl))
      have hWg := Lib.hid hw
      rw [hl] at hlb
      clear hw hl
      go_enter Try.func117, Try.ntmps117
      go_wp2_with fail
      refine (cS.out _).mono ?_
      rintro e w1 ⟨rfl, hb1⟩
      have hG1 := hG.out.kept hb1
      have hB1 := Lib.hid (hB0.trans (hb1.mono hB0.size))
      have hc1 := hG1.cell
      have hG1' := Lib.hid hG1
      clear hb1 hG1
      go_wp2_with fail
      refine (cB.out _ _).mono ?_
      rintro e w' ⟨rfl, rfl⟩
      go_wp2_with fail
      refine (cW.out _).mono ?_
      rw [hWg.out]
      rintro e w2 ⟨rfl, hb2⟩
      have hG2 := hG1'.out.kept hb2
      have hB2 := Lib.hid (hB1.out.trans (hb2.mono hB1.out.size))
      have hc2 := hG2.cell
      clear hb2 hc1 hG2 hG1'
      go_wp2_with fail
      refine (cR.out _).mono ?_
      rintro e w3 ⟨rfl, hb3⟩
      have hB3 := Lib.hid (hB2.out.trans (hb3.mono hB2.out.size))
      clear hb3 hc2
      go_wp2
      go_ret
      exact ⟨ret_int hR.out, hB3.out⟩
  · have hR := Lib.hid (hyes.out (.inl hw))
    have hWg := Lib.hid hw
    clear hw hlb
    go_enter Try.func117, Try.ntmps117
    go_wp2_with fail
    refine (cS.out _).mono ?_
    rintro e w1 ⟨rfl, hb1⟩
    have hG1 := hG.out.kept hb1
    have hB1 := Lib.hid (hB0.trans (hb1.mono hB0.size))
    have hc1 := hG1.cell
    have hG1' := Lib.hid hG1
    clear hb1 hG1
    go_wp2_with fail
    refine (cB.out _ _).mono ?_
    rintro e w' ⟨rfl, rfl⟩
    go_wp2_with fail
    refine (cW.out _).mono ?_
    rw [hWg.out]
    rintro e w2 ⟨rfl, hb2⟩
    have hG2 := hG1'.out.kept hb2
    have hB2 := Lib.hid (hB1.out.trans (hb2.mono hB1.out.size))
    have hc2 := hG2.cell
    clear hb2 hc1 hG2 hG1'
    go_wp2_with fail
    refine (cR.out _).mono ?_
    rintro e w3 ⟨rfl, hb3⟩
    have hB3 := Lib.hid (hB2.out.trans (hb3.mono hB2.out.size))
    clear hb3 hc2
    go_wp2
    go_ret
    exact ⟨ret_int hR.out, hB3.out⟩

theorem behindSkip_any (A : Option Addr) (n c k : Nat) (os : List St) (s : St) (w : World) (h : Lst w w.heap.size A n os) (hn : n ≤ 12) (hk : k < n) (hs : os[k]? = some s) (hb : 0 ≤ s.b ∧ s.b ≤ 12) :
    Calls Try.prog 119 #[.slice A n c, .int .i64 k] w fun e w' => e = .returned (.int .i64 ((k + 1 + min s.b.toNat (n - (k + 1)) : Nat) : Int)) ∧ w = w' := by
  obtain ⟨g, off, s', rfl, hg, hs', hat⟩ := h.at_ hk
  obtain rfl : s' = s := Option.some.inj (hs'.symm.trans hs)
  obtain ⟨c0, c1, c2, c3, c4, c5, c6⟩ := hat.open_
  have hk0 : (0 : Int) ≤ (k : Int) := Int.natCast_nonneg _
  have hk1 : (k : Int) < (n : Int) := by omega
  clear h hs hs' hat
  by_cases hp : (n : Int) < k + 1 + s'.b
  · have hR := Lib.hid (show ((k + 1 + min s'.b.toNat (n - (k + 1)) : Nat) : Int) = (n : Int) by omega)
    go_enter Try.func119, Try.ntmps119
    go_wp2
    go_ret
    exact ⟨ret_int hR.out, rfl⟩
  · have hR := Lib.hid (show ((k + 1 + min s'.b.toNat (n - (k + 1)) : Nat) : Int) = (k : Int) + 1 + s'.b by omega)
    go_enter Try.func119, Try.ntmps119
    go_wp2
    go_ret
    exact ⟨ret_int hR.out, rfl⟩
end Go.Proofs.Ytjokiminlplbcaa
