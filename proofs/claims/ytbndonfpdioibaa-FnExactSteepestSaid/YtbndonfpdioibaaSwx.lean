/- The small functions of the program's sweep. Which variables are over: the program's liveAhead, behindSkip and livesOf. Which variables are over, ahead of each statement: the program's livesOf. -/
import Derived.Test.YtbndonfpdioibaaLiv
import Derived.Test.YtbndonfpdioibaaStZ
import Derived.Test.YtbndonfpdioibaaNm
import Derived.Deep.LoopGhost
import Derived.Test.YtbndonfpdioibaaUnP
import Derived.Deep.RegionHeld3
import Derived.Deep.RegionLaw
import Derived.StillTailTactics
import Derived.IntWalk
namespace Go.Proofs.Ytbndonfpdioibaa
set_option maxRecDepth 100000
set_option linter.unusedVariables false
open Go.RowKit

/-- A state with 0 for all variables that are not in a set. -/
def vo1 (L st : Int) (v : Nat) : Int := if tb L v = true then st else withValue st v 0
def voN (L st : Int) : Nat → Int
  | 0 => st
  | v + 1 => vo1 L (voN L st v) v
def vo (L st : Int) : Int := voN L st 4
theorem vo1_bd {L st : Int} {v : Nat} (hs : 0 ≤ st ∧ st ≤ 80) (hv : v ≤ 3) : 0 ≤ vo1 L st v ∧ vo1 L st v ≤ 80 := by
  unfold vo1
  split
  · exact hs
  · exact with_bd hs (by omega) (by decide)
theorem voN_bd {L st : Int} (hs : 0 ≤ st ∧ st ≤ 80) : ∀ (v : Nat), v ≤ 4 → 0 ≤ voN L st v ∧ voN L st v ≤ 80
  | 0, _ => hs
  | v + 1, h => vo1_bd (voN_bd hs v (by omega)) (by omega)
theorem vo_bd {L st : Int} (hs : 0 ≤ st ∧ st ≤ 80) : 0 ≤ vo L st ∧ vo L st ≤ 80 := voN_bd hs 4 (by decide)
theorem voN_agree {L st : Int} (hs : 0 ≤ st ∧ st ≤ 80) : ∀ (v : Nat), v ≤ 4 → agree L (voN L st v) st
  | 0, _ => fun _ _ _ => rfl
  | v + 1, h => by
    intro i hi ht
    have ih := voN_agree hs v (by omega) i hi ht
    have hb := voN_bd (L := L) hs v (by omega)
    rw [voN]
    unfold vo1
    split
    · exact ih
    · rename_i hv
      rw [(valueAt_with hb (show 0 ≤ (v : Int) ∧ (v : Int) ≤ 3 by omega) (by decide)).2 i (by omega) (by omega) (by
        intro e
        have : i = v := by omega
        subst this
        exact hv ht)]
      exact ih
theorem vo_agree {L st : Int} (hs : 0 ≤ st ∧ st ≤ 80) : agree L (vo L st) st := voN_agree hs 4 (by decide)

theorem fin16 {L : Int} (h : 0 ≤ L ∧ L ≤ 15) : ∃ n : Fin 16, L = (n.val : Int) := ⟨⟨L.toNat, by omega⟩, by simp; omega⟩
theorem and_all : ∀ (n : Fin 16) (k : Fin 4), (bits .and .i64 (n.val : Int) (bitN (k.val : Int)) == 0) = !tb (n.val : Int) k.val := by decide +kernel
theorem or_all : ∀ (n m : Fin 16), bits .or .i64 (n.val : Int) (m.val : Int) = bor (n.val : Int) (m.val : Int) := by decide +kernel
theorem diff_all : ∀ (n m : Fin 16), bits .andNot .i64 (n.val : Int) (m.val : Int) = bdf (n.val : Int) (m.val : Int) := by decide +kernel
theorem bits_and {L : Int} (h : 0 ≤ L ∧ L ≤ 15) {k : Nat} (hk : k ≤ 3) : (bits .and .i64 L (bitN (k : Int)) == 0) = !tb L k := by
  obtain ⟨n, rfl⟩ := fin16 h
  exact and_all n ⟨k, by omega⟩
theorem bits_or {a b : Int} (ha : 0 ≤ a ∧ a ≤ 15) (hb : 0 ≤ b ∧ b ≤ 15) : bits .or .i64 a b = bor a b := by
  obtain ⟨n, rfl⟩ := fin16 ha
  obtain ⟨m, rfl⟩ := fin16 hb
  exact or_all n m
theorem bits_diff {a b : Int} (ha : 0 ≤ a ∧ a ≤ 15) (hb : 0 ≤ b ∧ b ≤ 15) : bits .andNot .i64 a b = bdf a b := by
  obtain ⟨n, rfl⟩ := fin16 ha
  obtain ⟨m, rfl⟩ := fin16 hb
  exact diff_all n m

theorem WithValue_q (s v x : Int) (w : World) : Calls Try.prog 150 #[.int .i64 s, .int .i64 v, .int .i64 x] w fun e w' => e = .returned (.int .i64 (withValue s v x)) ∧ w = w' := WithValue_any s v x w

theorem valuesOnly_any (st L : Int) (w : World) (hs : 0 ≤ st ∧ st ≤ 80) (hL : 0 ≤ L ∧ L ≤ 15) :
    Calls Try.prog 171 #[.int .i64 st, .int .i64 L] w fun e w' => e = .returned (.int .i64 (vo L st)) ∧ w = w' := by
  go_enter Try.func171, Try.ntmps171
  go_wp2
  go_loop [0, 5] (fun s v => ∃ k : Nat, k ≤ 4 ∧ v = .int .i64 k ∧ s = .int .i64 (voN L st k)) (fun _ v => 4 - (intOf v).toNat)
  case atStart => exact ⟨0, by omega, rfl, rfl⟩
  case round =>
    obtain ⟨k, hk, rfl, rfl⟩ := hrel
    have hb := voN_bd (L := L) hs k hk
    by_cases hlt : k < 4
    · have hba := bits_and hL (show k ≤ 3 by omega)
      have hvn := Lib.hid (show voN L st (k + 1) = vo1 L (voN L st k) k from rfl)
      cases htb : tb L k
      · rw [htb] at hba
        have hvv := Lib.hid (show voN L st (k + 1) = withValue (voN L st k) k 0 by rw [hvn.out]; unfold vo1; rw [htb]; rfl)
        clear htb
        go_wp2_with (first | (go_at_call 190; refine (bitOf_any _ _).mono ?_; rintro e w' ⟨rfl, rfl⟩) | (go_at_call 150; refine (WithValue_any _ _ _ _).mono ?_; rintro e w' ⟨rfl, rfl⟩))
        go_round
        case rel => exact ⟨k + 1, by omega, by go_num, by rw [hvv.out]⟩
        case measure => simp [intOf]; omega
      · rw [htb] at hba
        have hvv := Lib.hid (show voN L st (k + 1) = voN L st k by rw [hvn.out]; unfold vo1; rw [htb]; rfl)
        clear htb
        go_wp2_with (first | (go_at_call 190; refine (bitOf_any _ _).mono ?_; rintro e w' ⟨rfl, rfl⟩) | (go_at_call 150; refine (WithValue_any _ _ _ _).mono ?_; rintro e w' ⟨rfl, rfl⟩))
        exact ⟨⟨k + 1, by omega, by go_num, by rw [hvv.out]⟩, by simp [intOf]; omega⟩
    · obtain rfl : k = 4 := by omega
      go_wp2
      go_ret
      exact ⟨rfl, rfl⟩
end Go.Proofs.Ytbndonfpdioibaa

namespace Go.Proofs.Ytbndonfpdioibaa
set_option maxRecDepth 100000
set_option linter.unusedVariables false
open Go.RowKit

def St.weighs (s : St) : Bool := s.k == 4 || s.k == 5
theorem isWeigh_any (s : St) (w : World) :
    Calls Try.prog 196 #[.agg #[.int .i64 s.k, .int .i64 s.a, .int .i64 s.b, .int .i64 s.c, .int .i64 s.u, .int .i64 s.v, .int .i64 s.x]] w fun e w' => e = .returned (.bool s.weighs) ∧ Below w.heap.size w w' := by
  have hB : Below w.heap.size w (w.alloc (.cells #[.int .i64 s.k, .int .i64 s.a, .int .i64 s.b, .int .i64 s.c, .int .i64 s.u, .int .i64 s.v, .int .i64 s.x] 78)) := (Below.refl _ _).alloc (Nat.le_refl _) _
  cases h4 : (s.k == 4)
  · cases h5 : (s.k == 5)
    · have hR := Lib.hid (show s.weighs = false by unfold St.weighs; rw [h4, h5]; rfl)
      go_enter Try.func196, Try.ntmps196
      go_wp2
      go_ret
      exact ⟨ret_bool hR.out, hB⟩
    · have hR := Lib.hid (show s.weighs = true by unfold St.weighs; rw [h4, h5]; rfl)
      go_enter Try.func196, Try.ntmps196
      go_wp2
      go_ret
      exact ⟨ret_bool hR.out, hB⟩
  · have hR := Lib.hid (show s.weighs = true by unfold St.weighs; rw [h4]; rfl)
    go_enter Try.func196, Try.ntmps196
    go_wp2
    go_ret
    exact ⟨ret_bool hR.out, hB⟩

theorem bitN_le (n : Int) : 0 ≤ bitN n ∧ bitN n ≤ 15 := by have := bitN_bd n; omega
theorem and_none : ∀ (n : Fin 16), (bits .and .i64 (n.val : Int) 0 == 0) = true := by decide +kernel
/-- Whether what is set is live behind. -/
def St.lives (s : St) (L : Int) : Bool := decide (0 ≤ s.sets) && tb L s.sets.toNat
theorem lives_bits {s : St} {L : Int} (hL : 0 ≤ L ∧ L ≤ 15) (hs : s.sets = -1 ∨ (0 ≤ s.sets ∧ s.sets ≤ 3)) : (bits .and .i64 L (bitN s.sets) == 0) = !s.lives L := by
  unfold St.lives
  rcases hs with h | ⟨h0, h3⟩
  · rw [h]
    obtain ⟨n, rfl⟩ := fin16 hL
    exact and_none n
  · have := bits_and hL (k := s.sets.toNat) (by omega)
    rw [show ((s.sets.toNat : Nat) : Int) = s.sets by omega] at this
    rw [this, decide_eq_true h0, Bool.true_and]
theorem sets_rng {s : St} (h : s.ok = true) : s.sets = -1 ∨ (0 ≤ s.sets ∧ s.sets ≤ 3) := by
  unfold St.sets
  obtain ⟨k, a, b, c, u, v, x⟩ := s
  have := ok_rng h
  split
  · right
    dsimp only
    omega
  · left; rfl
theorem ahead_yes {s : St} {L : Int} (h : s.weighs = true ∨ s.lives L = true) : s.ahead L = bor (bdf L (bitN s.sets)) s.reads := by
  unfold St.ahead
  rw [if_pos]
  rcases h with h | h
  · unfold St.weighs at h
    simp at h
    rcases h with h | h
    · exact .inl h
    · exact .inr (.inl h)
  · unfold St.lives at h
    simp at h
    exact .inr (.inr h)
theorem ahead_no {s : St} {L : Int} (h : s.weighs = false) (h2 : s.lives L = false) : s.ahead L = L := by
  unfold St.ahead
  rw [if_neg]
  unfold St.weighs at h
  unfold St.lives at h2
  simp at h h2
  rintro (e | e | ⟨e, e2⟩)
  · exact h.1 e
  · exact h.2 e
  · rw [h2 e] at e2
    cases e2

theorem bs6 {a w : World} {R : Prop} (h : Below a.heap.size a w ∧ R) : Below a.heap.size a w := h.1
theorem bd6 {a w : World} {R : Prop} (h : Below a.heap.size a w ∧ R) : Below a.heap.size a w.drew := h.1.drew
theorem ba6 {a w : World} {R : Prop} (h : Below a.heap.size a w ∧ R) (o : Obj) : Below a.heap.size a (w.alloc o) := h.1.alloc h.1.size o
theorem ba6d {a w : World} {R : Prop} (h : Below a.heap.size a w ∧ R) (o : Obj) : Below a.heap.size a (w.alloc o).drew := (h.1.alloc h.1.size o).drew
theorem bt6 {a w q : World} {R : Prop} (h : Below a.heap.size a w ∧ R) (hq : Below w.heap.size w q) : Below a.heap.size a q := h.1.trans (hq.mono h.1.size)
/-- Whether a statement that is no skip is needed. -/
def St.need (s : St) (L : Int) : Bool := s.weighs || s.lives L
theorem isNeeded_any (s : St) (L : Int) (w : World) (hok : s.ok = true) (hL : 0 ≤ L ∧ L ≤ 15) :
    Calls Try.prog 194 #[.agg #[.int .i64 s.k, .int .i64 s.a, .int .i64 s.b, .int .i64 s.c, .int .i64 s.u, .int .i64 s.v, .int .i64 s.x], .int .i64 L] w fun e w' => e = .returned (.bool (s.need L)) ∧ Below w.heap.size w w' := by
  have cS := Lib.hid (fun wx => StmtSets_any s.k s.a s.b s.c s.u s.v s.x wx)
  have cW := Lib.hid (fun wx => isWeigh_any s wx)
  have hlb : (bits .and .i64 L (bitN s.sets) != 0) = s.lives L := by rw [bne, lives_bits hL (sets_rng hok), Bool.not_not]
  have cB := Lib.hid (fun n wx => bitOf_any n wx)
  rw [show St.mk s.k s.a s.b s.c s.u s.v s.x = s from rfl] at cS
  have hG := Lib.hid (Has.new w 78 #[.int .i64 s.k, .int .i64 s.a, .int .i64 s.b, .int .i64 s.c, .int .i64 s.u, .int .i64 s.v, .int .i64 s.x])
  have hB0 := Lib.hid (show Below w.heap.size w (w.alloc (.cells #[.int .i64 s.k, .int .i64 s.a, .int .i64 s.b, .int .i64 s.c, .int .i64 s.u, .int .i64 s.v, .int .i64 s.x] 78)) from (Below.refl _ _).alloc (Nat.le_refl _) _)
  cases hw : s.weighs
  · have hWg := Lib.hid hw
    have hR := Lib.hid (show s.need L = s.lives L by unfold St.need; rw [hw]; rfl)
    clear hw
    go_enter Try.func194, Try.ntmps194
    go_wp2_with fail
    refine (cW.out _).mono ?_
    rw [hWg.out]
    rintro e w2 ⟨rfl, hb2⟩
    have hG2 := hG.out.kept hb2
    have hB2 := Lib.hid (hB0.out.trans (hb2.mono hB0.out.size))
    have hc2 := hG2.cell
    clear hb2 hG2 hG
    go_wp2_with fail
    refine (cS.out _).mono ?_
    rintro e w1 ⟨rfl, hb1⟩
    have hB1 := Lib.hid (hB2.out.trans (hb1.mono hB2.out.size))
    clear hb1 hc2
    go_wp2_with fail
    refine (cB.out _ _).mono ?_
    rintro e w' ⟨rfl, rfl⟩
    go_wp2_with fail
    go_ret
    exact ⟨ret_bool hR.out, hB1.out⟩
  · have hWg := Lib.hid hw
    have hR := Lib.hid (show s.need L = true by unfold St.need; rw [hw]; rfl)
    clear hw hlb
    go_enter Try.func194, Try.ntmps194
    go_wp2_with fail
    refine (cW.out _).mono ?_
    rw [hWg.out]
    rintro e w2 ⟨rfl, hb2⟩
    have hB2 := Lib.hid (hB0.out.trans (hb2.mono hB0.out.size))
    clear hb2 hG
    go_wp2_with fail
    go_ret
    exact ⟨ret_bool hR.out, hB2.out⟩

theorem liveAhead_any (s : St) (L : Int) (w : World) (hok : s.ok = true) (hL : 0 ≤ L ∧ L ≤ 15) :
    Calls Try.prog 188 #[.agg #[.int .i64 s.k, .int .i64 s.a, .int .i64 s.b, .int .i64 s.c, .int .i64 s.u, .int .i64 s.v, .int .i64 s.x], .int .i64 L] w fun e w' => e = .returned (.int .i64 (s.ahead L)) ∧ Below w.heap.size w w' := by
  have cS := Lib.hid (fun wx => StmtSets_any s.k s.a s.b s.c s.u s.v s.x wx)
  have cR := Lib.hid (fun wx => StmtReads_any s.k s.a s.b s.c s.u s.v s.x wx)
  have cN := Lib.hid (fun wx => isNeeded_any s L wx hok hL)
  have hd := bits_diff hL (bitN_le s.sets)
  have ho := bits_or (bdf_bd (b := bitN s.sets) hL.2) (reads_bd s)
  have cB := Lib.hid (fun n wx => bitOf_any n wx)
  rw [show St.mk s.k s.a s.b s.c s.u s.v s.x = s from rfl] at cS cR
  have hG := Lib.hid (Has.new w 78 #[.int .i64 s.k, .int .i64 s.a, .int .i64 s.b, .int .i64 s.c, .int .i64 s.u, .int .i64 s.v, .int .i64 s.x])
  have hB0 := Lib.hid (show Below w.heap.size w (w.alloc (.cells #[.int .i64 s.k, .int .i64 s.a, .int .i64 s.b, .int .i64 s.c, .int .i64 s.u, .int .i64 s.v, .int .i64 s.x] 78)) from (Below.refl _ _).alloc (Nat.le_refl _) _)
  cases hn : s.need L
  · have hR := Lib.hid (show s.ahead L = L from ahead_no (by unfold St.need at hn; rw [Bool.or_eq_false_iff] at hn; exact hn.1) (by unfold St.need at hn; rw [Bool.or_eq_false_iff] at hn; exact hn.2))
    have hN := Lib.hid hn
    clear hn hd ho
    go_enter Try.func188, Try.ntmps188
    go_wp2_with fail
    refine (cN.out _).mono ?_
    rw [hN.out]
    rintro e w1 ⟨rfl, hb1⟩
    have hB1 := Lib.hid (hB0.out.trans (hb1.mono hB0.out.size))
    clear hb1 hG
    go_wp2_with fail
    go_ret
    exact ⟨ret_int hR.out, hB1.out⟩
  · have hR := Lib.hid (show s.ahead L = bor (bdf L (bitN s.sets)) s.reads from ahead_yes (by unfold St.need at hn; rwa [Bool.or_eq_true] at hn))
    have hN := Lib.hid hn
    clear hn
    go_enter Try.func188, Try.ntmps188
    go_wp2_with fail
    refine (cN.out _).mono ?_
    rw [hN.out]
    rintro e w1 ⟨rfl, hb1⟩
    have hG1 := hG.out.kept hb1
    have hB1 := Lib.hid (hB0.out.trans (hb1.mono hB0.out.size))
    have hc1 := hG1.cell
    have hG1' := Lib.hid hG1
    clear hb1 hG1 hG
    go_wp2_with fail
    have hOk := Lib.hid (fun (wx : World) (hx : Below w1.heap.size w1 wx) => (show Below w1.heap.size w1 wx ∧ wx.cell? ⟨w.heap.size, 0, none⟩ = some (.int .i64 s.k) ∧ wx.cell? ⟨w.heap.size, 1, none⟩ = some (.int .i64 s.a) ∧ wx.cell? ⟨w.heap.size, 2, none⟩ = some (.int .i64 s.b) ∧ wx.cell? ⟨w.heap.size, 3, none⟩ = some (.int .i64 s.c) ∧ wx.cell? ⟨w.heap.size, 4, none⟩ = some (.int .i64 s.u) ∧ wx.cell? ⟨w.heap.size, 5, none⟩ = some (.int .i64 s.v) ∧ wx.cell? ⟨w.heap.size, 6, none⟩ = some (.int .i64 s.x) from ⟨hx, (hG1'.out.kept hx).cell 0, (hG1'.out.kept hx).cell 1, (hG1'.out.kept hx).cell 2, (hG1'.out.kept hx).cell 3, (hG1'.out.kept hx).cell 4, (hG1'.out.kept hx).cell 5, (hG1'.out.kept hx).cell 6⟩))
    go_region_held3 (fun wx => Below w1.heap.size w1 wx ∧ wx.cell? ⟨w.heap.size, 0, none⟩ = some (.int .i64 s.k) ∧ wx.cell? ⟨w.heap.size, 1, none⟩ = some (.int .i64 s.a) ∧ wx.cell? ⟨w.heap.size, 2, none⟩ = some (.int .i64 s.b) ∧ wx.cell? ⟨w.heap.size, 3, none⟩ = some (.int .i64 s.c) ∧ wx.cell? ⟨w.heap.size, 4, none⟩ = some (.int .i64 s.u) ∧ wx.cell? ⟨w.heap.size, 5, none⟩ = some (.int .i64 s.v) ∧ wx.cell? ⟨w.heap.size, 6, none⟩ = some (.int .i64 s.x)) (first | exact hOk.out _ ((Below.refl _ _).drew) | exact hOk.out _ (bt6 (by assumption) hbq) | exact hOk.out _ (bs6 (by assumption)) | exact hOk.out _ (bd6 (by assumption)) | go_keep) (first | (go_at_call 195; refine (cS.out _).mono ?_; rintro e q ⟨rfl, hbq⟩) | (go_at_call 189; refine (cR.out _).mono ?_; rintro e q ⟨rfl, hbq⟩) | (go_at_call 190; refine (cB.out _ _).mono ?_; rintro e q ⟨rfl, rfl⟩))
    rename_i hHeld
    have hB3 := Lib.hid (hB1.out.trans (hHeld.1.mono hB1.out.size))
    go_wp2
    go_ret
    exact ⟨ret_int hR.out, hB3.out⟩
theorem behindSkip_any (A : Option Addr) (n c k : Nat) (os : List St) (s : St) (w : World) (h : Lst w w.heap.size A n os) (hn : n ≤ 12) (hk : k < n) (hs : os[k]? = some s) (hb : 0 ≤ s.b ∧ s.b ≤ 12) :
    Calls Try.prog 184 #[.slice A n c, .int .i64 k] w fun e w' => e = .returned (.int .i64 ((k + 1 + min s.b.toNat (n - (k + 1)) : Nat) : Int)) ∧ w = w' := by
  obtain ⟨g, off, s', rfl, hg, hs', hat⟩ := h.at_ hk
  obtain rfl : s' = s := Option.some.inj (hs'.symm.trans hs)
  obtain ⟨c0, c1, c2, c3, c4, c5, c6⟩ := hat.open_
  have hk0 : (0 : Int) ≤ (k : Int) := Int.natCast_nonneg _
  have hk1 : (k : Int) < (n : Int) := by omega
  clear h hs hs' hat
  by_cases hp : (n : Int) < k + 1 + s'.b
  · have hR := Lib.hid (show ((k + 1 + min s'.b.toNat (n - (k + 1)) : Nat) : Int) = (n : Int) by omega)
    go_enter Try.func184, Try.ntmps184
    go_wp2
    go_ret
    exact ⟨ret_int hR.out, rfl⟩
  · have hR := Lib.hid (show ((k + 1 + min s'.b.toNat (n - (k + 1)) : Nat) : Int) = (k : Int) + 1 + s'.b by omega)
    go_enter Try.func184, Try.ntmps184
    go_wp2
    go_ret
    exact ⟨ret_int hR.out, rfl⟩
end Go.Proofs.Ytbndonfpdioibaa

namespace Go.Proofs.Ytbndonfpdioibaa
set_option maxRecDepth 100000
set_option linter.unusedVariables false
open Go.RowKit

theorem live_step {asked : Int} {os : List St} {j : Nat} {s : St} (h : os[j]? = some s) : (lives asked os).getD j 0 =
    if s.k = 6 then bor (s.ahead ((lives asked os).getD (j + 1) 0)) (bor s.reads ((lives asked os).getD (j + 1 + min s.b.toNat (os.length - (j + 1))) 0)) else s.ahead ((lives asked os).getD (j + 1) 0) := by
  have hl := (List.getElem?_eq_some_iff.1 h).1
  have hd := drop_cons' h
  have e1 : (lives asked os).getD j 0 = s.live (os.drop (j + 1)).length (lives asked (os.drop (j + 1))) := by
    rw [lives_getD asked os j (by omega), hd]; rfl
  have e2 : (lives asked (os.drop (j + 1))).headD 0 = (lives asked os).getD (j + 1) 0 := by
    rw [lives_getD asked os (j + 1) (by omega)]; rfl
  have e3 : ∀ i, i ≤ os.length - (j + 1) → (lives asked (os.drop (j + 1))).getD i 0 = (lives asked os).getD (j + 1 + i) 0 := fun i hi => by
    rw [lives_getD asked os (j + 1 + i) (by omega), lives_getD asked (os.drop (j + 1)) i (by rw [List.length_drop]; omega), List.drop_drop]
  rw [e1]
  unfold St.live
  rw [e2, List.length_drop]
  split
  · rw [e3 _ (by omega)]
  · rfl
theorem far1 {w : World} {p q : Addr} {x v : Value} (hp : q ≠ p) (h : w.cell? q = some v) : (w.setCell p x).cell? q = some v := by
  rw [World.cell?_setCell_other _ _ _ _ (Ne.symm hp)]; exact h

/-- The numbers from place k on lie in a row of cells. -/
def LFill (cs : Array Value) (lv : Nat → Int) (m k : Nat) : Prop := cs.size = m + 1 ∧ ∀ j, k ≤ j → j ≤ m → cs[j]? = some (.int .i64 (lv j))
theorem LFill.step {cs : Array Value} {lv : Nat → Int} {m k : Nat} {x : Int} (h : LFill cs lv m (k + 1)) (hk : k ≤ m) (hx : x = lv k) : LFill (cs.setIfInBounds k (.int .i64 x)) lv m k := by
  refine ⟨by simpa using h.1, fun j h1 h2 => ?_⟩
  by_cases hjk : j = k
  · subst hjk
    rw [Array.getElem?_setIfInBounds, if_pos rfl, if_pos (by rw [h.1]; omega), hx]
  · rw [Array.getElem?_setIfInBounds, if_neg (by omega)]
    exact h.2 j (by omega) h2

set_option maxHeartbeats 2000000 in
theorem livesOf_any (A : Option Addr) (m c : Nat) (os : List St) (asked : Int) (w : World) (h : Lst w w.heap.size A m os) (hm : m ≤ 12) (hok : os.all St.ok = true) (ha : 0 ≤ asked ∧ asked ≤ 15) :
    Calls Try.prog 170 #[.slice A m c, .int .i64 asked] w fun e w' => e = .returned (.slice (some ⟨w.heap.size, 0, none⟩) (m + 1) (m + 1)) ∧ w'.ownsRow w.heap.size 3 1 (.slice (some ⟨w.heap.size, 0, none⟩) (m + 1) (m + 1)) (m + 1) (ints (lives asked os)) ∧ Below w.heap.size w w' := by
  have hL := Lib.hid h.1
  have hH := Lib.hid h
  have hOk := Lib.hid hok
  have hlvb := Lib.hid (lives_bd ha os)
  have hstep := Lib.hid (fun (j : Nat) (s : St) (h : os[j]? = some s) => live_step (asked := asked) h)
  have hlast : (lives asked os).getD m 0 = asked := by
    rw [← hL.out, lives_getD asked os os.length (Nat.le_refl _), List.drop_length]; rfl
  have hall := Lib.hid (show ∀ j, j ≤ m → (lives asked os)[j]? = some ((lives asked os).getD j 0) from fun j hj => by
    rw [List.getD_eq_getElem?_getD, List.getElem?_eq_getElem (by rw [lives_length, hL.out]; omega)]; rfl)
  have hbd := Lib.hid (show ∀ j, j ≤ m → 0 ≤ (lives asked os).getD j 0 ∧ (lives asked os).getD j 0 ≤ 15 from fun j hj => hlvb.out _ (List.mem_of_getElem? (hall.out j hj)))
  have hfin := Lib.hid (show ∀ cs : Array Value, LFill cs (fun j => (lives asked os).getD j 0) m 0 → cs.toList = ints (lives asked os) from fun cs hc => by
    apply List.ext_getElem?
    intro x
    rw [Array.getElem?_toList]
    by_cases hx : x ≤ m
    · rw [hc.2 x (Nat.zero_le _) hx, ints_get (hall.out x hx)]
    · rw [Array.getElem?_eq_none (by rw [hc.1]; omega), List.getElem?_eq_none (by rw [ints_length, lives_length, hL.out]; omega)])
  have hlen := Lib.hid (lives_length asked os)
  generalize hlv : (fun j => (lives asked os).getD j 0) = lv at hfin
  have hlv' : ∀ j, (lives asked os).getD j 0 = lv j := fun j => by rw [← hlv]
  replace hstep := Lib.hid (show ∀ (j : Nat) (s : St), os[j]? = some s → lv j = if s.k = 6 then bor (s.ahead (lv (j + 1))) (bor s.reads (lv (j + 1 + min s.b.toNat (m - (j + 1))))) else s.ahead (lv (j + 1)) from fun j s hs => by
    have := hstep.out j s hs
    rwa [hlv', hlv', hlv', hL.out] at this)
  rw [hlv'] at hlast
  replace hbd := Lib.hid (show ∀ j, j ≤ m → 0 ≤ lv j ∧ lv j ≤ 15 from fun j hj => by rw [← hlv']; exact hbd.out j hj)
  clear hlv hlv' hall hlvb h hok
  obtain ⟨i0, hi0, hz0, hz1', hz2'⟩ := info_parts info_int
  have hmk : ∀ wx : World, (Instr.makeSlice 24 (.int .i64 ((m : Int) + 1)) (.int .i64 ((m : Int) + 1))).run Try.prog wx = .ok (.slice (some ⟨wx.heap.size, 0, none⟩) (m + 1) (m + 1)) (wx.alloc (.cells (madeCells (Value.int .i64 0).cells ((m + 1) * 1)) 3)) := by
    intro wx
    have hr := run_make (P := Try.prog) wx 24 3 i0 _ Try.underlying24 hi0 hz0 .i64 .i64 ((m : Int) + 1) ((m : Int) + 1) (by omega) (by omega) (by rw [hz2']; omega) (by omega)
    rw [hz1'] at hr
    rw [show ((m : Int) + 1).toNat = m + 1 by omega] at hr
    exact hr
  have hfill := Lib.hid (LFill.step (lv := lv) (m := m) (k := m) (cs := madeCells #[.int .i64 0] (m + 1)) (x := asked) ⟨size_madeCells _ _, fun j h1 h2 => by omega⟩ (Nat.le_refl _) hlast.symm)
  have hHas := Lib.hid (Has.new w 3 ((madeCells #[.int .i64 0] (m + 1)).setIfInBounds m (.int .i64 asked)))
  have hB0 : Below w.heap.size w (w.alloc (.cells ((madeCells #[.int .i64 0] (m + 1)).setIfInBounds m (.int .i64 asked)) 3)) := (Below.refl _ _).alloc (Nat.le_refl _) _
  obtain ⟨u0, e0⟩ := (Has.new w 3 (madeCells #[.int .i64 0] (m + 1))).size_cell (x := m) (by rw [size_madeCells]; omega)
  have hfz := (Has.new w 3 (madeCells #[.int .i64 0] (m + 1))).frozen m
  have hm1 : (0 : Int) ≤ (m : Int) := by omega
  have hm2 : (m : Int) < (m : Int) + 1 := by omega
  go_enter Try.func170, Try.ntmps170
  go_wp2_with fail
  clear e0 hfz hmk
  generalize hGG : w.heap.size = G at hHas hB0 ⊢
  have hGg := Lib.hid hGG
  have hH2 := Lib.hid (show Lst w G A m os from by rw [← hGG]; exact hH.out)
  clear hGG hH
  generalize w.alloc (.cells ((madeCells #[.int .i64 0] (m + 1)).setIfInBounds m (.int .i64 asked)) 3) = W0 at hHas hB0 ⊢
  go_loopg [6] m (fun gn v wr => ∃ (k : Nat) (l : Int) (cs : Array Value), k ≤ m ∧ k ≤ gn ∧ l = (k : Int) - 1 ∧ v = .int .i64 l ∧ Has wr G 3 cs ∧ LFill cs lv m k ∧ Below G w wr)
  case atStart => exact ⟨m, _, _, Nat.le_refl _, Nat.le_refl _, rfl, rfl, hHas.out, hfill.out, hB0⟩
  case round =>
    obtain ⟨k, l, cs, hk, hgk, hlk, rfl, hhas, hfl, hb⟩ := hrel
    by_cases hk0 : k = 0
    · subst hk0
      obtain rfl : l = -1 := by omega
      clear hlk
      have hF := Lib.hid (show wr.ownsRow G 3 1 (.slice (some ⟨G, 0, none⟩) (m + 1) (m + 1)) (m + 1) (ints (lives asked os)) from by
        have := IOwn.of_has (base := G) hhas (hfin.out cs hfl) (by rw [hlen.out, hL.out]) (Nat.le_refl _) (show m + 1 ≤ maxLen by unfold maxLen; omega)
        unfold IOwn at this
        rwa [hlen.out, hL.out] at this)
      have hb' := Lib.hid hb
      clear hhas hb
      go_wp2_with fail
      go_ret
      obtain rfl := hGg.out
      exact ⟨rfl, hF.out, hb'.out⟩
    · obtain ⟨j, rfl⟩ : ∃ j, k = j + 1 := ⟨k - 1, by omega⟩
      obtain rfl : l = (j : Int) := by omega
      clear hlk
      have hjm : j < m := by omega
      obtain ⟨gs, off, s, rfl, hgs, hs, hat⟩ := (hH2.out.below hb).at_ hjm
      have hs7 := hat.open_
      have hS := Lib.hid hs
      have hokS := List.all_eq_true.1 hOk.out s (List.mem_of_getElem? hs)
      have hl1 : wr.cell? ⟨G, j + 1, none⟩ = some (.int .i64 (lv (j + 1))) := (hhas.cell (j + 1)).trans (hfl.2 (j + 1) (Nat.le_refl _) (by omega))
      obtain ⟨u1, e1⟩ := hhas.size_cell (x := j) (by rw [hfl.1]; omega)
      have f1 := hhas.frozen j
      have hbj := hbd.out (j + 1) (by omega)
      have cA := Lib.hid (fun wx => liveAhead_any s (lv (j + 1)) wx hokS hbj)
      have hGr := hhas.lt
      have hne : gs ≠ G := by omega
      have hSk := Lib.hid (show ∀ wx : World, Below wr.heap.size wr wx → wx.cell? ⟨gs, off + j * 7, none⟩ = some (.int .i64 s.k) ∧ wx.cell? ⟨gs, off + j * 7 + 1, none⟩ = some (.int .i64 s.a) ∧ wx.cell? ⟨gs, off + j * 7 + 2, none⟩ = some (.int .i64 s.b) ∧ wx.cell? ⟨gs, off + j * 7 + 3, none⟩ = some (.int .i64 s.c) ∧ wx.cell? ⟨gs, off + j * 7 + 4, none⟩ = some (.int .i64 s.u) ∧ wx.cell? ⟨gs, off + j * 7 + 5, none⟩ = some (.int .i64 s.v) ∧ wx.cell? ⟨gs, off + j * 7 + 6, none⟩ = some (.int .i64 s.x) ∧ wx.cell? ⟨G, j + 1, none⟩ = some (.int .i64 (lv (j + 1))) from fun wx hw => by
        obtain ⟨c0, c1, c2, c3, c4, c5, c6⟩ := hs7
        exact ⟨(hw.cell (p := ⟨gs, _, none⟩) (by show gs < wr.heap.size; omega)).trans c0, (hw.cell (p := ⟨gs, _, none⟩) (by show gs < wr.heap.size; omega)).trans c1, (hw.cell (p := ⟨gs, _, none⟩) (by show gs < wr.heap.size; omega)).trans c2, (hw.cell (p := ⟨gs, _, none⟩) (by show gs < wr.heap.size; omega)).trans c3, (hw.cell (p := ⟨gs, _, none⟩) (by show gs < wr.heap.size; omega)).trans c4, (hw.cell (p := ⟨gs, _, none⟩) (by show gs < wr.heap.size; omega)).trans c5, (hw.cell (p := ⟨gs, _, none⟩) (by show gs < wr.heap.size; omega)).trans c6, (hw.cell (p := ⟨G, _, none⟩) hGr).trans hl1⟩)
      have hSt := Lib.hid (show ∀ (wx : World) (ux : Value), (wx.cell? ⟨gs, off + j * 7, none⟩ = some (.int .i64 s.k) ∧ wx.cell? ⟨gs, off + j * 7 + 1, none⟩ = some (.int .i64 s.a) ∧ wx.cell? ⟨gs, off + j * 7 + 2, none⟩ = some (.int .i64 s.b) ∧ wx.cell? ⟨gs, off + j * 7 + 3, none⟩ = some (.int .i64 s.c) ∧ wx.cell? ⟨gs, off + j * 7 + 4, none⟩ = some (.int .i64 s.u) ∧ wx.cell? ⟨gs, off + j * 7 + 5, none⟩ = some (.int .i64 s.v) ∧ wx.cell? ⟨gs, off + j * 7 + 6, none⟩ = some (.int .i64 s.x) ∧ wx.cell? ⟨G, j + 1, none⟩ = some (.int .i64 (lv (j + 1)))) → ((wx.setCell ⟨G, j, none⟩ ux).cell? ⟨gs, off + j * 7, none⟩ = some (.int .i64 s.k) ∧ (wx.setCell ⟨G, j, none⟩ ux).cell? ⟨gs, off + j * 7 + 1, none⟩ = some (.int .i64 s.a) ∧ (wx.setCell ⟨G, j, none⟩ ux).cell? ⟨gs, off + j * 7 + 2, none⟩ = some (.int .i64 s.b) ∧ (wx.setCell ⟨G, j, none⟩ ux).cell? ⟨gs, off + j * 7 + 3, none⟩ = some (.int .i64 s.c) ∧ (wx.setCell ⟨G, j, none⟩ ux).cell? ⟨gs, off + j * 7 + 4, none⟩ = some (.int .i64 s.u) ∧ (wx.setCell ⟨G, j, none⟩ ux).cell? ⟨gs, off + j * 7 + 5, none⟩ = some (.int .i64 s.v) ∧ (wx.setCell ⟨G, j, none⟩ ux).cell? ⟨gs, off + j * 7 + 6, none⟩ = some (.int .i64 s.x) ∧ (wx.setCell ⟨G, j, none⟩ ux).cell? ⟨G, j + 1, none⟩ = some (.int .i64 (lv (j + 1)))) from fun wx ux ⟨a0, a1, a2, a3, a4, a5, a6, a7⟩ => ⟨far1 (fun e => hne (by injection e)) a0, far1 (fun e => hne (by injection e)) a1, far1 (fun e => hne (by injection e)) a2, far1 (fun e => hne (by injection e)) a3, far1 (fun e => hne (by injection e)) a4, far1 (fun e => hne (by injection e)) a5, far1 (fun e => hne (by injection e)) a6, far1 (by simp) a7⟩)
      have hhas' := Lib.hid hhas
      have hb' := Lib.hid hb
      have hfl' := Lib.hid hfl
      have hj0 : (0 : Int) ≤ (j : Int) := by omega
      have hj1 : (j : Int) < (m : Int) := by omega
      have hj2 : (j : Int) < (m : Int) + 1 := by omega
      have hj3 : (0 : Int) ≤ (j : Int) + 1 := by omega
      have hj4 : (j : Int) + 1 < (m : Int) + 1 := by omega
      clear hs hat hs7 hl1 hb hhas hfl e1 f1
      go_wp2_with fail
      have hw1 : IntKind.i64.wrap ((j : Int) + 1) = (j : Int) + 1 := IntWalk.i64_in _ (by omega)
      have hw2 : ((j : Int) + 1).toNat = j + 1 := by omega
      go_region_held3 (fun wx => wx.cell? ⟨gs, off + j * 7, none⟩ = some (.int .i64 s.k) ∧ wx.cell? ⟨gs, off + j * 7 + 1, none⟩ = some (.int .i64 s.a) ∧ wx.cell? ⟨gs, off + j * 7 + 2, none⟩ = some (.int .i64 s.b) ∧ wx.cell? ⟨gs, off + j * 7 + 3, none⟩ = some (.int .i64 s.c) ∧ wx.cell? ⟨gs, off + j * 7 + 4, none⟩ = some (.int .i64 s.u) ∧ wx.cell? ⟨gs, off + j * 7 + 5, none⟩ = some (.int .i64 s.v) ∧ wx.cell? ⟨gs, off + j * 7 + 6, none⟩ = some (.int .i64 s.x) ∧ wx.cell? ⟨G, j + 1, none⟩ = some (.int .i64 (lv (j + 1)))) (first | exact hSk.out _ (Below.refl _ _) | exact hSk.out _ ((Below.refl _ _).drew) | exact hSk.out _ (((Below.refl _ _).drew).trans (by assumption)) | exact hSt.out _ _ (by assumption) | go_keep) ((go_at_call 188; refine (cA.out _).mono ?_; rintro e w3 ⟨rfl, hb3⟩; have hfg3 := (Has.kept (by exact hhas'.out) hb3).frozen; obtain ⟨u1, e1⟩ := (Has.kept (by exact hhas'.out) hb3).size_cell (x := j) (by rw [hfl'.out.1]; omega)))
      clear hw1 hw2
      have hb3' : Below wr.heap.size wr w3 := ((Below.refl _ _).drew).trans hb3
      have hH4 := (hhas'.out.kept hb3').put j (.int .i64 (s.ahead (lv (j + 1))))
      have hB4 := (hb'.out.trans (hb3'.mono (Nat.le_of_lt hGr))).setCell (p := ⟨G, j, none⟩) (Nat.le_refl _) (.int .i64 (s.ahead (lv (j + 1))))
      clear hb3 hb3' e1 hfg3
      generalize w3.setCell ⟨G, j, none⟩ (.int .i64 (s.ahead (lv (j + 1)))) = W4 at hH4 hB4 ⊢
      have hL4 := Lib.hid (hH2.out.below hB4)
      have hs4 : StAt W4 gs (off + j * 7) s := by
        obtain ⟨gs', off', s', e, _, hs', hat⟩ := hL4.out.at_ hjm
        injection e with e
        injection e with e1 e2 _
        subst e1 e2
        rwa [Option.some.inj (hS.out.symm.trans hs')]
      obtain ⟨c0, c1, c2, c3, c4, c5, c6⟩ := hs4.open_
      have hst := Lib.hid (hstep.out j s hS.out)
      have hH4' := Lib.hid hH4
      have hB4' := Lib.hid hB4
      clear hB4
      by_cases h6 : s.k = 6
      · have h6b : (s.k == 6) = true := by simpa using h6
        have hlj := Lib.hid (show lv j = bor (s.ahead (lv (j + 1))) (bor s.reads (lv (j + 1 + min s.b.toNat (m - (j + 1))))) by rw [hst.out, if_pos h6])
        have hrg := ok_rng hokS
        have hbb : 0 ≤ s.b ∧ s.b ≤ 12 := by omega
        clear hrg
        obtain ⟨to, hto⟩ : ∃ to, to = j + 1 + min s.b.toNat (m - (j + 1)) := ⟨_, rfl⟩
        have hto1 : j < to ∧ to ≤ m := by omega
        have hTo := Lib.hid hto
        rw [← hto] at hlj
        clear hto h6
        have hbt := hbd.out to hto1.2
        have hrb := reads_bd s
        have hab := ahead_bd (s := s) hbj
        have ho1 := bits_or hrb hbt
        have ho2 := bits_or hab (bor_bd hrb.2 hbt.2)
        have hct : W4.cell? ⟨G, to, none⟩ = some (.int .i64 (lv to)) := by
          rw [hH4.cell to, Array.getElem?_setIfInBounds, if_neg (by omega)]
          exact hfl'.out.2 to (by omega) hto1.2
        have hcj : W4.cell? ⟨G, j, none⟩ = some (.int .i64 (s.ahead (lv (j + 1)))) := by
          rw [hH4.cell j, Array.getElem?_setIfInBounds, if_pos rfl, if_pos (by rw [hfl'.out.1]; omega)]
        have hG4 := hH4.lt
        have hcjh := Lib.hid hcj
        have hcth := Lib.hid hct
        have hLx := Lib.hid (show ∀ wx : World, Below W4.heap.size W4 wx → Lst wx wx.heap.size (some ⟨gs, off, none⟩) m os from fun wx hw => (hL4.out.below (hw.mono (Nat.le_of_lt hG4))).more (Nat.le_trans (Nat.le_of_lt hG4) hw.size))
        have cR := Lib.hid (fun wx => StmtReads_any s.k s.a s.b s.c s.u s.v s.x wx)
        rw [show St.mk s.k s.a s.b s.c s.u s.v s.x = s from rfl] at cR
        have cK := Lib.hid (fun wx hx => behindSkip_any (some ⟨gs, off, none⟩) m c j os s wx hx hm hjm hS.out hbb)
        rw [← hTo.out] at cK
        have ht0 : (0 : Int) ≤ (to : Int) := by omega
        have ht1 : (to : Int) < (m : Int) + 1 := by omega
        have ht2 : to < m + 1 := by omega
        have hj5 : j < m + 1 := by omega
        have f4 := hH4'.out.frozen j
        clear hH4 hs4
        go_wp2_with fail
        go_region_law (first | (go_simp; go_at_call 189; refine (cR.out _).mono ?_; rintro e w5 ⟨rfl, hb5⟩; have hfg5 := (Has.kept (by exact hH4'.out) hb5).frozen j; have cj5 := (hb5.cell (p := ⟨G, j, none⟩) hG4).trans hcjh.out; have ct5 := (hb5.cell (p := ⟨G, to, none⟩) hG4).trans hcth.out) | (go_simp; go_at_call 184; refine (cK.out _ (by first | exact hLx.out _ ((Below.refl _ _).drew) | exact hLx.out _ (((Below.refl _ _).drew).trans (by assumption)))).mono ?_; rintro e w6 ⟨rfl, rfl⟩))
        all_goals
          have hb5' : Below W4.heap.size W4 w5 := ((Below.refl _ _).drew).trans hb5
          have hH6 := Lib.hid ((hH4'.out.kept hb5').put j (.int .i64 (bor (s.ahead (lv (j + 1))) (bor s.reads (lv to)))))
          have hB6 := Lib.hid ((hB4'.out.trans (hb5'.mono (Nat.le_of_lt hG4))).setCell (p := ⟨G, j, none⟩) (Nat.le_refl _) (.int .i64 (bor (s.ahead (lv (j + 1))) (bor s.reads (lv to)))))
          clear hb5 hb5' hfg5 cj5 ct5 hcj hct f4 c0 c1 c2 c3 c4 c5 c6
          go_wp2
          go_roundg j
          case measure => omega
          case rel =>
            refine ⟨j, _, _, by omega, Nat.le_refl _, rfl, rfl, hH6.out, ?_, hB6.out⟩
            refine ⟨by simpa using hfl'.out.1, fun i h1 h2 => ?_⟩
            by_cases hij : i = j
            · subst hij
              rw [Array.getElem?_setIfInBounds, if_pos rfl, if_pos (by simp; rw [hfl'.out.1]; omega), hlj.out]
            · rw [Array.getElem?_setIfInBounds, if_neg (by omega), Array.getElem?_setIfInBounds, if_neg (by omega)]
              exact hfl'.out.2 i (by omega) h2
      · have h6b : (s.k == 6) = false := by simpa using h6
        have hlj := Lib.hid (show s.ahead (lv (j + 1)) = lv j by rw [hst.out, if_neg h6])
        clear h6 hH4 hs4
        go_wp2_with fail
        go_roundg j
        case measure => omega
        case rel => exact ⟨j, _, _, by omega, Nat.le_refl _, rfl, rfl, hH4'.out, hfl'.out.step (by omega) hlj.out, hB4'.out⟩
end Go.Proofs.Ytbndonfpdioibaa
