/- Whether a change fits: the model's l6Ok, change 2. -/
import Derived.Test.YtkggejmamhakaaaQ0
namespace Go.Proofs.Ytkggejmamhakaaa
set_option maxRecDepth 100000
set_option linter.unusedVariables false
open Go.RowKit

set_option maxHeartbeats 2000000 in
theorem l6Ok_2t (A : Option Addr) (n cap k : Nat) (ps : List St) (a b : St) (w : World) (h : Lst w w.heap.size A n ps) (hn : n ≤ 1048576) (ha : ps[k]? = some a) (hoa : a.ok = true ∧ a.k < 6) (s0 : 0 ≤ a.sets) (s1' : b.sets = a.sets) (hb : ps[k + 1]? = some b) (hobb : b.ok = true ∧ b.k < 6) :
    Calls Try.prog 60 #[.slice A n cap, .int .i64 2, .int .i64 (k : Int)] w fun e w' => e = .returned (.bool (fits 2 a (some b))) ∧ Below w.heap.size w w' := by
  have hk : k < n := by have := (List.getElem?_eq_some_iff.1 ha).1; have := h.1; omega
  obtain ⟨g, off, s0, rfl, hg, hs0, hat⟩ := h.at_ hk
  obtain rfl : a = s0 := by rw [ha] at hs0; injection hs0
  obtain ⟨c0, c1, c2, c3, c4, c5, c6⟩ := hat.open_
  have hk0 : (0 : Int) ≤ (k : Int) := by omega
  have hk1 : (k : Int) < (n : Int) := by omega
  have hwa := ok_wsm hoa.1 hoa.2
  have h1 := Has.new w 63 #[.int .i64 a.k, .int .i64 a.a, .int .i64 a.b, .int .i64 a.c, .int .i64 a.u, .int .i64 a.v, .int .i64 a.x]
  have hh1 := Lib.hid h1
  have hB := Lib.hid (show Below w.heap.size w (w.alloc (.cells #[.int .i64 a.k, .int .i64 a.a, .int .i64 a.b, .int .i64 a.c, .int .i64 a.u, .int .i64 a.v, .int .i64 a.x] 63)) from (Below.refl _ _).alloc (Nat.le_refl _) _)
  have hk' : k + 1 < n := by have := (List.getElem?_eq_some_iff.1 hb).1; have := h.1; omega
  obtain ⟨g', off', s1, e, _, hs1, hat1⟩ := h.at_ hk'
  obtain ⟨rfl, rfl⟩ : g = g' ∧ off = off' := by injection e with e; injection e with e1 e2; exact ⟨e1, e2⟩
  obtain rfl : b = s1 := by rw [hb] at hs1; injection hs1
  obtain ⟨d0, d1, d2, d3, d4, d5, d6⟩ := hat1.open_
  have hwb := ok_wsm hobb.1 hobb.2
  have ge : ((k : Int) + 1 == (n : Int)) = false := by simp; omega
  have hk2 : (k : Int) + 1 < (n : Int) := by omega
  have h1' := h1.alloc (.cells #[.int .i64 b.k, .int .i64 b.a, .int .i64 b.b, .int .i64 b.c, .int .i64 b.u, .int .i64 b.v, .int .i64 b.x] 63)
  have h2 := (Has.newAt (w := w.alloc (.cells #[.int .i64 a.k, .int .i64 a.a, .int .i64 a.b, .int .i64 a.c, .int .i64 a.u, .int .i64 a.v, .int .i64 a.x] 63)) (n := w.heap.size + 1) (t := 63) (cs := #[.int .i64 b.k, .int .i64 b.a, .int .i64 b.b, .int .i64 b.c, .int .i64 b.u, .int .i64 b.v, .int .i64 b.x]) (by simp))
  have hB2 := Lib.hid (show Below w.heap.size w ((w.alloc (.cells #[.int .i64 a.k, .int .i64 a.a, .int .i64 a.b, .int .i64 a.c, .int .i64 a.u, .int .i64 a.v, .int .i64 a.x] 63)).alloc (.cells #[.int .i64 b.k, .int .i64 b.a, .int .i64 b.b, .int .i64 b.c, .int .i64 b.u, .int .i64 b.v, .int .i64 b.x] 63)) from ((Below.refl _ _).alloc (Nat.le_refl _) _).alloc (by simp) _)
  have cA := Lib.hid (fun wx => l6Apart_any a b wx hoa.1 hobb.1)
  have cPr := Lib.hid (fun wx => l6Product_any a b wx hwa hwb)
  have r0 := Lib.hid (fits0 (a := a) (b := b) hoa.2 hobb.2)
  have r1 := Lib.hid (fits1 (a := a) (b := b))
  have r2 := Lib.hid (fits2 hoa.1 hoa.2 hobb.1 hobb.2)
  have r4 := Lib.hid (fits4 hoa.1 hoa.2 hobb.1 hobb.2)
  have hbA := a_bd hoa.1 hoa.2
  have hbS := sets_bd a hoa.1
  have hbR := reads_bd b
  have e1 := h1'.cell
  have e2 := h2.cell
  have hz2 : ((w.alloc (.cells #[.int .i64 a.k, .int .i64 a.a, .int .i64 a.b, .int .i64 a.c, .int .i64 a.u, .int .i64 a.v, .int .i64 a.x] 63)).alloc (.cells #[.int .i64 b.k, .int .i64 b.a, .int .i64 b.b, .int .i64 b.c, .int .i64 b.u, .int .i64 b.v, .int .i64 b.x] 63)).heap.size = w.heap.size + 2 := by simp
  have hzz := Lib.hid hz2
  have hh2 := Lib.hid h2
  have hh1' := Lib.hid h1'
  clear h hat hs0 ha hb hs1 hat1 e h1 h1' h2 hz2 hwa hwb hobb hoa
  have cSa : Hid (∀ wx : World, Calls Try.prog 93 #[.agg #[.int .i64 a.k, .int .i64 a.a, .int .i64 a.b, .int .i64 a.c, .int .i64 a.u, .int .i64 a.v, .int .i64 a.x]] wx fun e w' => e = .returned (.int .i64 a.sets) ∧ Below wx.heap.size wx w') := Lib.hid (fun wx => specStmtSets_any a.k a.a a.b a.c a.u a.v a.x wx)
  have cSb : Hid (∀ wx : World, Calls Try.prog 93 #[.agg #[.int .i64 b.k, .int .i64 b.a, .int .i64 b.b, .int .i64 b.c, .int .i64 b.u, .int .i64 b.v, .int .i64 b.x]] wx fun e w' => e = .returned (.int .i64 b.sets) ∧ Below wx.heap.size wx w') := Lib.hid (fun wx => specStmtSets_any b.k b.a b.b b.c b.u b.v b.x wx)
  have cRb : Hid (∀ wx : World, Calls Try.prog 94 #[.agg #[.int .i64 b.k, .int .i64 b.a, .int .i64 b.b, .int .i64 b.c, .int .i64 b.u, .int .i64 b.v, .int .i64 b.x]] wx fun e w' => e = .returned (.int .i64 b.reads) ∧ Below wx.heap.size wx w') := Lib.hid (fun wx => specStmtReads_any b.k b.a b.b b.c b.u b.v b.x wx)
  clear r0 r1 cA cPr
  have hS0 := hbS.1
  have hS1 := hbS.2
  have hR0 := hbR.1
  have hR1 := hbR.2
  clear hbS hbR
  have hX : fits 2 a (some b) = (decide (0 ≤ a.sets) && (b.sets == a.sets) && ((b.reads / 2 ^ a.sets.toNat).tmod 2 == 0)) := r2.out
  have s1 : (b.sets == a.sets) = true := by simpa using s1'
  clear r2 r4 s1'
  generalize a.sets = sa at *
  generalize b.sets = sb at *
  generalize b.reads = rb at *
  have hR := Lib.hid (show fits 2 a (some b) = ((rb / 2 ^ sa.toNat).tmod 2 == 0) by rw [hX, s1, decide_eq_true s0, Bool.and_self, Bool.true_and])
  clear hX
  go_enter Try.func60, Try.ntmps60
  go_wp2_with fail
  generalize ((w.alloc (.cells #[.int .i64 a.k, .int .i64 a.a, .int .i64 a.b, .int .i64 a.c, .int .i64 a.u, .int .i64 a.v, .int .i64 a.x] 63)).alloc (.cells #[.int .i64 b.k, .int .i64 b.a, .int .i64 b.b, .int .i64 b.c, .int .i64 b.u, .int .i64 b.v, .int .i64 b.x] 63)) = W0 at hh1' hh2 hB2 hzz e1 e2 ⊢
  have hOk := Lib.hid (fun (wx : World) (hx : Below W0.heap.size W0 wx) => two_ofm hh1'.out hh2.out hx)
  go_region_held3 (fun wx => Below W0.heap.size W0 wx ∧ wx.cell? ⟨w.heap.size, 0, none⟩ = some (.int .i64 a.k) ∧ wx.cell? ⟨w.heap.size, 1, none⟩ = some (.int .i64 a.a) ∧ wx.cell? ⟨w.heap.size, 2, none⟩ = some (.int .i64 a.b) ∧ wx.cell? ⟨w.heap.size, 3, none⟩ = some (.int .i64 a.c) ∧ wx.cell? ⟨w.heap.size, 4, none⟩ = some (.int .i64 a.u) ∧ wx.cell? ⟨w.heap.size, 5, none⟩ = some (.int .i64 a.v) ∧ wx.cell? ⟨w.heap.size, 6, none⟩ = some (.int .i64 a.x) ∧ wx.cell? ⟨w.heap.size + 1, 0, none⟩ = some (.int .i64 b.k) ∧ wx.cell? ⟨w.heap.size + 1, 1, none⟩ = some (.int .i64 b.a) ∧ wx.cell? ⟨w.heap.size + 1, 2, none⟩ = some (.int .i64 b.b) ∧ wx.cell? ⟨w.heap.size + 1, 3, none⟩ = some (.int .i64 b.c) ∧ wx.cell? ⟨w.heap.size + 1, 4, none⟩ = some (.int .i64 b.u) ∧ wx.cell? ⟨w.heap.size + 1, 5, none⟩ = some (.int .i64 b.v) ∧ wx.cell? ⟨w.heap.size + 1, 6, none⟩ = some (.int .i64 b.x)) (first | exact hOk.out _ ((Below.refl _ _).drew) | exact hOk.out _ (bt6 (by assumption) hbq) | exact hOk.out _ (bs6 (by assumption)) | exact hOk.out _ (bd6 (by assumption)) | go_keep) (first | (go_at_call 93; first | (with_reducible refine (cSa.out _).mono ?_; rintro e q ⟨rfl, hbq⟩) | (with_reducible refine (cSb.out _).mono ?_; rintro e q ⟨rfl, hbq⟩)) | (go_at_call 94; with_reducible refine (cRb.out _).mono ?_; rintro e q ⟨rfl, hbq⟩))
  rename_i hHeld
  have hB5 := Lib.hid (hB2.out.trans (hHeld.1.mono (by have := hzz.out; omega)))
  clear hHeld e1 e2 hOk
  go_wp2_with fail
  go_ret
  exact ⟨ret_bool hR.out, hB5.out⟩
end Go.Proofs.Ytkggejmamhakaaa
