/- The model's steps of a run with a great weight (by program, from the texts of the narrow ones). -/
import Derived.Test.YtjokiminlplbcaaTrt
namespace Go.Proofs.Ytjokiminlplbcaa
set_option maxRecDepth 100000
set_option linter.unusedVariables false
open Go.RowKit

theorem l2OwV_0n (a b c u v y p st wt : Int) (R : Nat) (w : World) (h : Has w R 78 #[.int .i64 p, .int .i64 st, .int .i64 wt]) (hs : 0 ≤ st ∧ st ≤ 80) (hp : 0 ≤ p ∧ p ≤ 100) (hw : 0 ≤ wt ∧ wt ≤ 1000000000000000000) (ha : 0 ≤ a ∧ a ≤ 3) (hb : b = -1) (hc0 : 0 ≤ c ∧ c ≤ 2) :
    Calls Try.prog 71 #[.pointer (some ⟨R, 0, none⟩), .agg #[.int .i64 0, .int .i64 a, .int .i64 b, .int .i64 c, .int .i64 u, .int .i64 v, .int .i64 y]] w (Owned w R (p + 1) (withValue st a c) wt) := by
  subst hb
  have cA := Lib.hid (fun wx => l1At_v st a wx hs ha)
  have hc := h.cell
  have hf := h.frozen
  have hl := h.lt
  go_enter Try.func71, Try.ntmps71
  go_wp2_with fail
  go_quiet ((go_at_call 99; exact Calls.quiet_of_same (cA.out _)))
  go_wp2_with fail
  have hRW := (h.alloc (.cells #[.int .i64 0, .int .i64 a, .int .i64 (-1), .int .i64 c, .int .i64 u, .int .i64 v, .int .i64 y] 83)).drewN nq
  have hSW := (Has.new w 83 #[.int .i64 0, .int .i64 a, .int .i64 (-1), .int .i64 c, .int .i64 u, .int .i64 v, .int .i64 y]).drewN nq
  have hCW : Chg w ((w.alloc (.cells #[.int .i64 0, .int .i64 a, .int .i64 (-1), .int .i64 c, .int .i64 u, .int .i64 v, .int .i64 y] 83)).drewN nq) R := ((Chg.refl w R).alloc _).drewN nq
  have hgt : R ≠ w.heap.size := by omega
  generalize World.drewN (w.alloc (.cells #[.int .i64 0, .int .i64 a, .int .i64 (-1), .int .i64 c, .int .i64 u, .int .i64 v, .int .i64 y] 83)) nq = W2 at hRW hSW hCW ⊢
  generalize w.heap.size = G at hSW hgt ⊢
  clear hc hf
  have hc := hRW.cell
  have hf := hRW.frozen
  have hs2 := hSW.cell
  go_still_tail 11, (by kernel_rfl)
  still_call (l1With_v st a c W2.drew hs ha hc0)
  repeat still_step
  refine wpStill_nil ?_
  change wpList _ _ _ _ _ W2.drew
  go_wp2
  go_end0
  have hE := ((hRW.put 1 (.int .i64 (withValue st a c))).put 0 (.int .i64 (p + 1)))
  exact ⟨rfl, hE, (((hCW.put 1 (.int .i64 (withValue st a c))).put 0 (.int .i64 (p + 1))).drewN 1)⟩

theorem l2OwV_0b (a b c u v y p st wt : Int) (R : Nat) (w : World) (h : Has w R 78 #[.int .i64 p, .int .i64 st, .int .i64 wt]) (hs : 0 ≤ st ∧ st ≤ 80) (hp : 0 ≤ p ∧ p ≤ 100) (hw : 0 ≤ wt ∧ wt ≤ 1000000000000000000) (ha : 0 ≤ a ∧ a ≤ 3) (hb : 0 ≤ b ∧ b ≤ 3) (hc0 : 0 ≤ c ∧ c ≤ 2) :
    Calls Try.prog 71 #[.pointer (some ⟨R, 0, none⟩), .agg #[.int .i64 0, .int .i64 a, .int .i64 b, .int .i64 c, .int .i64 u, .int .i64 v, .int .i64 y]] w (Owned w R (p + 1) (withValue st a ((c + valueAt st b) % 3)) wt) := by
  have cA := Lib.hid (fun wx => l1At_v st a wx hs ha)
  have cB := Lib.hid (fun wx => l1At_v st b wx hs hb)
  have hmb := valueAt_in hs hb
  have hsum : IntKind.i64.wrap (c + valueAt st b) = c + valueAt st b := by rw [IntKind.wrap_i64]; omega
  have hmod : (c + valueAt st b).tmod 3 = (c + valueAt st b) % 3 := Int.tmod_eq_emod_of_nonneg (by omega)
  have hx : 0 ≤ (c + valueAt st b) % 3 ∧ (c + valueAt st b) % 3 ≤ 2 := by omega
  have hc := h.cell
  have hf := h.frozen
  have hl := h.lt
  go_enter Try.func71, Try.ntmps71
  go_wp2_with fail
  go_quiet ((go_at_call 99; exact Calls.quiet_of_same (cA.out _)))
  go_wp2_with fail
  have hRW := (h.alloc (.cells #[.int .i64 0, .int .i64 a, .int .i64 b, .int .i64 c, .int .i64 u, .int .i64 v, .int .i64 y] 83)).drewN nq
  have hSW := (Has.new w 83 #[.int .i64 0, .int .i64 a, .int .i64 b, .int .i64 c, .int .i64 u, .int .i64 v, .int .i64 y]).drewN nq
  have hCW : Chg w ((w.alloc (.cells #[.int .i64 0, .int .i64 a, .int .i64 b, .int .i64 c, .int .i64 u, .int .i64 v, .int .i64 y] 83)).drewN nq) R := ((Chg.refl w R).alloc _).drewN nq
  have hgt : R ≠ w.heap.size := by omega
  generalize World.drewN (w.alloc (.cells #[.int .i64 0, .int .i64 a, .int .i64 b, .int .i64 c, .int .i64 u, .int .i64 v, .int .i64 y] 83)) nq = W2 at hRW hSW hCW ⊢
  generalize w.heap.size = G at hSW hgt ⊢
  clear hc hf
  have hc := hRW.cell
  have hf := hRW.frozen
  have hs2 := hSW.cell
  go_quiet ((go_at_call 99; exact Calls.quiet_of_same (cB.out _)))
  go_wp2_with fail
  replace hRW := hRW.drewN nq
  replace hSW := hSW.drewN nq
  replace hCW := hCW.drewN nq
  generalize W2.drewN nq = W3 at hRW hSW hCW ⊢
  clear hc hf hs2
  have hc := hRW.cell
  have hf := hRW.frozen
  have hs2 := hSW.cell
  go_still_tail 11, (by kernel_rfl)
  still_call (l1With_v st a ((c + valueAt st b) % 3) W3.drew hs ha hx)
  repeat still_step
  refine wpStill_nil ?_
  change wpList _ _ _ _ _ W3.drew
  go_wp2
  go_end0
  have hE := ((hRW.put 1 (.int .i64 (withValue st a ((c + valueAt st b) % 3)))).put 0 (.int .i64 (p + 1)))
  exact ⟨rfl, hE, (((hCW.put 1 (.int .i64 (withValue st a ((c + valueAt st b) % 3)))).put 0 (.int .i64 (p + 1))).drewN 1)⟩

theorem l2OwV_1 (a b c u v y p st wt : Int) (R : Nat) (w : World) (h : Has w R 78 #[.int .i64 p, .int .i64 st, .int .i64 wt]) (hs : 0 ≤ st ∧ st ≤ 80) (hp : 0 ≤ p ∧ p ≤ 100) (hw : 0 ≤ wt ∧ wt ≤ 1000000000000000000) (ha : 0 ≤ a ∧ a ≤ 3) (hb : 0 ≤ b ∧ b ≤ 3) :
    Calls Try.prog 71 #[.pointer (some ⟨R, 0, none⟩), .agg #[.int .i64 1, .int .i64 a, .int .i64 b, .int .i64 c, .int .i64 u, .int .i64 v, .int .i64 y]] w (Owned w R (p + 1) (withValue st a ((valueAt st a + valueAt st b) % 3)) wt) := by
  have cA := Lib.hid (fun wx => l1At_v st a wx hs ha)
  have hma := valueAt_in hs ha
  have hmb := valueAt_in hs hb
  have hsum : IntKind.i64.wrap (valueAt st a + valueAt st b) = valueAt st a + valueAt st b := by rw [IntKind.wrap_i64]; omega
  have hmod : (valueAt st a + valueAt st b).tmod 3 = (valueAt st a + valueAt st b) % 3 := Int.tmod_eq_emod_of_nonneg (by omega)
  have hx : 0 ≤ (valueAt st a + valueAt st b) % 3 ∧ (valueAt st a + valueAt st b) % 3 ≤ 2 := by omega
  have hc := h.cell
  have hf := h.frozen
  have hl := h.lt
  go_enter Try.func71, Try.ntmps71
  go_wp2_with fail
  go_quiet ((go_at_call 99; exact Calls.quiet_of_same (cA.out _)))
  go_wp2_with fail
  have hRW := (h.alloc (.cells #[.int .i64 1, .int .i64 a, .int .i64 b, .int .i64 c, .int .i64 u, .int .i64 v, .int .i64 y] 83)).drewN nq
  have hSW := (Has.new w 83 #[.int .i64 1, .int .i64 a, .int .i64 b, .int .i64 c, .int .i64 u, .int .i64 v, .int .i64 y]).drewN nq
  have hCW : Chg w ((w.alloc (.cells #[.int .i64 1, .int .i64 a, .int .i64 b, .int .i64 c, .int .i64 u, .int .i64 v, .int .i64 y] 83)).drewN nq) R := ((Chg.refl w R).alloc _).drewN nq
  have hgt : R ≠ w.heap.size := by omega
  generalize World.drewN (w.alloc (.cells #[.int .i64 1, .int .i64 a, .int .i64 b, .int .i64 c, .int .i64 u, .int .i64 v, .int .i64 y] 83)) nq = W2 at hRW hSW hCW ⊢
  generalize w.heap.size = G at hSW hgt ⊢
  clear hc hf
  have hc := hRW.cell
  have hf := hRW.frozen
  have hs2 := hSW.cell
  go_still_tail 20, (by kernel_rfl)
  still_call (l1At_v st b W2.drew hs hb)
  repeat still_step
  still_call (l1With_v st a ((valueAt st a + valueAt st b) % 3) W2.drew hs ha hx)
  repeat still_step
  refine wpStill_nil ?_
  change wpList _ _ _ _ _ W2.drew
  go_wp2
  go_end0
  have hE := ((hRW.put 1 (.int .i64 (withValue st a ((valueAt st a + valueAt st b) % 3)))).put 0 (.int .i64 (p + 1)))
  exact ⟨rfl, hE, (((hCW.put 1 (.int .i64 (withValue st a ((valueAt st a + valueAt st b) % 3)))).put 0 (.int .i64 (p + 1))).drewN 1)⟩

theorem l2OwV_4_0 (a b c u v y p st wt : Int) (R : Nat) (w : World) (h : Has w R 78 #[.int .i64 p, .int .i64 st, .int .i64 wt]) (hs : 0 ≤ st ∧ st ≤ 80) (hp : 0 ≤ p ∧ p ≤ 100) (hw : 0 ≤ wt ∧ wt ≤ 1000000000000000000) (ha : 0 ≤ a ∧ a ≤ 3) (hq : valueAt st a = 0) (hv : 0 ≤ u ∧ u ≤ 9) :
    Calls Try.prog 71 #[.pointer (some ⟨R, 0, none⟩), .agg #[.int .i64 4, .int .i64 a, .int .i64 b, .int .i64 c, .int .i64 u, .int .i64 v, .int .i64 y]] w (Owned w R (p + 1) st (wt * u)) := by
  have cA := Lib.hid (fun wx => l1At_v st a wx hs ha)
  rw [hq] at cA
  have hzz : 0 ≤ wt * u ∧ wt * u ≤ 9000000000000000000 := by
    have h1 := Int.mul_nonneg hw.1 hv.1
    have h2 : wt * u ≤ wt * 9 := Int.mul_le_mul_of_nonneg_left hv.2 hw.1
    omega
  have hz : IntKind.i64.wrap (wt * u) = wt * u := by rw [IntKind.wrap_i64]; omega
  have hc := h.cell
  have hf := h.frozen
  have hl := h.lt
  go_enter Try.func71, Try.ntmps71
  go_wp2_with fail
  go_quiet ((go_at_call 99; exact Calls.quiet_of_same (cA.out _)))
  go_wp2_with fail
  have hRW := (h.alloc (.cells #[.int .i64 4, .int .i64 a, .int .i64 b, .int .i64 c, .int .i64 u, .int .i64 v, .int .i64 y] 83)).drewN nq
  have hSW := (Has.new w 83 #[.int .i64 4, .int .i64 a, .int .i64 b, .int .i64 c, .int .i64 u, .int .i64 v, .int .i64 y]).drewN nq
  have hCW : Chg w ((w.alloc (.cells #[.int .i64 4, .int .i64 a, .int .i64 b, .int .i64 c, .int .i64 u, .int .i64 v, .int .i64 y] 83)).drewN nq) R := ((Chg.refl w R).alloc _).drewN nq
  have hgt : R ≠ w.heap.size := by omega
  generalize World.drewN (w.alloc (.cells #[.int .i64 4, .int .i64 a, .int .i64 b, .int .i64 c, .int .i64 u, .int .i64 v, .int .i64 y] 83)) nq = W2 at hRW hSW hCW ⊢
  generalize w.heap.size = G at hSW hgt ⊢
  clear hc hf
  have hc := hRW.cell
  have hf := hRW.frozen
  have hs2 := hSW.cell
  go_still_tail 12, (by kernel_rfl)
  change wpList _ _ _ _ _ W2.drew
  go_wp2
  go_end0
  have hE := ((hRW.put 2 (.int .i64 (wt * u))).put 0 (.int .i64 (p + 1)))
  exact ⟨rfl, hE, (((hCW.put 2 (.int .i64 (wt * u))).put 0 (.int .i64 (p + 1))).drewN 1)⟩

theorem l2OwV_4_1 (a b c u v y p st wt : Int) (R : Nat) (w : World) (h : Has w R 78 #[.int .i64 p, .int .i64 st, .int .i64 wt]) (hs : 0 ≤ st ∧ st ≤ 80) (hp : 0 ≤ p ∧ p ≤ 100) (hw : 0 ≤ wt ∧ wt ≤ 1000000000000000000) (ha : 0 ≤ a ∧ a ≤ 3) (hq : valueAt st a = 1) (hv : 0 ≤ v ∧ v ≤ 9) :
    Calls Try.prog 71 #[.pointer (some ⟨R, 0, none⟩), .agg #[.int .i64 4, .int .i64 a, .int .i64 b, .int .i64 c, .int .i64 u, .int .i64 v, .int .i64 y]] w (Owned w R (p + 1) st (wt * v)) := by
  have cA := Lib.hid (fun wx => l1At_v st a wx hs ha)
  rw [hq] at cA
  have hzz : 0 ≤ wt * v ∧ wt * v ≤ 9000000000000000000 := by
    have h1 := Int.mul_nonneg hw.1 hv.1
    have h2 : wt * v ≤ wt * 9 := Int.mul_le_mul_of_nonneg_left hv.2 hw.1
    omega
  have hz : IntKind.i64.wrap (wt * v) = wt * v := by rw [IntKind.wrap_i64]; omega
  have hc := h.cell
  have hf := h.frozen
  have hl := h.lt
  go_enter Try.func71, Try.ntmps71
  go_wp2_with fail
  go_quiet ((go_at_call 99; exact Calls.quiet_of_same (cA.out _)))
  go_wp2_with fail
  have hRW := (h.alloc (.cells #[.int .i64 4, .int .i64 a, .int .i64 b, .int .i64 c, .int .i64 u, .int .i64 v, .int .i64 y] 83)).drewN nq
  have hSW := (Has.new w 83 #[.int .i64 4, .int .i64 a, .int .i64 b, .int .i64 c, .int .i64 u, .int .i64 v, .int .i64 y]).drewN nq
  have hCW : Chg w ((w.alloc (.cells #[.int .i64 4, .int .i64 a, .int .i64 b, .int .i64 c, .int .i64 u, .int .i64 v, .int .i64 y] 83)).drewN nq) R := ((Chg.refl w R).alloc _).drewN nq
  have hgt : R ≠ w.heap.size := by omega
  generalize World.drewN (w.alloc (.cells #[.int .i64 4, .int .i64 a, .int .i64 b, .int .i64 c, .int .i64 u, .int .i64 v, .int .i64 y] 83)) nq = W2 at hRW hSW hCW ⊢
  generalize w.heap.size = G at hSW hgt ⊢
  clear hc hf
  have hc := hRW.cell
  have hf := hRW.frozen
  have hs2 := hSW.cell
  go_still_tail 12, (by kernel_rfl)
  change wpList _ _ _ _ _ W2.drew
  go_wp2
  go_end0
  have hE := ((hRW.put 2 (.int .i64 (wt * v))).put 0 (.int .i64 (p + 1)))
  exact ⟨rfl, hE, (((hCW.put 2 (.int .i64 (wt * v))).put 0 (.int .i64 (p + 1))).drewN 1)⟩

theorem l2OwV_4_2 (a b c u v y p st wt : Int) (R : Nat) (w : World) (h : Has w R 78 #[.int .i64 p, .int .i64 st, .int .i64 wt]) (hs : 0 ≤ st ∧ st ≤ 80) (hp : 0 ≤ p ∧ p ≤ 100) (hw : 0 ≤ wt ∧ wt ≤ 1000000000000000000) (ha : 0 ≤ a ∧ a ≤ 3) (hq : valueAt st a = 2) (hv : 0 ≤ y ∧ y ≤ 9) :
    Calls Try.prog 71 #[.pointer (some ⟨R, 0, none⟩), .agg #[.int .i64 4, .int .i64 a, .int .i64 b, .int .i64 c, .int .i64 u, .int .i64 v, .int .i64 y]] w (Owned w R (p + 1) st (wt * y)) := by
  have cA := Lib.hid (fun wx => l1At_v st a wx hs ha)
  rw [hq] at cA
  have hzz : 0 ≤ wt * y ∧ wt * y ≤ 9000000000000000000 := by
    have h1 := Int.mul_nonneg hw.1 hv.1
    have h2 : wt * y ≤ wt * 9 := Int.mul_le_mul_of_nonneg_left hv.2 hw.1
    omega
  have hz : IntKind.i64.wrap (wt * y) = wt * y := by rw [IntKind.wrap_i64]; omega
  have hc := h.cell
  have hf := h.frozen
  have hl := h.lt
  go_enter Try.func71, Try.ntmps71
  go_wp2_with fail
  go_quiet ((go_at_call 99; exact Calls.quiet_of_same (cA.out _)))
  go_wp2_with fail
  have hRW := (h.alloc (.cells #[.int .i64 4, .int .i64 a, .int .i64 b, .int .i64 c, .int .i64 u, .int .i64 v, .int .i64 y] 83)).drewN nq
  have hSW := (Has.new w 83 #[.int .i64 4, .int .i64 a, .int .i64 b, .int .i64 c, .int .i64 u, .int .i64 v, .int .i64 y]).drewN nq
  have hCW : Chg w ((w.alloc (.cells #[.int .i64 4, .int .i64 a, .int .i64 b, .int .i64 c, .int .i64 u, .int .i64 v, .int .i64 y] 83)).drewN nq) R := ((Chg.refl w R).alloc _).drewN nq
  have hgt : R ≠ w.heap.size := by omega
  generalize World.drewN (w.alloc (.cells #[.int .i64 4, .int .i64 a, .int .i64 b, .int .i64 c, .int .i64 u, .int .i64 v, .int .i64 y] 83)) nq = W2 at hRW hSW hCW ⊢
  generalize w.heap.size = G at hSW hgt ⊢
  clear hc hf
  have hc := hRW.cell
  have hf := hRW.frozen
  have hs2 := hSW.cell
  go_still_tail 12, (by kernel_rfl)
  change wpList _ _ _ _ _ W2.drew
  go_wp2
  go_end0
  have hE := ((hRW.put 2 (.int .i64 (wt * y))).put 0 (.int .i64 (p + 1)))
  exact ⟨rfl, hE, (((hCW.put 2 (.int .i64 (wt * y))).put 0 (.int .i64 (p + 1))).drewN 1)⟩

theorem l2OwV_5_0 (a b c u v y p st wt : Int) (R : Nat) (w : World) (h : Has w R 78 #[.int .i64 p, .int .i64 st, .int .i64 wt]) (hs : 0 ≤ st ∧ st ≤ 80) (hp : 0 ≤ p ∧ p ≤ 100) (hw : 0 ≤ wt ∧ wt ≤ 1000000000000000000) (ha : 0 ≤ a ∧ a ≤ 3) (hb : 0 ≤ b ∧ b ≤ 3) (hq : (valueAt st a + valueAt st b) % 3 = 0) (hv : 0 ≤ u ∧ u ≤ 9) :
    Calls Try.prog 71 #[.pointer (some ⟨R, 0, none⟩), .agg #[.int .i64 5, .int .i64 a, .int .i64 b, .int .i64 c, .int .i64 u, .int .i64 v, .int .i64 y]] w (Owned w R (p + 1) st (wt * u)) := by
  have cA := Lib.hid (fun wx => l1At_v st a wx hs ha)
  have hma := valueAt_in hs ha
  have hmb := valueAt_in hs hb
  have hsum : IntKind.i64.wrap (valueAt st a + valueAt st b) = valueAt st a + valueAt st b := by rw [IntKind.wrap_i64]; omega
  have hmod : (valueAt st a + valueAt st b).tmod 3 = 0 := (Int.tmod_eq_emod_of_nonneg (by omega)).trans hq
  have hzz : 0 ≤ wt * u ∧ wt * u ≤ 9000000000000000000 := by
    have h1 := Int.mul_nonneg hw.1 hv.1
    have h2 : wt * u ≤ wt * 9 := Int.mul_le_mul_of_nonneg_left hv.2 hw.1
    omega
  have hz : IntKind.i64.wrap (wt * u) = wt * u := by rw [IntKind.wrap_i64]; omega
  have hc := h.cell
  have hf := h.frozen
  have hl := h.lt
  go_enter Try.func71, Try.ntmps71
  go_wp2_with fail
  go_quiet ((go_at_call 99; exact Calls.quiet_of_same (cA.out _)))
  go_wp2_with fail
  have hRW := (h.alloc (.cells #[.int .i64 5, .int .i64 a, .int .i64 b, .int .i64 c, .int .i64 u, .int .i64 v, .int .i64 y] 83)).drewN nq
  have hSW := (Has.new w 83 #[.int .i64 5, .int .i64 a, .int .i64 b, .int .i64 c, .int .i64 u, .int .i64 v, .int .i64 y]).drewN nq
  have hCW : Chg w ((w.alloc (.cells #[.int .i64 5, .int .i64 a, .int .i64 b, .int .i64 c, .int .i64 u, .int .i64 v, .int .i64 y] 83)).drewN nq) R := ((Chg.refl w R).alloc _).drewN nq
  have hgt : R ≠ w.heap.size := by omega
  generalize World.drewN (w.alloc (.cells #[.int .i64 5, .int .i64 a, .int .i64 b, .int .i64 c, .int .i64 u, .int .i64 v, .int .i64 y] 83)) nq = W2 at hRW hSW hCW ⊢
  generalize w.heap.size = G at hSW hgt ⊢
  clear hc hf
  have hc := hRW.cell
  have hf := hRW.frozen
  have hs2 := hSW.cell
  go_still_tail 21, (by kernel_rfl)
  still_call (l1At_v st b W2.drew hs hb)
  repeat still_step
  refine wpStill_nil ?_
  change wpList _ _ _ _ _ W2.drew
  go_wp2
  go_end0
  have hE := ((hRW.put 2 (.int .i64 (wt * u))).put 0 (.int .i64 (p + 1)))
  exact ⟨rfl, hE, (((hCW.put 2 (.int .i64 (wt * u))).put 0 (.int .i64 (p + 1))).drewN 1)⟩

theorem l2OwV_5_1 (a b c u v y p st wt : Int) (R : Nat) (w : World) (h : Has w R 78 #[.int .i64 p, .int .i64 st, .int .i64 wt]) (hs : 0 ≤ st ∧ st ≤ 80) (hp : 0 ≤ p ∧ p ≤ 100) (hw : 0 ≤ wt ∧ wt ≤ 1000000000000000000) (ha : 0 ≤ a ∧ a ≤ 3) (hb : 0 ≤ b ∧ b ≤ 3) (hq : (valueAt st a + valueAt st b) % 3 = 1) (hv : 0 ≤ v ∧ v ≤ 9) :
    Calls Try.prog 71 #[.pointer (some ⟨R, 0, none⟩), .agg #[.int .i64 5, .int .i64 a, .int .i64 b, .int .i64 c, .int .i64 u, .int .i64 v, .int .i64 y]] w (Owned w R (p + 1) st (wt * v)) := by
  have cA := Lib.hid (fun wx => l1At_v st a wx hs ha)
  have hma := valueAt_in hs ha
  have hmb := valueAt_in hs hb
  have hsum : IntKind.i64.wrap (valueAt st a + valueAt st b) = valueAt st a + valueAt st b := by rw [IntKind.wrap_i64]; omega
  have hmod : (valueAt st a + valueAt st b).tmod 3 = 1 := (Int.tmod_eq_emod_of_nonneg (by omega)).trans hq
  have hzz : 0 ≤ wt * v ∧ wt * v ≤ 9000000000000000000 := by
    have h1 := Int.mul_nonneg hw.1 hv.1
    have h2 : wt * v ≤ wt * 9 := Int.mul_le_mul_of_nonneg_left hv.2 hw.1
    omega
  have hz : IntKind.i64.wrap (wt * v) = wt * v := by rw [IntKind.wrap_i64]; omega
  have hc := h.cell
  have hf := h.frozen
  have hl := h.lt
  go_enter Try.func71, Try.ntmps71
  go_wp2_with fail
  go_quiet ((go_at_call 99; exact Calls.quiet_of_same (cA.out _)))
  go_wp2_with fail
  have hRW := (h.alloc (.cells #[.int .i64 5, .int .i64 a, .int .i64 b, .int .i64 c, .int .i64 u, .int .i64 v, .int .i64 y] 83)).drewN nq
  have hSW := (Has.new w 83 #[.int .i64 5, .int .i64 a, .int .i64 b, .int .i64 c, .int .i64 u, .int .i64 v, .int .i64 y]).drewN nq
  have hCW : Chg w ((w.alloc (.cells #[.int .i64 5, .int .i64 a, .int .i64 b, .int .i64 c, .int .i64 u, .int .i64 v, .int .i64 y] 83)).drewN nq) R := ((Chg.refl w R).alloc _).drewN nq
  have hgt : R ≠ w.heap.size := by omega
  generalize World.drewN (w.alloc (.cells #[.int .i64 5, .int .i64 a, .int .i64 b, .int .i64 c, .int .i64 u, .int .i64 v, .int .i64 y] 83)) nq = W2 at hRW hSW hCW ⊢
  generalize w.heap.size = G at hSW hgt ⊢
  clear hc hf
  have hc := hRW.cell
  have hf := hRW.frozen
  have hs2 := hSW.cell
  go_still_tail 21, (by kernel_rfl)
  still_call (l1At_v st b W2.drew hs hb)
  repeat still_step
  refine wpStill_nil ?_
  change wpList _ _ _ _ _ W2.drew
  go_wp2
  go_end0
  have hE := ((hRW.put 2 (.int .i64 (wt * v))).put 0 (.int .i64 (p + 1)))
  exact ⟨rfl, hE, (((hCW.put 2 (.int .i64 (wt * v))).put 0 (.int .i64 (p + 1))).drewN 1)⟩

theorem l2OwV_5_2 (a b c u v y p st wt : Int) (R : Nat) (w : World) (h : Has w R 78 #[.int .i64 p, .int .i64 st, .int .i64 wt]) (hs : 0 ≤ st ∧ st ≤ 80) (hp : 0 ≤ p ∧ p ≤ 100) (hw : 0 ≤ wt ∧ wt ≤ 1000000000000000000) (ha : 0 ≤ a ∧ a ≤ 3) (hb : 0 ≤ b ∧ b ≤ 3) (hq : (valueAt st a + valueAt st b) % 3 = 2) (hv : 0 ≤ y ∧ y ≤ 9) :
    Calls Try.prog 71 #[.pointer (some ⟨R, 0, none⟩), .agg #[.int .i64 5, .int .i64 a, .int .i64 b, .int .i64 c, .int .i64 u, .int .i64 v, .int .i64 y]] w (Owned w R (p + 1) st (wt * y)) := by
  have cA := Lib.hid (fun wx => l1At_v st a wx hs ha)
  have hma := valueAt_in hs ha
  have hmb := valueAt_in hs hb
  have hsum : IntKind.i64.wrap (valueAt st a + valueAt st b) = valueAt st a + valueAt st b := by rw [IntKind.wrap_i64]; omega
  have hmod : (valueAt st a + valueAt st b).tmod 3 = 2 := (Int.tmod_eq_emod_of_nonneg (by omega)).trans hq
  have hzz : 0 ≤ wt * y ∧ wt * y ≤ 9000000000000000000 := by
    have h1 := Int.mul_nonneg hw.1 hv.1
    have h2 : wt * y ≤ wt * 9 := Int.mul_le_mul_of_nonneg_left hv.2 hw.1
    omega
  have hz : IntKind.i64.wrap (wt * y) = wt * y := by rw [IntKind.wrap_i64]; omega
  have hc := h.cell
  have hf := h.frozen
  have hl := h.lt
  go_enter Try.func71, Try.ntmps71
  go_wp2_with fail
  go_quiet ((go_at_call 99; exact Calls.quiet_of_same (cA.out _)))
  go_wp2_with fail
  have hRW := (h.alloc (.cells #[.int .i64 5, .int .i64 a, .int .i64 b, .int .i64 c, .int .i64 u, .int .i64 v, .int .i64 y] 83)).drewN nq
  have hSW := (Has.new w 83 #[.int .i64 5, .int .i64 a, .int .i64 b, .int .i64 c, .int .i64 u, .int .i64 v, .int .i64 y]).drewN nq
  have hCW : Chg w ((w.alloc (.cells #[.int .i64 5, .int .i64 a, .int .i64 b, .int .i64 c, .int .i64 u, .int .i64 v, .int .i64 y] 83)).drewN nq) R := ((Chg.refl w R).alloc _).drewN nq
  have hgt : R ≠ w.heap.size := by omega
  generalize World.drewN (w.alloc (.cells #[.int .i64 5, .int .i64 a, .int .i64 b, .int .i64 c, .int .i64 u, .int .i64 v, .int .i64 y] 83)) nq = W2 at hRW hSW hCW ⊢
  generalize w.heap.size = G at hSW hgt ⊢
  clear hc hf
  have hc := hRW.cell
  have hf := hRW.frozen
  have hs2 := hSW.cell
  go_still_tail 21, (by kernel_rfl)
  still_call (l1At_v st b W2.drew hs hb)
  repeat still_step
  refine wpStill_nil ?_
  change wpList _ _ _ _ _ W2.drew
  go_wp2
  go_end0
  have hE := ((hRW.put 2 (.int .i64 (wt * y))).put 0 (.int .i64 (p + 1)))
  exact ⟨rfl, hE, (((hCW.put 2 (.int .i64 (wt * y))).put 0 (.int .i64 (p + 1))).drewN 1)⟩

theorem l2OwV_6y (a b c u v y p st wt : Int) (R : Nat) (w : World) (h : Has w R 78 #[.int .i64 p, .int .i64 st, .int .i64 wt]) (hs : 0 ≤ st ∧ st ≤ 80) (hp : 0 ≤ p ∧ p ≤ 100) (hw : 0 ≤ wt ∧ wt ≤ 1000000000000000000) (ha : 0 ≤ a ∧ a ≤ 3) (hb : 0 ≤ b ∧ b ≤ 12) (hq : valueAt st a = c) :
    Calls Try.prog 71 #[.pointer (some ⟨R, 0, none⟩), .agg #[.int .i64 6, .int .i64 a, .int .i64 b, .int .i64 c, .int .i64 u, .int .i64 v, .int .i64 y]] w (Owned w R (p + b + 1) st wt) := by
  subst hq
  have cA := Lib.hid (fun wx => l1At_v st a wx hs ha)
  have hc := h.cell
  have hf := h.frozen
  have hl := h.lt
  go_enter Try.func71, Try.ntmps71
  go_wp2_with fail
  go_quiet ((go_at_call 99; exact Calls.quiet_of_same (cA.out _)))
  go_wp2_with fail
  have hRW := (h.alloc (.cells #[.int .i64 6, .int .i64 a, .int .i64 b, .int .i64 (valueAt st a), .int .i64 u, .int .i64 v, .int .i64 y] 83)).drewN nq
  have hSW := (Has.new w 83 #[.int .i64 6, .int .i64 a, .int .i64 b, .int .i64 (valueAt st a), .int .i64 u, .int .i64 v, .int .i64 y]).drewN nq
  have hCW : Chg w ((w.alloc (.cells #[.int .i64 6, .int .i64 a, .int .i64 b, .int .i64 (valueAt st a), .int .i64 u, .int .i64 v, .int .i64 y] 83)).drewN nq) R := ((Chg.refl w R).alloc _).drewN nq
  have hgt : R ≠ w.heap.size := by omega
  generalize World.drewN (w.alloc (.cells #[.int .i64 6, .int .i64 a, .int .i64 b, .int .i64 (valueAt st a), .int .i64 u, .int .i64 v, .int .i64 y] 83)) nq = W2 at hRW hSW hCW ⊢
  generalize w.heap.size = G at hSW hgt ⊢
  clear hc hf
  have hc := hRW.cell
  have hf := hRW.frozen
  have hs2 := hSW.cell
  go_still_tail 10, (by kernel_rfl)
  change wpList _ _ _ _ _ W2.drew
  go_wp2
  go_end0
  have hE := ((hRW.put 0 (.int .i64 (p + b))).put 0 (.int .i64 (p + b + 1)))
  exact ⟨rfl, hE, (((hCW.put 0 (.int .i64 (p + b))).put 0 (.int .i64 (p + b + 1))).drewN 1)⟩

theorem l2OwV_6n (a b c u v y p st wt : Int) (R : Nat) (w : World) (h : Has w R 78 #[.int .i64 p, .int .i64 st, .int .i64 wt]) (hs : 0 ≤ st ∧ st ≤ 80) (hp : 0 ≤ p ∧ p ≤ 100) (hw : 0 ≤ wt ∧ wt ≤ 1000000000000000000) (ha : 0 ≤ a ∧ a ≤ 3) (hq : valueAt st a ≠ c) :
    Calls Try.prog 71 #[.pointer (some ⟨R, 0, none⟩), .agg #[.int .i64 6, .int .i64 a, .int .i64 b, .int .i64 c, .int .i64 u, .int .i64 v, .int .i64 y]] w (Owned w R (p + 1) st wt) := by
  have cA := Lib.hid (fun wx => l1At_v st a wx hs ha)
  have hq' : (valueAt st a == c) = false := by simpa using hq
  clear hq
  have hc := h.cell
  have hf := h.frozen
  have hl := h.lt
  go_enter Try.func71, Try.ntmps71
  go_wp2_with fail
  go_quiet ((go_at_call 99; exact Calls.quiet_of_same (cA.out _)))
  go_wp2_with fail
  have hRW := (h.alloc (.cells #[.int .i64 6, .int .i64 a, .int .i64 b, .int .i64 c, .int .i64 u, .int .i64 v, .int .i64 y] 83)).drewN nq
  have hSW := (Has.new w 83 #[.int .i64 6, .int .i64 a, .int .i64 b, .int .i64 c, .int .i64 u, .int .i64 v, .int .i64 y]).drewN nq
  have hCW : Chg w ((w.alloc (.cells #[.int .i64 6, .int .i64 a, .int .i64 b, .int .i64 c, .int .i64 u, .int .i64 v, .int .i64 y] 83)).drewN nq) R := ((Chg.refl w R).alloc _).drewN nq
  have hgt : R ≠ w.heap.size := by omega
  generalize World.drewN (w.alloc (.cells #[.int .i64 6, .int .i64 a, .int .i64 b, .int .i64 c, .int .i64 u, .int .i64 v, .int .i64 y] 83)) nq = W2 at hRW hSW hCW ⊢
  generalize w.heap.size = G at hSW hgt ⊢
  clear hc hf
  have hc := hRW.cell
  have hf := hRW.frozen
  have hs2 := hSW.cell
  go_wp2
  go_end0
  have hE := (hRW.put 0 (.int .i64 (p + 1)))
  exact ⟨rfl, hE, (hCW.put 0 (.int .i64 (p + 1)))⟩

theorem l2OwV_any (s : St) (r : Rn) (R : Nat) (w : World) (hs : s.ok = true) (hd : s.draws = false) (h7 : s.notLoop = true) (hst : 0 ≤ r.st ∧ r.st ≤ 80) (hww : 0 ≤ r.wt ∧ r.wt ≤ 1000000000000000000) (hp : r.pos ≤ 12) (h : Has w R 78 #[.int .i64 r.pos, .int .i64 r.st, .int .i64 r.wt]) :
    Calls Try.prog 71 #[.pointer (some ⟨R, 0, none⟩), .agg #[.int .i64 s.k, .int .i64 s.a, .int .i64 s.b, .int .i64 s.c, .int .i64 s.u, .int .i64 s.v, .int .i64 s.x]] w (Owned w R (Rn.step s r 0).pos (Rn.step s r 0).st (Rn.step s r 0).wt) := by
  have hpp : 0 ≤ (r.pos : Int) ∧ (r.pos : Int) ≤ 100 := by omega
  obtain ⟨k, a, b, c, u, v, y⟩ := s
  rcases ok_rng hs with ⟨rfl, h1, h2, h3, h4, h5, h6⟩ | ⟨rfl, h1, h2, h3, h4, h5⟩ | ⟨rfl, h1, h2, h3⟩ | ⟨rfl, h1, h2, h3, h4, h5⟩ | ⟨rfl, h1, h2, h3⟩ | ⟨rfl, h1, h2, h3, h4, h5⟩ | ⟨rfl, h1, h2, h3, h4, h5, h6⟩ | ⟨rfl, h1, h2, h3, h4, h5⟩
  · by_cases hb : b = -1
    · exact owned_eq (l2OwV_0n a b c u v y r.pos r.st r.wt R w h hst hpp hww ⟨h1, h2⟩ hb ⟨h5, h6⟩) (by simp [Rn.step, St.jump]) (by simp [Rn.step, St.next, hb]; rw [mod3 ⟨h5, h6⟩]) (by simp [Rn.step, St.fac])
    · exact owned_eq (l2OwV_0b a b c u v y r.pos r.st r.wt R w h hst hpp hww ⟨h1, h2⟩ ⟨by omega, h4⟩ ⟨h5, h6⟩) (by simp [Rn.step, St.jump]) (by simp [Rn.step, St.next, hb]) (by simp [Rn.step, St.fac])
  · exact owned_eq (l2OwV_1 a b c u v y r.pos r.st r.wt R w h hst hpp hww ⟨h1, h2⟩ ⟨h3, h4⟩) (by simp [Rn.step, St.jump]) (by simp [Rn.step, St.next]) (by simp [Rn.step, St.fac])
  · simp [St.draws] at hd
  · simp [St.draws] at hd
  · rw [ok_4] at hs
    have hw := wok_bd (by simp at hs; exact hs.2)
    have hv := valueAt_in hst ⟨h1, h2⟩
    obtain hq | hq | hq : valueAt r.st a = 0 ∨ valueAt r.st a = 1 ∨ valueAt r.st a = 2 := by omega
    · exact owned_eq (l2OwV_4_0 a b c u v y r.pos r.st r.wt R w h hst hpp hww ⟨h1, h2⟩ hq hw.1) (by simp [Rn.step, St.jump]) (by simp [Rn.step, St.next]) (by simp [Rn.step, St.fac, St.next, hq, St.wgt])
    · exact owned_eq (l2OwV_4_1 a b c u v y r.pos r.st r.wt R w h hst hpp hww ⟨h1, h2⟩ hq hw.2.1) (by simp [Rn.step, St.jump]) (by simp [Rn.step, St.next]) (by simp [Rn.step, St.fac, St.next, hq, St.wgt])
    · exact owned_eq (l2OwV_4_2 a b c u v y r.pos r.st r.wt R w h hst hpp hww ⟨h1, h2⟩ hq hw.2.2) (by simp [Rn.step, St.jump]) (by simp [Rn.step, St.next]) (by simp [Rn.step, St.fac, St.next, hq, St.wgt])
  · rw [ok_5] at hs
    have hw := wok_bd (by simp at hs; exact hs.2)
    obtain hq | hq | hq : (valueAt r.st a + valueAt r.st b) % 3 = 0 ∨ (valueAt r.st a + valueAt r.st b) % 3 = 1 ∨ (valueAt r.st a + valueAt r.st b) % 3 = 2 := by omega
    · exact owned_eq (l2OwV_5_0 a b c u v y r.pos r.st r.wt R w h hst hpp hww ⟨h1, h2⟩ ⟨h3, h4⟩ hq hw.1) (by simp [Rn.step, St.jump]) (by simp [Rn.step, St.next]) (by simp [Rn.step, St.fac, St.next, hq, St.wgt])
    · exact owned_eq (l2OwV_5_1 a b c u v y r.pos r.st r.wt R w h hst hpp hww ⟨h1, h2⟩ ⟨h3, h4⟩ hq hw.2.1) (by simp [Rn.step, St.jump]) (by simp [Rn.step, St.next]) (by simp [Rn.step, St.fac, St.next, hq, St.wgt])
    · exact owned_eq (l2OwV_5_2 a b c u v y r.pos r.st r.wt R w h hst hpp hww ⟨h1, h2⟩ ⟨h3, h4⟩ hq hw.2.2) (by simp [Rn.step, St.jump]) (by simp [Rn.step, St.next]) (by simp [Rn.step, St.fac, St.next, hq, St.wgt])
  · by_cases hq : valueAt r.st a = c
    · exact owned_eq (l2OwV_6y a b c u v y r.pos r.st r.wt R w h hst hpp hww ⟨h1, h2⟩ ⟨by omega, h4⟩ hq) (by simp [Rn.step, St.jump, hq]; omega) (by simp [Rn.step, St.next]) (by simp [Rn.step, St.fac])
    · exact owned_eq (l2OwV_6n a b c u v y r.pos r.st r.wt R w h hst hpp hww ⟨h1, h2⟩ hq) (by simp [Rn.step, St.jump, hq]) (by simp [Rn.step, St.next]) (by simp [Rn.step, St.fac])
  · simp [St.notLoop] at h7

end Go.Proofs.Ytjokiminlplbcaa
