/- The model's steps of a run with a great weight (by program, from the texts of the narrow ones). The model's rows of weights, one row ahead of each statement; plain functions; l3Zeros and l3One. What a step of the model's sweep adds; plain functions. -/
import Derived.Test.YtbndonfpdioibaaSm
import Derived.Test.YtbndonfpdioibaaTs
import Derived.Test.YtbndonfpdioibaaSwm
import Derived.Test.YtbndonfpdioibaaNm
namespace Go.Proofs.Ytbndonfpdioibaa
set_option maxRecDepth 100000
set_option linter.unusedVariables false
open Go.RowKit

theorem l2OwV_0n (a b c u v y p st wt : Int) (R : Nat) (w : World) (h : Has w R 135 #[.int .i64 p, .int .i64 st, .int .i64 wt]) (hs : 0 ≤ st ∧ st ≤ 80) (hp : 0 ≤ p ∧ p ≤ 100) (hw : 0 ≤ wt ∧ wt ≤ 1000000000000000000) (ha : 0 ≤ a ∧ a ≤ 3) (hb : b = -1) (hc0 : 0 ≤ c ∧ c ≤ 2) :
    Calls Try.prog 123 #[.pointer (some ⟨R, 0, none⟩), .agg #[.int .i64 0, .int .i64 a, .int .i64 b, .int .i64 c, .int .i64 u, .int .i64 v, .int .i64 y]] w (Owned w R (p + 1) (withValue st a c) wt) := by
  subst hb
  have cA := Lib.hid (fun wx => l1At_v st a wx hs ha)
  have hc := h.cell
  have hf := h.frozen
  have hl := h.lt
  go_enter Try.func123, Try.ntmps123
  go_wp2_with fail
  go_quiet ((go_at_call 110; exact Calls.quiet_of_same (cA.out _)))
  go_wp2_with fail
  have hRW := (h.alloc (.cells #[.int .i64 0, .int .i64 a, .int .i64 (-1), .int .i64 c, .int .i64 u, .int .i64 v, .int .i64 y] 78)).drewN nq
  have hSW := (Has.new w 78 #[.int .i64 0, .int .i64 a, .int .i64 (-1), .int .i64 c, .int .i64 u, .int .i64 v, .int .i64 y]).drewN nq
  have hCW : Chg w ((w.alloc (.cells #[.int .i64 0, .int .i64 a, .int .i64 (-1), .int .i64 c, .int .i64 u, .int .i64 v, .int .i64 y] 78)).drewN nq) R := ((Chg.refl w R).alloc _).drewN nq
  have hgt : R ≠ w.heap.size := by omega
  generalize World.drewN (w.alloc (.cells #[.int .i64 0, .int .i64 a, .int .i64 (-1), .int .i64 c, .int .i64 u, .int .i64 v, .int .i64 y] 78)) nq = W2 at hRW hSW hCW ⊢
  generalize w.heap.size = G at hSW hgt ⊢
  clear hc hf
  have hc := hRW.cell
  have hf := hRW.frozen
  have hs2 := hSW.cell
  go_still_tail 11, (by kernel_rfl)
  still_call (l1With_v st a c W2.drew hs ha hc0)
  repeat still_step
  refine wpStill_nil ?_
  change wpList _ _ _ _ _ W2.drew
  go_wp2
  go_end0
  have hE := ((hRW.put 1 (.int .i64 (withValue st a c))).put 0 (.int .i64 (p + 1)))
  exact ⟨rfl, hE, (((hCW.put 1 (.int .i64 (withValue st a c))).put 0 (.int .i64 (p + 1))).drewN 1)⟩

theorem l2OwV_0b (a b c u v y p st wt : Int) (R : Nat) (w : World) (h : Has w R 135 #[.int .i64 p, .int .i64 st, .int .i64 wt]) (hs : 0 ≤ st ∧ st ≤ 80) (hp : 0 ≤ p ∧ p ≤ 100) (hw : 0 ≤ wt ∧ wt ≤ 1000000000000000000) (ha : 0 ≤ a ∧ a ≤ 3) (hb : 0 ≤ b ∧ b ≤ 3) (hc0 : 0 ≤ c ∧ c ≤ 2) :
    Calls Try.prog 123 #[.pointer (some ⟨R, 0, none⟩), .agg #[.int .i64 0, .int .i64 a, .int .i64 b, .int .i64 c, .int .i64 u, .int .i64 v, .int .i64 y]] w (Owned w R (p + 1) (withValue st a ((c + valueAt st b) % 3)) wt) := by
  have cA := Lib.hid (fun wx => l1At_v st a wx hs ha)
  have cB := Lib.hid (fun wx => l1At_v st b wx hs hb)
  have hmb := valueAt_in hs hb
  have hsum : IntKind.i64.wrap (c + valueAt st b) = c + valueAt st b := by rw [IntKind.wrap_i64]; omega
  have hmod : (c + valueAt st b).tmod 3 = (c + valueAt st b) % 3 := Int.tmod_eq_emod_of_nonneg (by omega)
  have hx : 0 ≤ (c + valueAt st b) % 3 ∧ (c + valueAt st b) % 3 ≤ 2 := by omega
  have hc := h.cell
  have hf := h.frozen
  have hl := h.lt
  go_enter Try.func123, Try.ntmps123
  go_wp2_with fail
  go_quiet ((go_at_call 110; exact Calls.quiet_of_same (cA.out _)))
  go_wp2_with fail
  have hRW := (h.alloc (.cells #[.int .i64 0, .int .i64 a, .int .i64 b, .int .i64 c, .int .i64 u, .int .i64 v, .int .i64 y] 78)).drewN nq
  have hSW := (Has.new w 78 #[.int .i64 0, .int .i64 a, .int .i64 b, .int .i64 c, .int .i64 u, .int .i64 v, .int .i64 y]).drewN nq
  have hCW : Chg w ((w.alloc (.cells #[.int .i64 0, .int .i64 a, .int .i64 b, .int .i64 c, .int .i64 u, .int .i64 v, .int .i64 y] 78)).drewN nq) R := ((Chg.refl w R).alloc _).drewN nq
  have hgt : R ≠ w.heap.size := by omega
  generalize World.drewN (w.alloc (.cells #[.int .i64 0, .int .i64 a, .int .i64 b, .int .i64 c, .int .i64 u, .int .i64 v, .int .i64 y] 78)) nq = W2 at hRW hSW hCW ⊢
  generalize w.heap.size = G at hSW hgt ⊢
  clear hc hf
  have hc := hRW.cell
  have hf := hRW.frozen
  have hs2 := hSW.cell
  go_quiet ((go_at_call 110; exact Calls.quiet_of_same (cB.out _)))
  go_wp2_with fail
  replace hRW := hRW.drewN nq
  replace hSW := hSW.drewN nq
  replace hCW := hCW.drewN nq
  generalize W2.drewN nq = W3 at hRW hSW hCW ⊢
  clear hc hf hs2
  have hc := hRW.cell
  have hf := hRW.frozen
  have hs2 := hSW.cell
  go_still_tail 11, (by kernel_rfl)
  still_call (l1With_v st a ((c + valueAt st b) % 3) W3.drew hs ha hx)
  repeat still_step
  refine wpStill_nil ?_
  change wpList _ _ _ _ _ W3.drew
  go_wp2
  go_end0
  have hE := ((hRW.put 1 (.int .i64 (withValue st a ((c + valueAt st b) % 3)))).put 0 (.int .i64 (p + 1)))
  exact ⟨rfl, hE, (((hCW.put 1 (.int .i64 (withValue st a ((c + valueAt st b) % 3)))).put 0 (.int .i64 (p + 1))).drewN 1)⟩

theorem l2OwV_1 (a b c u v y p st wt : Int) (R : Nat) (w : World) (h : Has w R 135 #[.int .i64 p, .int .i64 st, .int .i64 wt]) (hs : 0 ≤ st ∧ st ≤ 80) (hp : 0 ≤ p ∧ p ≤ 100) (hw : 0 ≤ wt ∧ wt ≤ 1000000000000000000) (ha : 0 ≤ a ∧ a ≤ 3) (hb : 0 ≤ b ∧ b ≤ 3) :
    Calls Try.prog 123 #[.pointer (some ⟨R, 0, none⟩), .agg #[.int .i64 1, .int .i64 a, .int .i64 b, .int .i64 c, .int .i64 u, .int .i64 v, .int .i64 y]] w (Owned w R (p + 1) (withValue st a ((valueAt st a + valueAt st b) % 3)) wt) := by
  have cA := Lib.hid (fun wx => l1At_v st a wx hs ha)
  have hma := valueAt_in hs ha
  have hmb := valueAt_in hs hb
  have hsum : IntKind.i64.wrap (valueAt st a + valueAt st b) = valueAt st a + valueAt st b := by rw [IntKind.wrap_i64]; omega
  have hmod : (valueAt st a + valueAt st b).tmod 3 = (valueAt st a + valueAt st b) % 3 := Int.tmod_eq_emod_of_nonneg (by omega)
  have hx : 0 ≤ (valueAt st a + valueAt st b) % 3 ∧ (valueAt st a + valueAt st b) % 3 ≤ 2 := by omega
  have hc := h.cell
  have hf := h.frozen
  have hl := h.lt
  go_enter Try.func123, Try.ntmps123
  go_wp2_with fail
  go_quiet ((go_at_call 110; exact Calls.quiet_of_same (cA.out _)))
  go_wp2_with fail
  have hRW := (h.alloc (.cells #[.int .i64 1, .int .i64 a, .int .i64 b, .int .i64 c, .int .i64 u, .int .i64 v, .int .i64 y] 78)).drewN nq
  have hSW := (Has.new w 78 #[.int .i64 1, .int .i64 a, .int .i64 b, .int .i64 c, .int .i64 u, .int .i64 v, .int .i64 y]).drewN nq
  have hCW : Chg w ((w.alloc (.cells #[.int .i64 1, .int .i64 a, .int .i64 b, .int .i64 c, .int .i64 u, .int .i64 v, .int .i64 y] 78)).drewN nq) R := ((Chg.refl w R).alloc _).drewN nq
  have hgt : R ≠ w.heap.size := by omega
  generalize World.drewN (w.alloc (.cells #[.int .i64 1, .int .i64 a, .int .i64 b, .int .i64 c, .int .i64 u, .int .i64 v, .int .i64 y] 78)) nq = W2 at hRW hSW hCW ⊢
  generalize w.heap.size = G at hSW hgt ⊢
  clear hc hf
  have hc := hRW.cell
  have hf := hRW.frozen
  have hs2 := hSW.cell
  go_still_tail 20, (by kernel_rfl)
  still_call (l1At_v st b W2.drew hs hb)
  repeat still_step
  still_call (l1With_v st a ((valueAt st a + valueAt st b) % 3) W2.drew hs ha hx)
  repeat still_step
  refine wpStill_nil ?_
  change wpList _ _ _ _ _ W2.drew
  go_wp2
  go_end0
  have hE := ((hRW.put 1 (.int .i64 (withValue st a ((valueAt st a + valueAt st b) % 3)))).put 0 (.int .i64 (p + 1)))
  exact ⟨rfl, hE, (((hCW.put 1 (.int .i64 (withValue st a ((valueAt st a + valueAt st b) % 3)))).put 0 (.int .i64 (p + 1))).drewN 1)⟩

theorem l2OwV_4_0 (a b c u v y p st wt : Int) (R : Nat) (w : World) (h : Has w R 135 #[.int .i64 p, .int .i64 st, .int .i64 wt]) (hs : 0 ≤ st ∧ st ≤ 80) (hp : 0 ≤ p ∧ p ≤ 100) (hw : 0 ≤ wt ∧ wt ≤ 1000000000000000000) (ha : 0 ≤ a ∧ a ≤ 3) (hq : valueAt st a = 0) (hv : 0 ≤ u ∧ u ≤ 9) :
    Calls Try.prog 123 #[.pointer (some ⟨R, 0, none⟩), .agg #[.int .i64 4, .int .i64 a, .int .i64 b, .int .i64 c, .int .i64 u, .int .i64 v, .int .i64 y]] w (Owned w R (p + 1) st (wt * u)) := by
  have cA := Lib.hid (fun wx => l1At_v st a wx hs ha)
  rw [hq] at cA
  have hzz : 0 ≤ wt * u ∧ wt * u ≤ 9000000000000000000 := by
    have h1 := Int.mul_nonneg hw.1 hv.1
    have h2 : wt * u ≤ wt * 9 := Int.mul_le_mul_of_nonneg_left hv.2 hw.1
    omega
  have hz : IntKind.i64.wrap (wt * u) = wt * u := by rw [IntKind.wrap_i64]; omega
  have hc := h.cell
  have hf := h.frozen
  have hl := h.lt
  go_enter Try.func123, Try.ntmps123
  go_wp2_with fail
  go_quiet ((go_at_call 110; exact Calls.quiet_of_same (cA.out _)))
  go_wp2_with fail
  have hRW := (h.alloc (.cells #[.int .i64 4, .int .i64 a, .int .i64 b, .int .i64 c, .int .i64 u, .int .i64 v, .int .i64 y] 78)).drewN nq
  have hSW := (Has.new w 78 #[.int .i64 4, .int .i64 a, .int .i64 b, .int .i64 c, .int .i64 u, .int .i64 v, .int .i64 y]).drewN nq
  have hCW : Chg w ((w.alloc (.cells #[.int .i64 4, .int .i64 a, .int .i64 b, .int .i64 c, .int .i64 u, .int .i64 v, .int .i64 y] 78)).drewN nq) R := ((Chg.refl w R).alloc _).drewN nq
  have hgt : R ≠ w.heap.size := by omega
  generalize World.drewN (w.alloc (.cells #[.int .i64 4, .int .i64 a, .int .i64 b, .int .i64 c, .int .i64 u, .int .i64 v, .int .i64 y] 78)) nq = W2 at hRW hSW hCW ⊢
  generalize w.heap.size = G at hSW hgt ⊢
  clear hc hf
  have hc := hRW.cell
  have hf := hRW.frozen
  have hs2 := hSW.cell
  go_still_tail 12, (by kernel_rfl)
  change wpList _ _ _ _ _ W2.drew
  go_wp2
  go_end0
  have hE := ((hRW.put 2 (.int .i64 (wt * u))).put 0 (.int .i64 (p + 1)))
  exact ⟨rfl, hE, (((hCW.put 2 (.int .i64 (wt * u))).put 0 (.int .i64 (p + 1))).drewN 1)⟩

theorem l2OwV_4_1 (a b c u v y p st wt : Int) (R : Nat) (w : World) (h : Has w R 135 #[.int .i64 p, .int .i64 st, .int .i64 wt]) (hs : 0 ≤ st ∧ st ≤ 80) (hp : 0 ≤ p ∧ p ≤ 100) (hw : 0 ≤ wt ∧ wt ≤ 1000000000000000000) (ha : 0 ≤ a ∧ a ≤ 3) (hq : valueAt st a = 1) (hv : 0 ≤ v ∧ v ≤ 9) :
    Calls Try.prog 123 #[.pointer (some ⟨R, 0, none⟩), .agg #[.int .i64 4, .int .i64 a, .int .i64 b, .int .i64 c, .int .i64 u, .int .i64 v, .int .i64 y]] w (Owned w R (p + 1) st (wt * v)) := by
  have cA := Lib.hid (fun wx => l1At_v st a wx hs ha)
  rw [hq] at cA
  have hzz : 0 ≤ wt * v ∧ wt * v ≤ 9000000000000000000 := by
    have h1 := Int.mul_nonneg hw.1 hv.1
    have h2 : wt * v ≤ wt * 9 := Int.mul_le_mul_of_nonneg_left hv.2 hw.1
    omega
  have hz : IntKind.i64.wrap (wt * v) = wt * v := by rw [IntKind.wrap_i64]; omega
  have hc := h.cell
  have hf := h.frozen
  have hl := h.lt
  go_enter Try.func123, Try.ntmps123
  go_wp2_with fail
  go_quiet ((go_at_call 110; exact Calls.quiet_of_same (cA.out _)))
  go_wp2_with fail
  have hRW := (h.alloc (.cells #[.int .i64 4, .int .i64 a, .int .i64 b, .int .i64 c, .int .i64 u, .int .i64 v, .int .i64 y] 78)).drewN nq
  have hSW := (Has.new w 78 #[.int .i64 4, .int .i64 a, .int .i64 b, .int .i64 c, .int .i64 u, .int .i64 v, .int .i64 y]).drewN nq
  have hCW : Chg w ((w.alloc (.cells #[.int .i64 4, .int .i64 a, .int .i64 b, .int .i64 c, .int .i64 u, .int .i64 v, .int .i64 y] 78)).drewN nq) R := ((Chg.refl w R).alloc _).drewN nq
  have hgt : R ≠ w.heap.size := by omega
  generalize World.drewN (w.alloc (.cells #[.int .i64 4, .int .i64 a, .int .i64 b, .int .i64 c, .int .i64 u, .int .i64 v, .int .i64 y] 78)) nq = W2 at hRW hSW hCW ⊢
  generalize w.heap.size = G at hSW hgt ⊢
  clear hc hf
  have hc := hRW.cell
  have hf := hRW.frozen
  have hs2 := hSW.cell
  go_still_tail 12, (by kernel_rfl)
  change wpList _ _ _ _ _ W2.drew
  go_wp2
  go_end0
  have hE := ((hRW.put 2 (.int .i64 (wt * v))).put 0 (.int .i64 (p + 1)))
  exact ⟨rfl, hE, (((hCW.put 2 (.int .i64 (wt * v))).put 0 (.int .i64 (p + 1))).drewN 1)⟩

theorem l2OwV_4_2 (a b c u v y p st wt : Int) (R : Nat) (w : World) (h : Has w R 135 #[.int .i64 p, .int .i64 st, .int .i64 wt]) (hs : 0 ≤ st ∧ st ≤ 80) (hp : 0 ≤ p ∧ p ≤ 100) (hw : 0 ≤ wt ∧ wt ≤ 1000000000000000000) (ha : 0 ≤ a ∧ a ≤ 3) (hq : valueAt st a = 2) (hv : 0 ≤ y ∧ y ≤ 9) :
    Calls Try.prog 123 #[.pointer (some ⟨R, 0, none⟩), .agg #[.int .i64 4, .int .i64 a, .int .i64 b, .int .i64 c, .int .i64 u, .int .i64 v, .int .i64 y]] w (Owned w R (p + 1) st (wt * y)) := by
  have cA := Lib.hid (fun wx => l1At_v st a wx hs ha)
  rw [hq] at cA
  have hzz : 0 ≤ wt * y ∧ wt * y ≤ 9000000000000000000 := by
    have h1 := Int.mul_nonneg hw.1 hv.1
    have h2 : wt * y ≤ wt * 9 := Int.mul_le_mul_of_nonneg_left hv.2 hw.1
    omega
  have hz : IntKind.i64.wrap (wt * y) = wt * y := by rw [IntKind.wrap_i64]; omega
  have hc := h.cell
  have hf := h.frozen
  have hl := h.lt
  go_enter Try.func123, Try.ntmps123
  go_wp2_with fail
  go_quiet ((go_at_call 110; exact Calls.quiet_of_same (cA.out _)))
  go_wp2_with fail
  have hRW := (h.alloc (.cells #[.int .i64 4, .int .i64 a, .int .i64 b, .int .i64 c, .int .i64 u, .int .i64 v, .int .i64 y] 78)).drewN nq
  have hSW := (Has.new w 78 #[.int .i64 4, .int .i64 a, .int .i64 b, .int .i64 c, .int .i64 u, .int .i64 v, .int .i64 y]).drewN nq
  have hCW : Chg w ((w.alloc (.cells #[.int .i64 4, .int .i64 a, .int .i64 b, .int .i64 c, .int .i64 u, .int .i64 v, .int .i64 y] 78)).drewN nq) R := ((Chg.refl w R).alloc _).drewN nq
  have hgt : R ≠ w.heap.size := by omega
  generalize World.drewN (w.alloc (.cells #[.int .i64 4, .int .i64 a, .int .i64 b, .int .i64 c, .int .i64 u, .int .i64 v, .int .i64 y] 78)) nq = W2 at hRW hSW hCW ⊢
  generalize w.heap.size = G at hSW hgt ⊢
  clear hc hf
  have hc := hRW.cell
  have hf := hRW.frozen
  have hs2 := hSW.cell
  go_still_tail 12, (by kernel_rfl)
  change wpList _ _ _ _ _ W2.drew
  go_wp2
  go_end0
  have hE := ((hRW.put 2 (.int .i64 (wt * y))).put 0 (.int .i64 (p + 1)))
  exact ⟨rfl, hE, (((hCW.put 2 (.int .i64 (wt * y))).put 0 (.int .i64 (p + 1))).drewN 1)⟩

theorem l2OwV_5_0 (a b c u v y p st wt : Int) (R : Nat) (w : World) (h : Has w R 135 #[.int .i64 p, .int .i64 st, .int .i64 wt]) (hs : 0 ≤ st ∧ st ≤ 80) (hp : 0 ≤ p ∧ p ≤ 100) (hw : 0 ≤ wt ∧ wt ≤ 1000000000000000000) (ha : 0 ≤ a ∧ a ≤ 3) (hb : 0 ≤ b ∧ b ≤ 3) (hq : (valueAt st a + valueAt st b) % 3 = 0) (hv : 0 ≤ u ∧ u ≤ 9) :
    Calls Try.prog 123 #[.pointer (some ⟨R, 0, none⟩), .agg #[.int .i64 5, .int .i64 a, .int .i64 b, .int .i64 c, .int .i64 u, .int .i64 v, .int .i64 y]] w (Owned w R (p + 1) st (wt * u)) := by
  have cA := Lib.hid (fun wx => l1At_v st a wx hs ha)
  have hma := valueAt_in hs ha
  have hmb := valueAt_in hs hb
  have hsum : IntKind.i64.wrap (valueAt st a + valueAt st b) = valueAt st a + valueAt st b := by rw [IntKind.wrap_i64]; omega
  have hmod : (valueAt st a + valueAt st b).tmod 3 = 0 := (Int.tmod_eq_emod_of_nonneg (by omega)).trans hq
  have hzz : 0 ≤ wt * u ∧ wt * u ≤ 9000000000000000000 := by
    have h1 := Int.mul_nonneg hw.1 hv.1
    have h2 : wt * u ≤ wt * 9 := Int.mul_le_mul_of_nonneg_left hv.2 hw.1
    omega
  have hz : IntKind.i64.wrap (wt * u) = wt * u := by rw [IntKind.wrap_i64]; omega
  have hc := h.cell
  have hf := h.frozen
  have hl := h.lt
  go_enter Try.func123, Try.ntmps123
  go_wp2_with fail
  go_quiet ((go_at_call 110; exact Calls.quiet_of_same (cA.out _)))
  go_wp2_with fail
  have hRW := (h.alloc (.cells #[.int .i64 5, .int .i64 a, .int .i64 b, .int .i64 c, .int .i64 u, .int .i64 v, .int .i64 y] 78)).drewN nq
  have hSW := (Has.new w 78 #[.int .i64 5, .int .i64 a, .int .i64 b, .int .i64 c, .int .i64 u, .int .i64 v, .int .i64 y]).drewN nq
  have hCW : Chg w ((w.alloc (.cells #[.int .i64 5, .int .i64 a, .int .i64 b, .int .i64 c, .int .i64 u, .int .i64 v, .int .i64 y] 78)).drewN nq) R := ((Chg.refl w R).alloc _).drewN nq
  have hgt : R ≠ w.heap.size := by omega
  generalize World.drewN (w.alloc (.cells #[.int .i64 5, .int .i64 a, .int .i64 b, .int .i64 c, .int .i64 u, .int .i64 v, .int .i64 y] 78)) nq = W2 at hRW hSW hCW ⊢
  generalize w.heap.size = G at hSW hgt ⊢
  clear hc hf
  have hc := hRW.cell
  have hf := hRW.frozen
  have hs2 := hSW.cell
  go_still_tail 21, (by kernel_rfl)
  still_call (l1At_v st b W2.drew hs hb)
  repeat still_step
  refine wpStill_nil ?_
  change wpList _ _ _ _ _ W2.drew
  go_wp2
  go_end0
  have hE := ((hRW.put 2 (.int .i64 (wt * u))).put 0 (.int .i64 (p + 1)))
  exact ⟨rfl, hE, (((hCW.put 2 (.int .i64 (wt * u))).put 0 (.int .i64 (p + 1))).drewN 1)⟩

theorem l2OwV_5_1 (a b c u v y p st wt : Int) (R : Nat) (w : World) (h : Has w R 135 #[.int .i64 p, .int .i64 st, .int .i64 wt]) (hs : 0 ≤ st ∧ st ≤ 80) (hp : 0 ≤ p ∧ p ≤ 100) (hw : 0 ≤ wt ∧ wt ≤ 1000000000000000000) (ha : 0 ≤ a ∧ a ≤ 3) (hb : 0 ≤ b ∧ b ≤ 3) (hq : (valueAt st a + valueAt st b) % 3 = 1) (hv : 0 ≤ v ∧ v ≤ 9) :
    Calls Try.prog 123 #[.pointer (some ⟨R, 0, none⟩), .agg #[.int .i64 5, .int .i64 a, .int .i64 b, .int .i64 c, .int .i64 u, .int .i64 v, .int .i64 y]] w (Owned w R (p + 1) st (wt * v)) := by
  have cA := Lib.hid (fun wx => l1At_v st a wx hs ha)
  have hma := valueAt_in hs ha
  have hmb := valueAt_in hs hb
  have hsum : IntKind.i64.wrap (valueAt st a + valueAt st b) = valueAt st a + valueAt st b := by rw [IntKind.wrap_i64]; omega
  have hmod : (valueAt st a + valueAt st b).tmod 3 = 1 := (Int.tmod_eq_emod_of_nonneg (by omega)).trans hq
  have hzz : 0 ≤ wt * v ∧ wt * v ≤ 9000000000000000000 := by
    have h1 := Int.mul_nonneg hw.1 hv.1
    have h2 : wt * v ≤ wt * 9 := Int.mul_le_mul_of_nonneg_left hv.2 hw.1
    omega
  have hz : IntKind.i64.wrap (wt * v) = wt * v := by rw [IntKind.wrap_i64]; omega
  have hc := h.cell
  have hf := h.frozen
  have hl := h.lt
  go_enter Try.func123, Try.ntmps123
  go_wp2_with fail
  go_quiet ((go_at_call 110; exact Calls.quiet_of_same (cA.out _)))
  go_wp2_with fail
  have hRW := (h.alloc (.cells #[.int .i64 5, .int .i64 a, .int .i64 b, .int .i64 c, .int .i64 u, .int .i64 v, .int .i64 y] 78)).drewN nq
  have hSW := (Has.new w 78 #[.int .i64 5, .int .i64 a, .int .i64 b, .int .i64 c, .int .i64 u, .int .i64 v, .int .i64 y]).drewN nq
  have hCW : Chg w ((w.alloc (.cells #[.int .i64 5, .int .i64 a, .int .i64 b, .int .i64 c, .int .i64 u, .int .i64 v, .int .i64 y] 78)).drewN nq) R := ((Chg.refl w R).alloc _).drewN nq
  have hgt : R ≠ w.heap.size := by omega
  generalize World.drewN (w.alloc (.cells #[.int .i64 5, .int .i64 a, .int .i64 b, .int .i64 c, .int .i64 u, .int .i64 v, .int .i64 y] 78)) nq = W2 at hRW hSW hCW ⊢
  generalize w.heap.size = G at hSW hgt ⊢
  clear hc hf
  have hc := hRW.cell
  have hf := hRW.frozen
  have hs2 := hSW.cell
  go_still_tail 21, (by kernel_rfl)
  still_call (l1At_v st b W2.drew hs hb)
  repeat still_step
  refine wpStill_nil ?_
  change wpList _ _ _ _ _ W2.drew
  go_wp2
  go_end0
  have hE := ((hRW.put 2 (.int .i64 (wt * v))).put 0 (.int .i64 (p + 1)))
  exact ⟨rfl, hE, (((hCW.put 2 (.int .i64 (wt * v))).put 0 (.int .i64 (p + 1))).drewN 1)⟩

theorem l2OwV_5_2 (a b c u v y p st wt : Int) (R : Nat) (w : World) (h : Has w R 135 #[.int .i64 p, .int .i64 st, .int .i64 wt]) (hs : 0 ≤ st ∧ st ≤ 80) (hp : 0 ≤ p ∧ p ≤ 100) (hw : 0 ≤ wt ∧ wt ≤ 1000000000000000000) (ha : 0 ≤ a ∧ a ≤ 3) (hb : 0 ≤ b ∧ b ≤ 3) (hq : (valueAt st a + valueAt st b) % 3 = 2) (hv : 0 ≤ y ∧ y ≤ 9) :
    Calls Try.prog 123 #[.pointer (some ⟨R, 0, none⟩), .agg #[.int .i64 5, .int .i64 a, .int .i64 b, .int .i64 c, .int .i64 u, .int .i64 v, .int .i64 y]] w (Owned w R (p + 1) st (wt * y)) := by
  have cA := Lib.hid (fun wx => l1At_v st a wx hs ha)
  have hma := valueAt_in hs ha
  have hmb := valueAt_in hs hb
  have hsum : IntKind.i64.wrap (valueAt st a + valueAt st b) = valueAt st a + valueAt st b := by rw [IntKind.wrap_i64]; omega
  have hmod : (valueAt st a + valueAt st b).tmod 3 = 2 := (Int.tmod_eq_emod_of_nonneg (by omega)).trans hq
  have hzz : 0 ≤ wt * y ∧ wt * y ≤ 9000000000000000000 := by
    have h1 := Int.mul_nonneg hw.1 hv.1
    have h2 : wt * y ≤ wt * 9 := Int.mul_le_mul_of_nonneg_left hv.2 hw.1
    omega
  have hz : IntKind.i64.wrap (wt * y) = wt * y := by rw [IntKind.wrap_i64]; omega
  have hc := h.cell
  have hf := h.frozen
  have hl := h.lt
  go_enter Try.func123, Try.ntmps123
  go_wp2_with fail
  go_quiet ((go_at_call 110; exact Calls.quiet_of_same (cA.out _)))
  go_wp2_with fail
  have hRW := (h.alloc (.cells #[.int .i64 5, .int .i64 a, .int .i64 b, .int .i64 c, .int .i64 u, .int .i64 v, .int .i64 y] 78)).drewN nq
  have hSW := (Has.new w 78 #[.int .i64 5, .int .i64 a, .int .i64 b, .int .i64 c, .int .i64 u, .int .i64 v, .int .i64 y]).drewN nq
  have hCW : Chg w ((w.alloc (.cells #[.int .i64 5, .int .i64 a, .int .i64 b, .int .i64 c, .int .i64 u, .int .i64 v, .int .i64 y] 78)).drewN nq) R := ((Chg.refl w R).alloc _).drewN nq
  have hgt : R ≠ w.heap.size := by omega
  generalize World.drewN (w.alloc (.cells #[.int .i64 5, .int .i64 a, .int .i64 b, .int .i64 c, .int .i64 u, .int .i64 v, .int .i64 y] 78)) nq = W2 at hRW hSW hCW ⊢
  generalize w.heap.size = G at hSW hgt ⊢
  clear hc hf
  have hc := hRW.cell
  have hf := hRW.frozen
  have hs2 := hSW.cell
  go_still_tail 21, (by kernel_rfl)
  still_call (l1At_v st b W2.drew hs hb)
  repeat still_step
  refine wpStill_nil ?_
  change wpList _ _ _ _ _ W2.drew
  go_wp2
  go_end0
  have hE := ((hRW.put 2 (.int .i64 (wt * y))).put 0 (.int .i64 (p + 1)))
  exact ⟨rfl, hE, (((hCW.put 2 (.int .i64 (wt * y))).put 0 (.int .i64 (p + 1))).drewN 1)⟩

theorem l2OwV_6y (a b c u v y p st wt : Int) (R : Nat) (w : World) (h : Has w R 135 #[.int .i64 p, .int .i64 st, .int .i64 wt]) (hs : 0 ≤ st ∧ st ≤ 80) (hp : 0 ≤ p ∧ p ≤ 100) (hw : 0 ≤ wt ∧ wt ≤ 1000000000000000000) (ha : 0 ≤ a ∧ a ≤ 3) (hb : 0 ≤ b ∧ b ≤ 12) (hq : valueAt st a = c) :
    Calls Try.prog 123 #[.pointer (some ⟨R, 0, none⟩), .agg #[.int .i64 6, .int .i64 a, .int .i64 b, .int .i64 c, .int .i64 u, .int .i64 v, .int .i64 y]] w (Owned w R (p + b + 1) st wt) := by
  subst hq
  have cA := Lib.hid (fun wx => l1At_v st a wx hs ha)
  have hc := h.cell
  have hf := h.frozen
  have hl := h.lt
  go_enter Try.func123, Try.ntmps123
  go_wp2_with fail
  go_quiet ((go_at_call 110; exact Calls.quiet_of_same (cA.out _)))
  go_wp2_with fail
  have hRW := (h.alloc (.cells #[.int .i64 6, .int .i64 a, .int .i64 b, .int .i64 (valueAt st a), .int .i64 u, .int .i64 v, .int .i64 y] 78)).drewN nq
  have hSW := (Has.new w 78 #[.int .i64 6, .int .i64 a, .int .i64 b, .int .i64 (valueAt st a), .int .i64 u, .int .i64 v, .int .i64 y]).drewN nq
  have hCW : Chg w ((w.alloc (.cells #[.int .i64 6, .int .i64 a, .int .i64 b, .int .i64 (valueAt st a), .int .i64 u, .int .i64 v, .int .i64 y] 78)).drewN nq) R := ((Chg.refl w R).alloc _).drewN nq
  have hgt : R ≠ w.heap.size := by omega
  generalize World.drewN (w.alloc (.cells #[.int .i64 6, .int .i64 a, .int .i64 b, .int .i64 (valueAt st a), .int .i64 u, .int .i64 v, .int .i64 y] 78)) nq = W2 at hRW hSW hCW ⊢
  generalize w.heap.size = G at hSW hgt ⊢
  clear hc hf
  have hc := hRW.cell
  have hf := hRW.frozen
  have hs2 := hSW.cell
  go_still_tail 10, (by kernel_rfl)
  change wpList _ _ _ _ _ W2.drew
  go_wp2
  go_end0
  have hE := ((hRW.put 0 (.int .i64 (p + b))).put 0 (.int .i64 (p + b + 1)))
  exact ⟨rfl, hE, (((hCW.put 0 (.int .i64 (p + b))).put 0 (.int .i64 (p + b + 1))).drewN 1)⟩

theorem l2OwV_6n (a b c u v y p st wt : Int) (R : Nat) (w : World) (h : Has w R 135 #[.int .i64 p, .int .i64 st, .int .i64 wt]) (hs : 0 ≤ st ∧ st ≤ 80) (hp : 0 ≤ p ∧ p ≤ 100) (hw : 0 ≤ wt ∧ wt ≤ 1000000000000000000) (ha : 0 ≤ a ∧ a ≤ 3) (hq : valueAt st a ≠ c) :
    Calls Try.prog 123 #[.pointer (some ⟨R, 0, none⟩), .agg #[.int .i64 6, .int .i64 a, .int .i64 b, .int .i64 c, .int .i64 u, .int .i64 v, .int .i64 y]] w (Owned w R (p + 1) st wt) := by
  have cA := Lib.hid (fun wx => l1At_v st a wx hs ha)
  have hq' : (valueAt st a == c) = false := by simpa using hq
  clear hq
  have hc := h.cell
  have hf := h.frozen
  have hl := h.lt
  go_enter Try.func123, Try.ntmps123
  go_wp2_with fail
  go_quiet ((go_at_call 110; exact Calls.quiet_of_same (cA.out _)))
  go_wp2_with fail
  have hRW := (h.alloc (.cells #[.int .i64 6, .int .i64 a, .int .i64 b, .int .i64 c, .int .i64 u, .int .i64 v, .int .i64 y] 78)).drewN nq
  have hSW := (Has.new w 78 #[.int .i64 6, .int .i64 a, .int .i64 b, .int .i64 c, .int .i64 u, .int .i64 v, .int .i64 y]).drewN nq
  have hCW : Chg w ((w.alloc (.cells #[.int .i64 6, .int .i64 a, .int .i64 b, .int .i64 c, .int .i64 u, .int .i64 v, .int .i64 y] 78)).drewN nq) R := ((Chg.refl w R).alloc _).drewN nq
  have hgt : R ≠ w.heap.size := by omega
  generalize World.drewN (w.alloc (.cells #[.int .i64 6, .int .i64 a, .int .i64 b, .int .i64 c, .int .i64 u, .int .i64 v, .int .i64 y] 78)) nq = W2 at hRW hSW hCW ⊢
  generalize w.heap.size = G at hSW hgt ⊢
  clear hc hf
  have hc := hRW.cell
  have hf := hRW.frozen
  have hs2 := hSW.cell
  go_wp2
  go_end0
  have hE := (hRW.put 0 (.int .i64 (p + 1)))
  exact ⟨rfl, hE, (hCW.put 0 (.int .i64 (p + 1)))⟩

theorem l2OwV_any (s : St) (r : Rn) (R : Nat) (w : World) (hs : s.ok = true) (hd : s.draws = false) (h7 : s.notLoop = true) (hst : 0 ≤ r.st ∧ r.st ≤ 80) (hww : 0 ≤ r.wt ∧ r.wt ≤ 1000000000000000000) (hp : r.pos ≤ 12) (h : Has w R 135 #[.int .i64 r.pos, .int .i64 r.st, .int .i64 r.wt]) :
    Calls Try.prog 123 #[.pointer (some ⟨R, 0, none⟩), .agg #[.int .i64 s.k, .int .i64 s.a, .int .i64 s.b, .int .i64 s.c, .int .i64 s.u, .int .i64 s.v, .int .i64 s.x]] w (Owned w R (Rn.step s r 0).pos (Rn.step s r 0).st (Rn.step s r 0).wt) := by
  have hpp : 0 ≤ (r.pos : Int) ∧ (r.pos : Int) ≤ 100 := by omega
  obtain ⟨k, a, b, c, u, v, y⟩ := s
  rcases ok_rng hs with ⟨rfl, h1, h2, h3, h4, h5, h6⟩ | ⟨rfl, h1, h2, h3, h4, h5⟩ | ⟨rfl, h1, h2, h3⟩ | ⟨rfl, h1, h2, h3, h4, h5⟩ | ⟨rfl, h1, h2, h3⟩ | ⟨rfl, h1, h2, h3, h4, h5⟩ | ⟨rfl, h1, h2, h3, h4, h5, h6⟩ | ⟨rfl, h1, h2, h3, h4, h5⟩
  · by_cases hb : b = -1
    · exact owned_eq (l2OwV_0n a b c u v y r.pos r.st r.wt R w h hst hpp hww ⟨h1, h2⟩ hb ⟨h5, h6⟩) (by simp [Rn.step, St.jump]) (by simp [Rn.step, St.next, hb]; rw [mod3 ⟨h5, h6⟩]) (by simp [Rn.step, St.fac])
    · exact owned_eq (l2OwV_0b a b c u v y r.pos r.st r.wt R w h hst hpp hww ⟨h1, h2⟩ ⟨by omega, h4⟩ ⟨h5, h6⟩) (by simp [Rn.step, St.jump]) (by simp [Rn.step, St.next, hb]) (by simp [Rn.step, St.fac])
  · exact owned_eq (l2OwV_1 a b c u v y r.pos r.st r.wt R w h hst hpp hww ⟨h1, h2⟩ ⟨h3, h4⟩) (by simp [Rn.step, St.jump]) (by simp [Rn.step, St.next]) (by simp [Rn.step, St.fac])
  · simp [St.draws] at hd
  · simp [St.draws] at hd
  · rw [ok_4] at hs
    have hw := wok_bd (by simp at hs; exact hs.2)
    have hv := valueAt_in hst ⟨h1, h2⟩
    obtain hq | hq | hq : valueAt r.st a = 0 ∨ valueAt r.st a = 1 ∨ valueAt r.st a = 2 := by omega
    · exact owned_eq (l2OwV_4_0 a b c u v y r.pos r.st r.wt R w h hst hpp hww ⟨h1, h2⟩ hq hw.1) (by simp [Rn.step, St.jump]) (by simp [Rn.step, St.next]) (by simp [Rn.step, St.fac, St.next, hq, St.wgt])
    · exact owned_eq (l2OwV_4_1 a b c u v y r.pos r.st r.wt R w h hst hpp hww ⟨h1, h2⟩ hq hw.2.1) (by simp [Rn.step, St.jump]) (by simp [Rn.step, St.next]) (by simp [Rn.step, St.fac, St.next, hq, St.wgt])
    · exact owned_eq (l2OwV_4_2 a b c u v y r.pos r.st r.wt R w h hst hpp hww ⟨h1, h2⟩ hq hw.2.2) (by simp [Rn.step, St.jump]) (by simp [Rn.step, St.next]) (by simp [Rn.step, St.fac, St.next, hq, St.wgt])
  · rw [ok_5] at hs
    have hw := wok_bd (by simp at hs; exact hs.2)
    obtain hq | hq | hq : (valueAt r.st a + valueAt r.st b) % 3 = 0 ∨ (valueAt r.st a + valueAt r.st b) % 3 = 1 ∨ (valueAt r.st a + valueAt r.st b) % 3 = 2 := by omega
    · exact owned_eq (l2OwV_5_0 a b c u v y r.pos r.st r.wt R w h hst hpp hww ⟨h1, h2⟩ ⟨h3, h4⟩ hq hw.1) (by simp [Rn.step, St.jump]) (by simp [Rn.step, St.next]) (by simp [Rn.step, St.fac, St.next, hq, St.wgt])
    · exact owned_eq (l2OwV_5_1 a b c u v y r.pos r.st r.wt R w h hst hpp hww ⟨h1, h2⟩ ⟨h3, h4⟩ hq hw.2.1) (by simp [Rn.step, St.jump]) (by simp [Rn.step, St.next]) (by simp [Rn.step, St.fac, St.next, hq, St.wgt])
    · exact owned_eq (l2OwV_5_2 a b c u v y r.pos r.st r.wt R w h hst hpp hww ⟨h1, h2⟩ ⟨h3, h4⟩ hq hw.2.2) (by simp [Rn.step, St.jump]) (by simp [Rn.step, St.next]) (by simp [Rn.step, St.fac, St.next, hq, St.wgt])
  · by_cases hq : valueAt r.st a = c
    · exact owned_eq (l2OwV_6y a b c u v y r.pos r.st r.wt R w h hst hpp hww ⟨h1, h2⟩ ⟨by omega, h4⟩ hq) (by simp [Rn.step, St.jump, hq]; omega) (by simp [Rn.step, St.next]) (by simp [Rn.step, St.fac])
    · exact owned_eq (l2OwV_6n a b c u v y r.pos r.st r.wt R w h hst hpp hww ⟨h1, h2⟩ hq) (by simp [Rn.step, St.jump, hq]) (by simp [Rn.step, St.next]) (by simp [Rn.step, St.fac])
  · simp [St.notLoop] at h7

end Go.Proofs.Ytbndonfpdioibaa

namespace Go.Proofs.Ytbndonfpdioibaa
set_option maxRecDepth 100000
set_option linter.unusedVariables false
open Go.RowKit

/-- What an entry is, and rows with an entry made greater. -/
def ent (rs : List (List Int)) (i z : Nat) : Int := (rs.getD i []).getD z 0
def addc (rs : List (List Int)) (i z : Nat) (x : Int) : List (List Int) := rs.set i ((rs.getD i []).set z (ent rs i z + x))
/-- m rows and one more, of 81 entries each, none below 0. -/
def Rk (m : Nat) (rs : List (List Int)) : Prop := rs.length = m + 1 ∧ ∀ ds ∈ rs, ds.length = 81 ∧ ∀ x ∈ ds, 0 ≤ x
theorem Rk.at_ {m i : Nat} {rs : List (List Int)} (h : Rk m rs) (hi : i ≤ m) : rs[i]? = some (rs.getD i []) ∧ (rs.getD i []).length = 81 ∧ ∀ x ∈ rs.getD i [], 0 ≤ x := by
  have hl : i < rs.length := by rw [h.1]; omega
  have e : rs[i]? = some (rs.getD i []) := by rw [List.getD_eq_getElem?_getD, List.getElem?_eq_getElem hl]; rfl
  exact ⟨e, h.2 _ (List.mem_of_getElem? e)⟩
theorem Rk.ent {m i z : Nat} {rs : List (List Int)} (h : Rk m rs) (hi : i ≤ m) (hz : z < 81) : (rs.getD i [])[z]? = some (ent rs i z) ∧ 0 ≤ ent rs i z := by
  obtain ⟨_, h1, h2⟩ := h.at_ hi
  have e : (rs.getD i [])[z]? = some (Go.Proofs.Ytbndonfpdioibaa.ent rs i z) := by unfold Go.Proofs.Ytbndonfpdioibaa.ent; rw [List.getD_eq_getElem?_getD (l := rs.getD i []), List.getElem?_eq_getElem (by omega)]; rfl
  exact ⟨e, h2 _ (List.mem_of_getElem? e)⟩
theorem Rk.add {m i z : Nat} {rs : List (List Int)} {x : Int} (h : Rk m rs) (hi : i ≤ m) (hz : z < 81) (hx : 0 ≤ x) : Rk m (addc rs i z x) := by
  obtain ⟨_, h1, h2⟩ := h.at_ hi
  have h3 := (h.ent hi hz).2
  refine ⟨by unfold addc; rw [List.length_set]; exact h.1, fun ds hd => ?_⟩
  unfold addc at hd
  rcases List.mem_or_eq_of_mem_set hd with hd | rfl
  · exact h.2 ds hd
  · refine ⟨by rw [List.length_set]; exact h1, fun y hy => ?_⟩
    rcases List.mem_or_eq_of_mem_set hy with hy | rfl
    · exact h2 y hy
    · omega
theorem addc_at {m i z : Nat} {rs : List (List Int)} {x : Int} (h : Rk m rs) (hi : i ≤ m) : (addc rs i z x).getD i [] = (rs.getD i []).set z (ent rs i z + x) := by
  unfold addc
  have hl : i < rs.length := by rw [h.1]; omega
  rw [List.getD_eq_getElem?_getD (l := rs.set i _), List.getElem?_set, if_pos rfl, if_pos hl]; rfl
theorem addc_ne {i j z : Nat} {rs : List (List Int)} {x : Int} (h : j ≠ i) : (addc rs i z x).getD j [] = rs.getD j [] := by
  unfold addc
  rw [List.getD_eq_getElem?_getD (l := rs.set i _), List.getElem?_set, if_neg (Ne.symm h), ← List.getD_eq_getElem?_getD]
/-- What n rows from i on are worth. -/
def tailM (V : Nat → Int → Int) (rs : List (List Int)) : Nat → Nat → Int
  | _, 0 => 0
  | i, n + 1 => rsum (V i) (rs.getD i []) 0 + tailM V rs (i + 1) n
theorem tailM_ne (V : Nat → Int → Int) {rs : List (List Int)} {j z : Nat} {x : Int} : ∀ (n i : Nat), j < i ∨ i + n ≤ j → tailM V (addc rs j z x) i n = tailM V rs i n
  | 0, i, _ => rfl
  | n + 1, i, h => by rw [tailM, tailM, tailM_ne V n (i + 1) (by omega), addc_ne (by omega)]
theorem tailM_add (V : Nat → Int → Int) {m : Nat} {rs : List (List Int)} {j z : Nat} {x : Int} (hr : Rk m rs) (hj : j ≤ m) (hz : z < 81) : ∀ (n i : Nat), i ≤ j → j < i + n → tailM V (addc rs j z x) i n = tailM V rs i n + x * V j z
  | 0, i, h1, h2 => by omega
  | n + 1, i, h1, h2 => by
    rw [tailM, tailM]
    by_cases hij : i = j
    · subst hij
      rw [addc_at hr hj, tailM_ne V n (i + 1) (by omega)]
      have e := rsum_set (V i) (rs.getD i []) z 0 x (by rw [(hr.at_ hj).2.1]; exact hz)
      rw [Nat.zero_add] at e
      unfold ent
      rw [e]; omega
    · rw [addc_ne hij, tailM_add V hr hj hz n (i + 1) (by omega) (by omega)]
      omega
theorem tailM_nonneg {V : Nat → Int → Int} {m : Nat} {rs : List (List Int)} (hr : Rk m rs) (hV : ∀ i st, 0 ≤ V i st) : ∀ (n i : Nat), 0 ≤ tailM V rs i n
  | 0, i => by simp [tailM]
  | n + 1, i => by
    have h2 := tailM_nonneg hr hV n (i + 1)
    rw [tailM]
    have h1 : 0 ≤ rsum (V i) (rs.getD i []) 0 := by
      by_cases hi : i ≤ m
      · exact rsum_nonneg (fun k => hV i k) 0 (hr.at_ hi).2.2
      · have e : rs.getD i [] = [] := by
          rw [List.getD_eq_getElem?_getD, List.getElem?_eq_none (by rw [hr.1]; omega)]; rfl
        rw [e]; simp [rsum]
    omega
theorem tailM_ge {V : Nat → Int → Int} {m : Nat} {rs : List (List Int)} (hr : Rk m rs) (hV : ∀ i st, 1 ≤ V i st) : ∀ (n i j : Nat), i ≤ j → j < i + n → ∀ x ∈ rs.getD j [], x ≤ tailM V rs i n
  | 0, i, j, h1, h2, x, hx => by omega
  | n + 1, i, j, h1, h2, x, hx => by
    have hn := tailM_nonneg hr (V := V) (fun i st => by have := hV i st; omega) n (i + 1)
    have hs : 0 ≤ rsum (V i) (rs.getD i []) 0 := by
      have := tailM_nonneg hr (V := V) (fun i st => by have := hV i st; omega) 1 i
      simpa [tailM] using this
    rw [tailM]
    by_cases hij : i = j
    · subst hij
      by_cases hi : i ≤ m
      · have := rsum_ge (v := V i) (fun k => hV i k) 0 (hr.at_ hi).2.2 x hx
        omega
      · have e : rs.getD i [] = [] := by
          rw [List.getD_eq_getElem?_getD, List.getElem?_eq_none (by rw [hr.1]; omega)]; rfl
        rw [e] at hx; simp at hx
    · have := tailM_ge hr hV n (i + 1) j (by omega) (by omega) x hx
      omega

/-- Behind a store into an entry. -/
theorem RowsV.put {w : World} {base : Nat} {v : Value} {rs : List (List Int)} {vs : List Value} {j z b c : Nat} {ds : List Int} {x : Int} (h : RowsV w base v rs vs) (ha : Apart vs) (hj : vs[j]? = some (.slice (some ⟨b, 0, none⟩) ds.length c)) (hd : rs[j]? = some ds) (hz : z < ds.length) :
    RowsV (w.setCell ⟨b, z, none⟩ (.int .i64 x)) base v (rs.set j (ds.set z x)) vs ∧ base ≤ b ∧ b < w.heap.size := by
  have hbj : (Value.slice (some ⟨b, 0, none⟩) ds.length c).ownBlock = some b := rfl
  obtain ⟨ds', hd', ho⟩ := h.2 j _ hj
  obtain rfl : ds = ds' := Option.some.inj (hd.symm.trans hd')
  have hk : KeptBut w (w.setCell ⟨b, z, none⟩ (.int .i64 x)) (fun i => i = b) := KeptBut.put (KeptBut.refl w (fun i => i = b)) (p := ⟨b, z, none⟩) (fun _ => rfl) _
  refine ⟨⟨?_, fun i y hy => ?_⟩, World.ownsRow.lt ho b hbj⟩
  · rw [List.length_set]
    refine owns_but h.1 hk fun k hkb e => ?_
    obtain ⟨c1, g1⟩ := owns_has h.1 hkb
    obtain ⟨c2, g2⟩ := owns_has ho hbj
    exact has_ne g2 g1 int_ne e.symm
  · rw [List.getElem?_set]
    by_cases hij : j = i
    · subst hij
      rw [if_pos rfl, if_pos (List.getElem?_eq_some_iff.1 hd).1]
      refine ⟨_, rfl, ?_⟩
      obtain rfl : Value.slice (some ⟨b, 0, none⟩) ds.length c = y := Option.some.inj (hj.symm.trans hy)
      unfold IOwn
      rw [List.length_set]
      exact owns_set ho hz
    · rw [if_neg hij]
      obtain ⟨es, he, ho2⟩ := h.2 i y hy
      refine ⟨es, he, ho2.but hk fun k hkb e => ?_⟩
      subst e
      rcases Nat.lt_or_ge i j with hlt | hge
      · exact ha i j _ _ hlt hy hj k hkb hbj
      · exact ha j i _ _ (by omega) hj hy k hbj hkb

/-- The row of one state. -/
def one81 (z : Nat) : List Int := (zs 81).set z 1
theorem l3One_any (z : Nat) (w : World) (hz : z < 81) :
    Calls Try.prog 187 #[.int .i64 z] w (Wtsd w (one81 z)) := by
  have hz0 : (0 : Int) ≤ (z : Int) := by omega
  have hz1 : (z : Int) < 81 := by omega
  go_enter Try.func187, Try.ntmps187
  go_wp2_with fail
  refine (l3Zeros_any _).mono ?_
  rintro e w1 ⟨v, rfl, hO, hb⟩
  have hO' : w1.ownsRow w.heap.size 3 1 v 81 (ints (zs 81)) := by
    unfold IOwn at hO
    rwa [zs_len] at hO
  obtain ⟨A, c, rfl, _, _⟩ := owns_form hO'
  obtain ⟨b, cur, rfl, hgb, hH, _, _, hcs, hcl⟩ := owns_open hO' (by decide)
  have hF := Lib.hid (show Wtsd w (one81 z) (.returned (.slice (some ⟨b, 0, none⟩) 81 c)) (w1.setCell ⟨b, z, none⟩ (.int .i64 1)) from
    ⟨_, rfl, by unfold IOwn one81; rw [List.length_set, zs_len]; exact owns_set hO' hz, Below.setCell hb (p := ⟨b, z, none⟩) hgb _⟩)
  have hc1 := hcl z (by omega)
  have hce : (ints (zs 81))[z]? = some (.int .i64 0) := ints_get (by unfold zs; rw [List.getElem?_replicate, if_pos hz])
  rw [hce] at hc1
  have hfz := hH.frozen
  clear hO hO' hb hcl hce hcs hH
  go_wp2_with fail
  go_ret
  exact hF.out
end Go.Proofs.Ytbndonfpdioibaa

namespace Go.Proofs.Ytbndonfpdioibaa
set_option maxRecDepth 100000
set_option linter.unusedVariables false
open Go.RowKit

def toM (m : Nat) (rs : List (List Int)) (r : Rn) : List (List Int) := addc rs (min r.pos m) r.st.toNat r.wt
/-- The rows behind the first d values of a statement. -/
def mD (m : Nat) (rs : List (List Int)) (s : St) (r : Rn) : Nat → List (List Int)
  | 0 => rs
  | d + 1 => toM m (mD m rs s r d) (Rn.step s r d)
theorem toM_ne {m t : Nat} {rs : List (List Int)} {r : Rn} (h : t < min r.pos m) : (toM m rs r).getD t [] = rs.getD t [] := addc_ne (by omega)
theorem toM_ok {m : Nat} {rs : List (List Int)} {r : Rn} (h : Rk m rs) (hs : 0 ≤ r.st ∧ r.st ≤ 80) (hw : 0 ≤ r.wt) : Rk m (toM m rs r) := h.add (Nat.min_le_right _ _) (by omega) hw
theorem toM_tail (V : Nat → Int → Int) {m i : Nat} {rs : List (List Int)} {r : Rn} (h : Rk m rs) (hs : 0 ≤ r.st ∧ r.st ≤ 80) (hi : i + 1 ≤ r.pos) (him : i < m) : tailM V (toM m rs r) (i + 1) (m - i) = tailM V rs (i + 1) (m - i) + r.wt * V (min r.pos m) r.st := by
  unfold toM
  rw [tailM_add V h (Nat.min_le_right _ _) (by omega) (m - i) (i + 1) (by omega) (by omega), Int.toNat_of_nonneg hs.1]
theorem toM_val {h : Int → Int} {os : List St} {i m : Nat} {rs : List (List Int)} {r : Rn} (hm : os.length = m) (hr : Rk m rs) (hs : 0 ≤ r.st ∧ r.st ≤ 80) (hi : i + 1 ≤ r.pos) (him : i < m) :
    tailM (valAt h os) (toM m rs r) (i + 1) (m - i) = tailM (valAt h os) rs (i + 1) (m - i) + valR h os r := by
  rw [toM_tail _ hr hs hi him]
  congr 1
  unfold valR
  rw [← hm, valAt_min]
theorem toM_bd {i m : Nat} {rs : List (List Int)} {r : Rn} (hr : Rk m rs) (hs : 0 ≤ r.st ∧ r.st ≤ 80) (hw : 0 ≤ r.wt) (hi : i + 1 ≤ r.pos) (him : i < m) :
    tailM (V2 m) (toM m rs r) (i + 1) (m - i) ≤ tailM (V2 m) rs (i + 1) (m - i) + r.wt * V2 m (i + 1) 0 := by
  rw [toM_tail _ hr hs hi him]
  have := Int.mul_le_mul_of_nonneg_left (V2_mono (m := m) (i := i + 1) (j := min r.pos m) (by omega) r.st 0) hw
  omega
theorem mD_le {m : Nat} {rs : List (List Int)} {s : St} {r : Rn} (him : r.pos < m) : ∀ (d t : Nat), t ≤ r.pos → (mD m rs s r d).getD t [] = rs.getD t []
  | 0, t, _ => rfl
  | d + 1, t, ht => by
    rw [mD, toM_ne (by have := step_pos s r (d : Int); omega), mD_le him d t ht]
theorem mD_ok {m : Nat} {rs : List (List Int)} {s : St} {r : Rn} (hok : s.ok = true) (hr : Rk m rs) (hs : 0 ≤ r.st ∧ r.st ≤ 80) (hw : 0 ≤ r.wt) : ∀ (d : Nat), d ≤ 3 → Rk m (mD m rs s r d)
  | 0, _ => hr
  | d + 1, hd => toM_ok (mD_ok hok hr hs hw d (by omega)) (next_bd hok hs (by omega)) (Int.mul_nonneg hw (fac_bd hok _).1)
theorem mD_bd {m : Nat} {rs : List (List Int)} {s : St} {r : Rn} (hok : s.ok = true) (hr : Rk m rs) (hs : 0 ≤ r.st ∧ r.st ≤ 80) (hw : 0 ≤ r.wt) (him : r.pos < m) : ∀ (d : Nat), d ≤ 3 → tailM (V2 m) (mD m rs s r d) (r.pos + 1) (m - r.pos) ≤ tailM (V2 m) rs (r.pos + 1) (m - r.pos) + d * (9 * r.wt * V2 m (r.pos + 1) 0)
  | 0, _ => by simp [mD]
  | d + 1, hd => by
    have ih := mD_bd hok hr hs hw him d (by omega)
    have hf := fac_bd hok (s.next r.st d)
    have h1 := toM_bd (rs := mD m rs s r d) (r := Rn.step s r d) (i := r.pos) (m := m) (mD_ok hok hr hs hw d (by omega)) (next_bd hok hs (by omega)) (Int.mul_nonneg hw hf.1) (by have := step_pos s r (d : Int); omega) him
    rw [mD]
    have h2 : (Rn.step s r d).wt * V2 m (r.pos + 1) 0 ≤ 9 * r.wt * V2 m (r.pos + 1) 0 := by
      refine Int.mul_le_mul_of_nonneg_right ?_ (by have := V2_ge m (r.pos + 1) 0; omega)
      show r.wt * s.fac (s.next r.st d) ≤ 9 * r.wt
      rw [Int.mul_comm 9 r.wt]
      exact Int.mul_le_mul_of_nonneg_left hf.2 hw
    have h3 : ((d + 1 : Nat) : Int) * (9 * r.wt * V2 m (r.pos + 1) 0) = d * (9 * r.wt * V2 m (r.pos + 1) 0) + 9 * r.wt * V2 m (r.pos + 1) 0 := by
      rw [Int.natCast_succ, Int.add_mul, Int.one_mul]
    omega
theorem mD_val {h : Int → Int} {os : List St} {m : Nat} {rs : List (List Int)} {s : St} {r : Rn} (hm : os.length = m) (hok : s.ok = true) (hr : Rk m rs) (hs : 0 ≤ r.st ∧ r.st ≤ 80) (hw : 0 ≤ r.wt) (him : r.pos < m) (hso : os[r.pos]? = some s) :
    tailM (valAt h os) (mD m rs s r s.many) (r.pos + 1) (m - r.pos) = tailM (valAt h os) rs (r.pos + 1) (m - r.pos) + r.wt * valAt h os r.pos r.st := by
  have key : ∀ (d : Nat), d ≤ 2 → tailM (valAt h os) (toM m (mD m rs s r d) (Rn.step s r d)) (r.pos + 1) (m - r.pos) = tailM (valAt h os) (mD m rs s r d) (r.pos + 1) (m - r.pos) + valR h os (Rn.step s r d) := fun d hd =>
    toM_val hm (mD_ok hok hr hs hw d (by omega)) (next_bd hok hs (by omega)) (by have := step_pos s r (d : Int); omega) him
  have e : r.wt * valAt h os r.pos r.st = valR h os r := rfl
  rw [e]
  have k0 := key 0 (by decide)
  have k1 := key 1 (by decide)
  have k2 := key 2 (by decide)
  unfold St.many
  cases hd : s.draws
  · rw [if_neg (by simp)]
    rw [valR_own hso hd]
    exact k0
  · rw [if_pos rfl]
    rw [valR_draw hso hd]
    have e0 : mD m rs s r 1 = toM m (mD m rs s r 0) (Rn.step s r ((0 : Nat) : Int)) := rfl
    have e1 : mD m rs s r 2 = toM m (mD m rs s r 1) (Rn.step s r ((1 : Nat) : Int)) := rfl
    have e2 : mD m rs s r 3 = toM m (mD m rs s r 2) (Rn.step s r ((2 : Nat) : Int)) := rfl
    rw [e2, k2, e1, k1, e0, k0]
    have q0 : valR h os (Rn.step s r ((0 : Nat) : Int)) = valR h os (Rn.step s r 0) := rfl
    have q1 : valR h os (Rn.step s r ((1 : Nat) : Int)) = valR h os (Rn.step s r 1) := rfl
    have q2 : valR h os (Rn.step s r ((2 : Nat) : Int)) = valR h os (Rn.step s r 2) := rfl
    rw [q0, q1, q2]
    show tailM (valAt h os) rs (r.pos + 1) (m - r.pos) + _ + _ + _ = _
    omega

/-- What stands behind z entries of row i. -/
def Mst (os : List St) (m : Nat) (T : (Int → Int) → Int) (i z : Nat) (rs : List (List Int)) : Prop :=
  Rk m rs ∧ (∀ h, rsum (valAt h os i) ((rs.getD i []).drop z) z + tailM (valAt h os) rs (i + 1) (m - i) = T h) ∧ rsum (V2 m i) ((rs.getD i []).drop z) z + tailM (V2 m) rs (i + 1) (m - i) ≤ 1000000000000000000
theorem rsum_drop {m i z : Nat} {rs : List (List Int)} (hr : Rk m rs) (hi : i ≤ m) (hz : z < 81) (v : Int → Int) : rsum v ((rs.getD i []).drop z) z = ent rs i z * v z + rsum v ((rs.getD i []).drop (z + 1)) (z + 1) := by
  obtain ⟨h1, _⟩ := hr.ent hi hz
  obtain ⟨hl, he⟩ := List.getElem?_eq_some_iff.1 h1
  rw [List.drop_eq_getElem_cons hl, he]; rfl
theorem drop_nonneg {m i z : Nat} {rs : List (List Int)} (hr : Rk m rs) (hi : i ≤ m) : ∀ x ∈ (rs.getD i []).drop z, 0 ≤ x := fun x hx => (hr.at_ hi).2.2 x (List.mem_of_mem_drop hx)
theorem Mst.skip {os : List St} {m i z : Nat} {T : (Int → Int) → Int} {rs : List (List Int)} (h : Mst os m T i z rs) (hi : i ≤ m) (hz : z < 81) (h0 : ent rs i z = 0) : Mst os m T i (z + 1) rs := by
  obtain ⟨hr, hT, hV⟩ := h
  refine ⟨hr, fun q => ?_, ?_⟩
  · rw [← hT q, rsum_drop hr hi hz, h0]; omega
  · rw [rsum_drop hr hi hz, h0] at hV; omega
theorem Mst.next {os : List St} {m i : Nat} {T : (Int → Int) → Int} {rs : List (List Int)} (h : Mst os m T i 81 rs) (hi : i < m) : Mst os m T (i + 1) 0 rs := by
  obtain ⟨hr, hT, hV⟩ := h
  have e : (rs.getD i []).drop 81 = [] := List.drop_eq_nil_of_le (by rw [(hr.at_ (by omega)).2.1]; exact Nat.le_refl _)
  have key : ∀ V : Nat → Int → Int, tailM V rs (i + 1) (m - i) = rsum (V (i + 1)) (rs.getD (i + 1) []) 0 + tailM V rs (i + 1 + 1) (m - (i + 1)) := fun V => by
    rw [show m - i = m - (i + 1) + 1 by omega, tailM]
  refine ⟨hr, fun q => ?_, ?_⟩
  · rw [← hT q, e, key, List.drop_zero]; simp [rsum]
  · rw [e, key] at hV
    rw [List.drop_zero]
    simpa [rsum] using hV
/-- What is known of an entry that is some, and of the rows behind each of the values. -/
theorem Mst.cap {os : List St} {m i z : Nat} {T : (Int → Int) → Int} {rs : List (List Int)} {s : St} (h : Mst os m T i z rs) (hok : s.ok = true) (hi : i < m) (hz : z < 81) :
    0 ≤ ent rs i z ∧ ent rs i z * 27 ≤ 1000000000000000000 ∧ ∀ d, d ≤ 3 → Rk m (mD m rs s ⟨i, z, ent rs i z⟩ d) ∧ ∀ t, i < t → t ≤ m → ∀ y, y < 81 → ent (mD m rs s ⟨i, z, ent rs i z⟩ d) t y ≤ 1000000000000000000 := by
  obtain ⟨hr, _, hV⟩ := h
  rw [rsum_drop hr (by omega) hz] at hV
  obtain ⟨_, hu⟩ := hr.ent (i := i) (by omega) hz
  have hd0 := rsum_nonneg (v := V2 m i) (fun k => by have := V2_ge m i k; omega) (z + 1) (drop_nonneg (z := z + 1) hr (show i ≤ m by omega))
  have ht0 := tailM_nonneg hr (V := V2 m) (fun i st => by have := V2_ge m i st; omega) (m - i) (i + 1)
  have hV1 := V2_succ hi z 0
  have hV2 := V2_ge m (i + 1) 0
  have h27 : ent rs i z * 27 ≤ ent rs i z * V2 m i z := Int.mul_le_mul_of_nonneg_left (by omega) hu
  refine ⟨hu, by omega, fun d hd => ?_⟩
  have hk := mD_ok (r := ⟨i, z, ent rs i z⟩) hok hr (by show 0 ≤ (z : Int) ∧ (z : Int) ≤ 80; omega) hu d hd
  refine ⟨hk, fun t ht htm y hy => ?_⟩
  have h1 := mD_bd (r := ⟨i, z, ent rs i z⟩) hok hr (by show 0 ≤ (z : Int) ∧ (z : Int) ≤ 80; omega) hu hi d hd
  have h2 := tailM_ge hk (V2_ge m) (m - i) (i + 1) t (by omega) (by omega) _ (List.mem_of_getElem? (hk.ent htm hy).1)
  have h3 : (d : Int) * (9 * ent rs i z * V2 m (i + 1) 0) ≤ 3 * (9 * ent rs i z * V2 m (i + 1) 0) := Int.mul_le_mul_of_nonneg_right (by omega) (Int.mul_nonneg (by omega) (by omega))
  have h4 : 3 * (9 * ent rs i z * V2 m (i + 1) 0) = ent rs i z * V2 m i z := by
    rw [hV1, ← Int.mul_assoc 3, ← Int.mul_assoc 3, ← Int.mul_assoc (ent rs i z), Int.mul_comm (ent rs i z) 27]
    rfl
  have h1' : tailM (V2 m) (mD m rs s ⟨i, z, ent rs i z⟩ d) (i + 1) (m - i) ≤ tailM (V2 m) rs (i + 1) (m - i) + d * (9 * ent rs i z * V2 m (i + 1) 0) := h1
  omega
theorem Mst.step {os : List St} {m i z : Nat} {T : (Int → Int) → Int} {rs : List (List Int)} {s : St} (h : Mst os m T i z rs) (hm : os.length = m) (hok : s.ok = true) (hi : i < m) (hz : z < 81) (hso : os[i]? = some s) : Mst os m T i (z + 1) (mD m rs s ⟨i, z, ent rs i z⟩ s.many) := by
  obtain ⟨hr, hT, hV⟩ := h
  obtain ⟨_, hu⟩ := hr.ent (i := i) (by omega) hz
  have hs : 0 ≤ (Rn.mk i z (ent rs i z)).st ∧ (Rn.mk i z (ent rs i z)).st ≤ 80 := by show 0 ≤ (z : Int) ∧ (z : Int) ≤ 80; omega
  have hmany : s.many ≤ 3 := by unfold St.many; split <;> omega
  have hk := mD_ok (r := ⟨i, z, ent rs i z⟩) hok hr hs hu s.many hmany
  have hrow : (mD m rs s ⟨i, z, ent rs i z⟩ s.many).getD i [] = rs.getD i [] := mD_le hi s.many i (Nat.le_refl _)
  refine ⟨hk, fun q => ?_, ?_⟩
  · have := mD_val (h := q) (r := ⟨i, z, ent rs i z⟩) hm hok hr hs hu hi hso
    have this' : tailM (valAt q os) (mD m rs s ⟨i, z, ent rs i z⟩ s.many) (i + 1) (m - i) = tailM (valAt q os) rs (i + 1) (m - i) + ent rs i z * valAt q os i z := this
    rw [hrow, this', ← hT q, rsum_drop hr (by omega) hz]
    omega
  · have h1 := mD_bd (r := ⟨i, z, ent rs i z⟩) hok hr hs hu hi s.many hmany
    have h1' : tailM (V2 m) (mD m rs s ⟨i, z, ent rs i z⟩ s.many) (i + 1) (m - i) ≤ tailM (V2 m) rs (i + 1) (m - i) + s.many * (9 * ent rs i z * V2 m (i + 1) 0) := h1
    have hV1 := V2_succ hi z 0
    have hV2 := V2_ge m (i + 1) 0
    have h3 : (s.many : Int) * (9 * ent rs i z * V2 m (i + 1) 0) ≤ 3 * (9 * ent rs i z * V2 m (i + 1) 0) := Int.mul_le_mul_of_nonneg_right (by omega) (Int.mul_nonneg (by omega) (by omega))
    have h4 : 3 * (9 * ent rs i z * V2 m (i + 1) 0) = ent rs i z * V2 m i z := by
      rw [hV1, ← Int.mul_assoc 3, ← Int.mul_assoc 3, ← Int.mul_assoc (ent rs i z), Int.mul_comm (ent rs i z) 27]
      rfl
    rw [rsum_drop hr (by omega) hz] at hV
    rw [hrow]
    omega

/-- The rows at the start. -/
theorem mst_start {os : List St} {m : Nat} {ds : List Int} {T : (Int → Int) → Int} (hl : ds.length = 81) (h0 : ∀ x ∈ ds, 0 ≤ x) (hT : ∀ h, rsum (valAt h os 0) ds 0 = T h) (hV : rsum (V2 m 0) ds 0 ≤ 1000000000000000000) : Mst os m T 0 0 (ds :: List.replicate m (zs 81)) := by
  have ht : ∀ (V : Nat → Int → Int) (n i : Nat), tailM V (ds :: List.replicate m (zs 81)) (i + 1) n = 0 := fun V n => by
    induction n with
    | zero => exact fun i => rfl
    | succ n ih =>
      intro i
      rw [tailM, ih (i + 1)]
      have : (ds :: List.replicate m (zs 81)).getD (i + 1) [] = zs 81 ∨ (ds :: List.replicate m (zs 81)).getD (i + 1) [] = [] := by
        rw [List.getD_eq_getElem?_getD, List.getElem?_cons_succ, List.getElem?_replicate]
        split
        · exact .inl rfl
        · exact .inr rfl
      rcases this with e | e
      · rw [e]
        unfold zs
        rw [rsum_zero]; rfl
      · rw [e]; rfl
  refine ⟨⟨by simp, fun es he => ?_⟩, fun q => ?_, ?_⟩
  · rcases List.mem_cons.1 he with rfl | he
    · exact ⟨hl, h0⟩
    · rw [List.mem_replicate] at he
      rw [he.2]
      exact ⟨zs_len _, fun x hx => by unfold zs at hx; rw [List.mem_replicate] at hx; omega⟩
  · rw [ht, Int.add_zero]
    exact hT q
  · rw [ht, Int.add_zero]
    exact hV
theorem Mst.last {os : List St} {m z : Nat} {T : (Int → Int) → Int} {rs : List (List Int)} (h : Mst os m T m 0 rs) (hm : os.length = m) (hq : z < 81) : (rs.getD m [])[z]? = some (T (ind z)) := by
  obtain ⟨hr, hT, _⟩ := h
  have hl := (hr.at_ (Nat.le_refl m)).2.1
  have e := hT (ind z)
  rw [Nat.sub_self, List.drop_zero] at e
  have e2 : ∀ st, valAt (ind z) os m st = ind z st := fun st => valAt_end (by omega) st
  have e3 : ∀ (r : List Int) (k : Nat), rsum (valAt (ind (z : Int)) os m) r k = if k ≤ z then r.getD (z - k) 0 else 0 := by
    intro r
    induction r with
    | nil => intro k; simp [rsum]
    | cons u r ih =>
      intro k
      rw [rsum, ih, e2]
      unfold ind
      by_cases h1 : k = z
      · subst h1
        rw [if_pos rfl, if_neg (by omega), if_pos (Nat.le_refl _), Nat.sub_self]
        simp
      · rw [if_neg (by omega)]
        by_cases h2 : k + 1 ≤ z
        · rw [if_pos h2, if_pos (by omega), show z - k = z - (k + 1) + 1 by omega]
          simp
        · rw [if_neg h2, if_neg (by omega)]
          simp
  rw [e3, if_pos (Nat.zero_le _), Nat.sub_zero] at e
  have e4 : tailM (valAt (ind (z : Int)) os) rs (m + 1) 0 = 0 := rfl
  rw [e4, Int.add_zero] at e
  rw [← e, List.getD_eq_getElem?_getD (l := rs.getD m []), List.getElem?_eq_getElem (by omega)]
  rfl
end Go.Proofs.Ytbndonfpdioibaa
