/- The model's steps of a run: a struct behind a pointer. -/
import Derived.Test.YtjokiminlplbcaaStp
import Derived.Test.YtjokiminlplbcaaTrw
import Derived.Test.YtjokiminlplbcaaRdS
import Derived.StillTailTactics
import Derived.Deep.RegionLaw
namespace Go.Proofs.Ytjokiminlplbcaa
set_option maxRecDepth 100000
set_option linter.unusedVariables false
open Go.RowKit

theorem l1At_v (st a : Int) (w : World) (hs : 0 ≤ st ∧ st ≤ 80) (ha : 0 ≤ a ∧ a ≤ 3) :
    Calls Try.prog 99 #[.int .i64 st, .int .i64 a] w fun e w' => e = .returned (.int .i64 (valueAt st a)) ∧ w' = w := by
  obtain ⟨k, rfl, hk⟩ := nat4 ha.1 ha.2
  rw [valueAt_yes hs.1 hs.2 rfl hk]
  exact (l1At_any st k hs.1 hs.2 hk w).mono fun _ _ h => ⟨h.1, h.2.symm⟩
theorem l1With_v (st a x : Int) (w : World) (hs : 0 ≤ st ∧ st ≤ 80) (ha : 0 ≤ a ∧ a ≤ 3) (hx : 0 ≤ x ∧ x ≤ 2) :
    Calls Try.prog 100 #[.int .i64 st, .int .i64 a, .int .i64 x] w fun e w' => e = .returned (.int .i64 (withValue st a x)) ∧ w' = w := by
  obtain ⟨k, rfl, hk⟩ := nat4 ha.1 ha.2
  rw [withValue_yes hs.1 hs.2 rfl hk hx.1 hx.2]
  exact (l1With_any st x k hs.1 hs.2 hk hx.1 hx.2 w).mono fun _ _ h => ⟨h.1, h.2.symm⟩

/-- How a step in memory ends. -/
def Owned (w : World) (R : Nat) (p st wt : Int) (e : Ending) (w' : World) : Prop := e = .returned (.tuple #[]) ∧ Has w' R 78 #[.int .i64 p, .int .i64 st, .int .i64 wt] ∧ Chg w w' R

theorem l2Own_0n (a b c u v y p st wt : Int) (R : Nat) (w : World) (h : Has w R 78 #[.int .i64 p, .int .i64 st, .int .i64 wt]) (hs : 0 ≤ st ∧ st ≤ 80) (hp : 0 ≤ p ∧ p ≤ 100) (hw : 0 ≤ wt ∧ wt ≤ 1000000000000) (ha : 0 ≤ a ∧ a ≤ 3) (hb : b = -1) (hc0 : 0 ≤ c ∧ c ≤ 2) :
    Calls Try.prog 71 #[.pointer (some ⟨R, 0, none⟩), .agg #[.int .i64 0, .int .i64 a, .int .i64 b, .int .i64 c, .int .i64 u, .int .i64 v, .int .i64 y]] w (Owned w R (p + 1) (withValue st a c) wt) := by
  subst hb
  have cA := Lib.hid (fun wx => l1At_v st a wx hs ha)
  have hc := h.cell
  have hf := h.frozen
  have hl := h.lt
  go_enter Try.func71, Try.ntmps71
  go_wp2_with fail
  go_quiet ((go_at_call 99; exact Calls.quiet_of_same (cA.out _)))
  go_wp2_with fail
  have hRW := (h.alloc (.cells #[.int .i64 0, .int .i64 a, .int .i64 (-1), .int .i64 c, .int .i64 u, .int .i64 v, .int .i64 y] 83)).drewN nq
  have hSW := (Has.new w 83 #[.int .i64 0, .int .i64 a, .int .i64 (-1), .int .i64 c, .int .i64 u, .int .i64 v, .int .i64 y]).drewN nq
  have hCW : Chg w ((w.alloc (.cells #[.int .i64 0, .int .i64 a, .int .i64 (-1), .int .i64 c, .int .i64 u, .int .i64 v, .int .i64 y] 83)).drewN nq) R := ((Chg.refl w R).alloc _).drewN nq
  have hgt : R ≠ w.heap.size := by omega
  generalize World.drewN (w.alloc (.cells #[.int .i64 0, .int .i64 a, .int .i64 (-1), .int .i64 c, .int .i64 u, .int .i64 v, .int .i64 y] 83)) nq = W2 at hRW hSW hCW ⊢
  generalize w.heap.size = G at hSW hgt ⊢
  clear hc hf
  have hc := hRW.cell
  have hf := hRW.frozen
  have hs2 := hSW.cell
  go_still_tail 11, (by kernel_rfl)
  still_call (l1With_v st a c W2.drew hs ha hc0)
  repeat still_step
  refine wpStill_nil ?_
  change wpList _ _ _ _ _ W2.drew
  go_wp2
  go_end0
  have hE := ((hRW.put 1 (.int .i64 (withValue st a c))).put 0 (.int .i64 (p + 1)))
  exact ⟨rfl, hE, (((hCW.put 1 (.int .i64 (withValue st a c))).put 0 (.int .i64 (p + 1))).drewN 1)⟩

theorem l2Own_0b (a b c u v y p st wt : Int) (R : Nat) (w : World) (h : Has w R 78 #[.int .i64 p, .int .i64 st, .int .i64 wt]) (hs : 0 ≤ st ∧ st ≤ 80) (hp : 0 ≤ p ∧ p ≤ 100) (hw : 0 ≤ wt ∧ wt ≤ 1000000000000) (ha : 0 ≤ a ∧ a ≤ 3) (hb : 0 ≤ b ∧ b ≤ 3) (hc0 : 0 ≤ c ∧ c ≤ 2) :
    Calls Try.prog 71 #[.pointer (some ⟨R, 0, none⟩), .agg #[.int .i64 0, .int .i64 a, .int .i64 b, .int .i64 c, .int .i64 u, .int .i64 v, .int .i64 y]] w (Owned w R (p + 1) (withValue st a ((c + valueAt st b) % 3)) wt) := by
  have cA := Lib.hid (fun wx => l1At_v st a wx hs ha)
  have cB := Lib.hid (fun wx => l1At_v st b wx hs hb)
  have hmb := valueAt_in hs hb
  have hsum : IntKind.i64.wrap (c + valueAt st b) = c + valueAt st b := by rw [IntKind.wrap_i64]; omega
  have hmod : (c + valueAt st b).tmod 3 = (c + valueAt st b) % 3 := Int.tmod_eq_emod_of_nonneg (by omega)
  have hx : 0 ≤ (c + valueAt st b) % 3 ∧ (c + valueAt st b) % 3 ≤ 2 := by omega
  have hc := h.cell
  have hf := h.frozen
  have hl := h.lt
  go_enter Try.func71, Try.ntmps71
  go_wp2_with fail
  go_quiet ((go_at_call 99; exact Calls.quiet_of_same (cA.out _)))
  go_wp2_with fail
  have hRW := (h.alloc (.cells #[.int .i64 0, .int .i64 a, .int .i64 b, .int .i64 c, .int .i64 u, .int .i64 v, .int .i64 y] 83)).drewN nq
  have hSW := (Has.new w 83 #[.int .i64 0, .int .i64 a, .int .i64 b, .int .i64 c, .int .i64 u, .int .i64 v, .int .i64 y]).drewN nq
  have hCW : Chg w ((w.alloc (.cells #[.int .i64 0, .int .i64 a, .int .i64 b, .int .i64 c, .int .i64 u, .int .i64 v, .int .i64 y] 83)).drewN nq) R := ((Chg.refl w R).alloc _).drewN nq
  have hgt : R ≠ w.heap.size := by omega
  generalize World.drewN (w.alloc (.cells #[.int .i64 0, .int .i64 a, .int .i64 b, .int .i64 c, .int .i64 u, .int .i64 v, .int .i64 y] 83)) nq = W2 at hRW hSW hCW ⊢
  generalize w.heap.size = G at hSW hgt ⊢
  clear hc hf
  have hc := hRW.cell
  have hf := hRW.frozen
  have hs2 := hSW.cell
  go_quiet ((go_at_call 99; exact Calls.quiet_of_same (cB.out _)))
  go_wp2_with fail
  replace hRW := hRW.drewN nq
  replace hSW := hSW.drewN nq
  replace hCW := hCW.drewN nq
  generalize W2.drewN nq = W3 at hRW hSW hCW ⊢
  clear hc hf hs2
  have hc := hRW.cell
  have hf := hRW.frozen
  have hs2 := hSW.cell
  go_still_tail 11, (by kernel_rfl)
  still_call (l1With_v st a ((c + valueAt st b) % 3) W3.drew hs ha hx)
  repeat still_step
  refine wpStill_nil ?_
  change wpList _ _ _ _ _ W3.drew
  go_wp2
  go_end0
  have hE := ((hRW.put 1 (.int .i64 (withValue st a ((c + valueAt st b) % 3)))).put 0 (.int .i64 (p + 1)))
  exact ⟨rfl, hE, (((hCW.put 1 (.int .i64 (withValue st a ((c + valueAt st b) % 3)))).put 0 (.int .i64 (p + 1))).drewN 1)⟩

theorem l2Own_1 (a b c u v y p st wt : Int) (R : Nat) (w : World) (h : Has w R 78 #[.int .i64 p, .int .i64 st, .int .i64 wt]) (hs : 0 ≤ st ∧ st ≤ 80) (hp : 0 ≤ p ∧ p ≤ 100) (hw : 0 ≤ wt ∧ wt ≤ 1000000000000) (ha : 0 ≤ a ∧ a ≤ 3) (hb : 0 ≤ b ∧ b ≤ 3) :
    Calls Try.prog 71 #[.pointer (some ⟨R, 0, none⟩), .agg #[.int .i64 1, .int .i64 a, .int .i64 b, .int .i64 c, .int .i64 u, .int .i64 v, .int .i64 y]] w (Owned w R (p + 1) (withValue st a ((valueAt st a + valueAt st b) % 3)) wt) := by
  have cA := Lib.hid (fun wx => l1At_v st a wx hs ha)
  have hma := valueAt_in hs ha
  have hmb := valueAt_in hs hb
  have hsum : IntKind.i64.wrap (valueAt st a + valueAt st b) = valueAt st a + valueAt st b := by rw [IntKind.wrap_i64]; omega
  have hmod : (valueAt st a + valueAt st b).tmod 3 = (valueAt st a + valueAt st b) % 3 := Int.tmod_eq_emod_of_nonneg (by omega)
  have hx : 0 ≤ (valueAt st a + valueAt st b) % 3 ∧ (valueAt st a + valueAt st b) % 3 ≤ 2 := by omega
  have hc := h.cell
  have hf := h.frozen
  have hl := h.lt
  go_enter Try.func71, Try.ntmps71
  go_wp2_with fail
  go_quiet ((go_at_call 99; exact Calls.quiet_of_same (cA.out _)))
  go_wp2_with fail
  have hRW := (h.alloc (.cells #[.int .i64 1, .int .i64 a, .int .i64 b, .int .i64 c, .int .i64 u, .int .i64 v, .int .i64 y] 83)).drewN nq
  have hSW := (Has.new w 83 #[.int .i64 1, .int .i64 a, .int .i64 b, .int .i64 c, .int .i64 u, .int .i64 v, .int .i64 y]).drewN nq
  have hCW : Chg w ((w.alloc (.cells #[.int .i64 1, .int .i64 a, .int .i64 b, .int .i64 c, .int .i64 u, .int .i64 v, .int .i64 y] 83)).drewN nq) R := ((Chg.refl w R).alloc _).drewN nq
  have hgt : R ≠ w.heap.size := by omega
  generalize World.drewN (w.alloc (.cells #[.int .i64 1, .int .i64 a, .int .i64 b, .int .i64 c, .int .i64 u, .int .i64 v, .int .i64 y] 83)) nq = W2 at hRW hSW hCW ⊢
  generalize w.heap.size = G at hSW hgt ⊢
  clear hc hf
  have hc := hRW.cell
  have hf := hRW.frozen
  have hs2 := hSW.cell
  go_still_tail 20, (by kernel_rfl)
  still_call (l1At_v st b W2.drew hs hb)
  repeat still_step
  still_call (l1With_v st a ((valueAt st a + valueAt st b) % 3) W2.drew hs ha hx)
  repeat still_step
  refine wpStill_nil ?_
  change wpList _ _ _ _ _ W2.drew
  go_wp2
  go_end0
  have hE := ((hRW.put 1 (.int .i64 (withValue st a ((valueAt st a + valueAt st b) % 3)))).put 0 (.int .i64 (p + 1)))
  exact ⟨rfl, hE, (((hCW.put 1 (.int .i64 (withValue st a ((valueAt st a + valueAt st b) % 3)))).put 0 (.int .i64 (p + 1))).drewN 1)⟩

theorem l2Own_4_0 (a b c u v y p st wt : Int) (R : Nat) (w : World) (h : Has w R 78 #[.int .i64 p, .int .i64 st, .int .i64 wt]) (hs : 0 ≤ st ∧ st ≤ 80) (hp : 0 ≤ p ∧ p ≤ 100) (hw : 0 ≤ wt ∧ wt ≤ 1000000000000) (ha : 0 ≤ a ∧ a ≤ 3) (hq : valueAt st a = 0) (hv : 0 ≤ u ∧ u ≤ 9) :
    Calls Try.prog 71 #[.pointer (some ⟨R, 0, none⟩), .agg #[.int .i64 4, .int .i64 a, .int .i64 b, .int .i64 c, .int .i64 u, .int .i64 v, .int .i64 y]] w (Owned w R (p + 1) st (wt * u)) := by
  have cA := Lib.hid (fun wx => l1At_v st a wx hs ha)
  rw [hq] at cA
  have hzz : 0 ≤ wt * u ∧ wt * u ≤ 9000000000000 := by
    have h1 := Int.mul_nonneg hw.1 hv.1
    have h2 : wt * u ≤ wt * 9 := Int.mul_le_mul_of_nonneg_left hv.2 hw.1
    omega
  have hz : IntKind.i64.wrap (wt * u) = wt * u := by rw [IntKind.wrap_i64]; omega
  have hc := h.cell
  have hf := h.frozen
  have hl := h.lt
  go_enter Try.func71, Try.ntmps71
  go_wp2_with fail
  go_quiet ((go_at_call 99; exact Calls.quiet_of_same (cA.out _)))
  go_wp2_with fail
  have hRW := (h.alloc (.cells #[.int .i64 4, .int .i64 a, .int .i64 b, .int .i64 c, .int .i64 u, .int .i64 v, .int .i64 y] 83)).drewN nq
  have hSW := (Has.new w 83 #[.int .i64 4, .int .i64 a, .int .i64 b, .int .i64 c, .int .i64 u, .int .i64 v, .int .i64 y]).drewN nq
  have hCW : Chg w ((w.alloc (.cells #[.int .i64 4, .int .i64 a, .int .i64 b, .int .i64 c, .int .i64 u, .int .i64 v, .int .i64 y] 83)).drewN nq) R := ((Chg.refl w R).alloc _).drewN nq
  have hgt : R ≠ w.heap.size := by omega
  generalize World.drewN (w.alloc (.cells #[.int .i64 4, .int .i64 a, .int .i64 b, .int .i64 c, .int .i64 u, .int .i64 v, .int .i64 y] 83)) nq = W2 at hRW hSW hCW ⊢
  generalize w.heap.size = G at hSW hgt ⊢
  clear hc hf
  have hc := hRW.cell
  have hf := hRW.frozen
  have hs2 := hSW.cell
  go_still_tail 12, (by kernel_rfl)
  change wpList _ _ _ _ _ W2.drew
  go_wp2
  go_end0
  have hE := ((hRW.put 2 (.int .i64 (wt * u))).put 0 (.int .i64 (p + 1)))
  exact ⟨rfl, hE, (((hCW.put 2 (.int .i64 (wt * u))).put 0 (.int .i64 (p + 1))).drewN 1)⟩

theorem l2Own_4_1 (a b c u v y p st wt : Int) (R : Nat) (w : World) (h : Has w R 78 #[.int .i64 p, .int .i64 st, .int .i64 wt]) (hs : 0 ≤ st ∧ st ≤ 80) (hp : 0 ≤ p ∧ p ≤ 100) (hw : 0 ≤ wt ∧ wt ≤ 1000000000000) (ha : 0 ≤ a ∧ a ≤ 3) (hq : valueAt st a = 1) (hv : 0 ≤ v ∧ v ≤ 9) :
    Calls Try.prog 71 #[.pointer (some ⟨R, 0, none⟩), .agg #[.int .i64 4, .int .i64 a, .int .i64 b, .int .i64 c, .int .i64 u, .int .i64 v, .int .i64 y]] w (Owned w R (p + 1) st (wt * v)) := by
  have cA := Lib.hid (fun wx => l1At_v st a wx hs ha)
  rw [hq] at cA
  have hzz : 0 ≤ wt * v ∧ wt * v ≤ 9000000000000 := by
    have h1 := Int.mul_nonneg hw.1 hv.1
    have h2 : wt * v ≤ wt * 9 := Int.mul_le_mul_of_nonneg_left hv.2 hw.1
    omega
  have hz : IntKind.i64.wrap (wt * v) = wt * v := by rw [IntKind.wrap_i64]; omega
  have hc := h.cell
  have hf := h.frozen
  have hl := h.lt
  go_enter Try.func71, Try.ntmps71
  go_wp2_with fail
  go_quiet ((go_at_call 99; exact Calls.quiet_of_same (cA.out _)))
  go_wp2_with fail
  have hRW := (h.alloc (.cells #[.int .i64 4, .int .i64 a, .int .i64 b, .int .i64 c, .int .i64 u, .int .i64 v, .int .i64 y] 83)).drewN nq
  have hSW := (Has.new w 83 #[.int .i64 4, .int .i64 a, .int .i64 b, .int .i64 c, .int .i64 u, .int .i64 v, .int .i64 y]).drewN nq
  have hCW : Chg w ((w.alloc (.cells #[.int .i64 4, .int .i64 a, .int .i64 b, .int .i64 c, .int .i64 u, .int .i64 v, .int .i64 y] 83)).drewN nq) R := ((Chg.refl w R).alloc _).drewN nq
  have hgt : R ≠ w.heap.size := by omega
  generalize World.drewN (w.alloc (.cells #[.int .i64 4, .int .i64 a, .int .i64 b, .int .i64 c, .int .i64 u, .int .i64 v, .int .i64 y] 83)) nq = W2 at hRW hSW hCW ⊢
  generalize w.heap.size = G at hSW hgt ⊢
  clear hc hf
  have hc := hRW.cell
  have hf := hRW.frozen
  have hs2 := hSW.cell
  go_still_tail 12, (by kernel_rfl)
  change wpList _ _ _ _ _ W2.drew
  go_wp2
  go_end0
  have hE := ((hRW.put 2 (.int .i64 (wt * v))).put 0 (.int .i64 (p + 1)))
  exact ⟨rfl, hE, (((hCW.put 2 (.int .i64 (wt * v))).put 0 (.int .i64 (p + 1))).drewN 1)⟩

theorem l2Own_4_2 (a b c u v y p st wt : Int) (R : Nat) (w : World) (h : Has w R 78 #[.int .i64 p, .int .i64 st, .int .i64 wt]) (hs : 0 ≤ st ∧ st ≤ 80) (hp : 0 ≤ p ∧ p ≤ 100) (hw : 0 ≤ wt ∧ wt ≤ 1000000000000) (ha : 0 ≤ a ∧ a ≤ 3) (hq : valueAt st a = 2) (hv : 0 ≤ y ∧ y ≤ 9) :
    Calls Try.prog 71 #[.pointer (some ⟨R, 0, none⟩), .agg #[.int .i64 4, .int .i64 a, .int .i64 b, .int .i64 c, .int .i64 u, .int .i64 v, .int .i64 y]] w (Owned w R (p + 1) st (wt * y)) := by
  have cA := Lib.hid (fun wx => l1At_v st a wx hs ha)
  rw [hq] at cA
  have hzz : 0 ≤ wt * y ∧ wt * y ≤ 9000000000000 := by
    have h1 := Int.mul_nonneg hw.1 hv.1
    have h2 : wt * y ≤ wt * 9 := Int.mul_le_mul_of_nonneg_left hv.2 hw.1
    omega
  have hz : IntKind.i64.wrap (wt * y) = wt * y := by rw [IntKind.wrap_i64]; omega
  have hc := h.cell
  have hf := h.frozen
  have hl := h.lt
  go_enter Try.func71, Try.ntmps71
  go_wp2_with fail
  go_quiet ((go_at_call 99; exact Calls.quiet_of_same (cA.out _)))
  go_wp2_with fail
  have hRW := (h.alloc (.cells #[.int .i64 4, .int .i64 a, .int .i64 b, .int .i64 c, .int .i64 u, .int .i64 v, .int .i64 y] 83)).drewN nq
  have hSW := (Has.new w 83 #[.int .i64 4, .int .i64 a, .int .i64 b, .int .i64 c, .int .i64 u, .int .i64 v, .int .i64 y]).drewN nq
  have hCW : Chg w ((w.alloc (.cells #[.int .i64 4, .int .i64 a, .int .i64 b, .int .i64 c, .int .i64 u, .int .i64 v, .int .i64 y] 83)).drewN nq) R := ((Chg.refl w R).alloc _).drewN nq
  have hgt : R ≠ w.heap.size := by omega
  generalize World.drewN (w.alloc (.cells #[.int .i64 4, .int .i64 a, .int .i64 b, .int .i64 c, .int .i64 u, .int .i64 v, .int .i64 y] 83)) nq = W2 at hRW hSW hCW ⊢
  generalize w.heap.size = G at hSW hgt ⊢
  clear hc hf
  have hc := hRW.cell
  have hf := hRW.frozen
  have hs2 := hSW.cell
  go_still_tail 12, (by kernel_rfl)
  change wpList _ _ _ _ _ W2.drew
  go_wp2
  go_end0
  have hE := ((hRW.put 2 (.int .i64 (wt * y))).put 0 (.int .i64 (p + 1)))
  exact ⟨rfl, hE, (((hCW.put 2 (.int .i64 (wt * y))).put 0 (.int .i64 (p + 1))).drewN 1)⟩

theorem l2Own_5_0 (a b c u v y p st wt : Int) (R : Nat) (w : World) (h : Has w R 78 #[.int .i64 p, .int .i64 st, .int .i64 wt]) (hs : 0 ≤ st ∧ st ≤ 80) (hp : 0 ≤ p ∧ p ≤ 100) (hw : 0 ≤ wt ∧ wt ≤ 1000000000000) (ha : 0 ≤ a ∧ a ≤ 3) (hb : 0 ≤ b ∧ b ≤ 3) (hq : (valueAt st a + valueAt st b) % 3 = 0) (hv : 0 ≤ u ∧ u ≤ 9) :
    Calls Try.prog 71 #[.pointer (some ⟨R, 0, none⟩), .agg #[.int .i64 5, .int .i64 a, .int .i64 b, .int .i64 c, .int .i64 u, .int .i64 v, .int .i64 y]] w (Owned w R (p + 1) st (wt * u)) := by
  have cA := Lib.hid (fun wx => l1At_v st a wx hs ha)
  have hma := valueAt_in hs ha
  have hmb := valueAt_in hs hb
  have hsum : IntKind.i64.wrap (valueAt st a + valueAt st b) = valueAt st a + valueAt st b := by rw [IntKind.wrap_i64]; omega
  have hmod : (valueAt st a + valueAt st b).tmod 3 = 0 := (Int.tmod_eq_emod_of_nonneg (by omega)).trans hq
  have hzz : 0 ≤ wt * u ∧ wt * u ≤ 9000000000000 := by
    have h1 := Int.mul_nonneg hw.1 hv.1
    have h2 : wt * u ≤ wt * 9 := Int.mul_le_mul_of_nonneg_left hv.2 hw.1
    omega
  have hz : IntKind.i64.wrap (wt * u) = wt * u := by rw [IntKind.wrap_i64]; omega
  have hc := h.cell
  have hf := h.frozen
  have hl := h.lt
  go_enter Try.func71, Try.ntmps71
  go_wp2_with fail
  go_quiet ((go_at_call 99; exact Calls.quiet_of_same (cA.out _)))
  go_wp2_with fail
  have hRW := (h.alloc (.cells #[.int .i64 5, .int .i64 a, .int .i64 b, .int .i64 c, .int .i64 u, .int .i64 v, .int .i64 y] 83)).drewN nq
  have hSW := (Has.new w 83 #[.int .i64 5, .int .i64 a, .int .i64 b, .int .i64 c, .int .i64 u, .int .i64 v, .int .i64 y]).drewN nq
  have hCW : Chg w ((w.alloc (.cells #[.int .i64 5, .int .i64 a, .int .i64 b, .int .i64 c, .int .i64 u, .int .i64 v, .int .i64 y] 83)).drewN nq) R := ((Chg.refl w R).alloc _).drewN nq
  have hgt : R ≠ w.heap.size := by omega
  generalize World.drewN (w.alloc (.cells #[.int .i64 5, .int .i64 a, .int .i64 b, .int .i64 c, .int .i64 u, .int .i64 v, .int .i64 y] 83)) nq = W2 at hRW hSW hCW ⊢
  generalize w.heap.size = G at hSW hgt ⊢
  clear hc hf
  have hc := hRW.cell
  have hf := hRW.frozen
  have hs2 := hSW.cell
  go_still_tail 21, (by kernel_rfl)
  still_call (l1At_v st b W2.drew hs hb)
  repeat still_step
  refine wpStill_nil ?_
  change wpList _ _ _ _ _ W2.drew
  go_wp2
  go_end0
  have hE := ((hRW.put 2 (.int .i64 (wt * u))).put 0 (.int .i64 (p + 1)))
  exact ⟨rfl, hE, (((hCW.put 2 (.int .i64 (wt * u))).put 0 (.int .i64 (p + 1))).drewN 1)⟩

theorem l2Own_5_1 (a b c u v y p st wt : Int) (R : Nat) (w : World) (h : Has w R 78 #[.int .i64 p, .int .i64 st, .int .i64 wt]) (hs : 0 ≤ st ∧ st ≤ 80) (hp : 0 ≤ p ∧ p ≤ 100) (hw : 0 ≤ wt ∧ wt ≤ 1000000000000) (ha : 0 ≤ a ∧ a ≤ 3) (hb : 0 ≤ b ∧ b ≤ 3) (hq : (valueAt st a + valueAt st b) % 3 = 1) (hv : 0 ≤ v ∧ v ≤ 9) :
    Calls Try.prog 71 #[.pointer (some ⟨R, 0, none⟩), .agg #[.int .i64 5, .int .i64 a, .int .i64 b, .int .i64 c, .int .i64 u, .int .i64 v, .int .i64 y]] w (Owned w R (p + 1) st (wt * v)) := by
  have cA := Lib.hid (fun wx => l1At_v st a wx hs ha)
  have hma := valueAt_in hs ha
  have hmb := valueAt_in hs hb
  have hsum : IntKind.i64.wrap (valueAt st a + valueAt st b) = valueAt st a + valueAt st b := by rw [IntKind.wrap_i64]; omega
  have hmod : (valueAt st a + valueAt st b).tmod 3 = 1 := (Int.tmod_eq_emod_of_nonneg (by omega)).trans hq
  have hzz : 0 ≤ wt * v ∧ wt * v ≤ 9000000000000 := by
    have h1 := Int.mul_nonneg hw.1 hv.1
    have h2 : wt * v ≤ wt * 9 := Int.mul_le_mul_of_nonneg_left hv.2 hw.1
    omega
  have hz : IntKind.i64.wrap (wt * v) = wt * v := by rw [IntKind.wrap_i64]; omega
  have hc := h.cell
  have hf := h.frozen
  have hl := h.lt
  go_enter Try.func71, Try.ntmps71
  go_wp2_with fail
  go_quiet ((go_at_call 99; exact Calls.quiet_of_same (cA.out _)))
  go_wp2_with fail
  have hRW := (h.alloc (.cells #[.int .i64 5, .int .i64 a, .int .i64 b, .int .i64 c, .int .i64 u, .int .i64 v, .int .i64 y] 83)).drewN nq
  have hSW := (Has.new w 83 #[.int .i64 5, .int .i64 a, .int .i64 b, .int .i64 c, .int .i64 u, .int .i64 v, .int .i64 y]).drewN nq
  have hCW : Chg w ((w.alloc (.cells #[.int .i64 5, .int .i64 a, .int .i64 b, .int .i64 c, .int .i64 u, .int .i64 v, .int .i64 y] 83)).drewN nq) R := ((Chg.refl w R).alloc _).drewN nq
  have hgt : R ≠ w.heap.size := by omega
  generalize World.drewN (w.alloc (.cells #[.int .i64 5, .int .i64 a, .int .i64 b, .int .i64 c, .int .i64 u, .int .i64 v, .int .i64 y] 83)) nq = W2 at hRW hSW hCW ⊢
  generalize w.heap.size = G at hSW hgt ⊢
  clear hc hf
  have hc := hRW.cell
  have hf := hRW.frozen
  have hs2 := hSW.cell
  go_still_tail 21, (by kernel_rfl)
  still_call (l1At_v st b W2.drew hs hb)
  repeat still_step
  refine wpStill_nil ?_
  change wpList _ _ _ _ _ W2.drew
  go_wp2
  go_end0
  have hE := ((hRW.put 2 (.int .i64 (wt * v))).put 0 (.int .i64 (p + 1)))
  exact ⟨rfl, hE, (((hCW.put 2 (.int .i64 (wt * v))).put 0 (.int .i64 (p + 1))).drewN 1)⟩

theorem l2Own_5_2 (a b c u v y p st wt : Int) (R : Nat) (w : World) (h : Has w R 78 #[.int .i64 p, .int .i64 st, .int .i64 wt]) (hs : 0 ≤ st ∧ st ≤ 80) (hp : 0 ≤ p ∧ p ≤ 100) (hw : 0 ≤ wt ∧ wt ≤ 1000000000000) (ha : 0 ≤ a ∧ a ≤ 3) (hb : 0 ≤ b ∧ b ≤ 3) (hq : (valueAt st a + valueAt st b) % 3 = 2) (hv : 0 ≤ y ∧ y ≤ 9) :
    Calls Try.prog 71 #[.pointer (some ⟨R, 0, none⟩), .agg #[.int .i64 5, .int .i64 a, .int .i64 b, .int .i64 c, .int .i64 u, .int .i64 v, .int .i64 y]] w (Owned w R (p + 1) st (wt * y)) := by
  have cA := Lib.hid (fun wx => l1At_v st a wx hs ha)
  have hma := valueAt_in hs ha
  have hmb := valueAt_in hs hb
  have hsum : IntKind.i64.wrap (valueAt st a + valueAt st b) = valueAt st a + valueAt st b := by rw [IntKind.wrap_i64]; omega
  have hmod : (valueAt st a + valueAt st b).tmod 3 = 2 := (Int.tmod_eq_emod_of_nonneg (by omega)).trans hq
  have hzz : 0 ≤ wt * y ∧ wt * y ≤ 9000000000000 := by
    have h1 := Int.mul_nonneg hw.1 hv.1
    have h2 : wt * y ≤ wt * 9 := Int.mul_le_mul_of_nonneg_left hv.2 hw.1
    omega
  have hz : IntKind.i64.wrap (wt * y) = wt * y := by rw [IntKind.wrap_i64]; omega
  have hc := h.cell
  have hf := h.frozen
  have hl := h.lt
  go_enter Try.func71, Try.ntmps71
  go_wp2_with fail
  go_quiet ((go_at_call 99; exact Calls.quiet_of_same (cA.out _)))
  go_wp2_with fail
  have hRW := (h.alloc (.cells #[.int .i64 5, .int .i64 a, .int .i64 b, .int .i64 c, .int .i64 u, .int .i64 v, .int .i64 y] 83)).drewN nq
  have hSW := (Has.new w 83 #[.int .i64 5, .int .i64 a, .int .i64 b, .int .i64 c, .int .i64 u, .int .i64 v, .int .i64 y]).drewN nq
  have hCW : Chg w ((w.alloc (.cells #[.int .i64 5, .int .i64 a, .int .i64 b, .int .i64 c, .int .i64 u, .int .i64 v, .int .i64 y] 83)).drewN nq) R := ((Chg.refl w R).alloc _).drewN nq
  have hgt : R ≠ w.heap.size := by omega
  generalize World.drewN (w.alloc (.cells #[.int .i64 5, .int .i64 a, .int .i64 b, .int .i64 c, .int .i64 u, .int .i64 v, .int .i64 y] 83)) nq = W2 at hRW hSW hCW ⊢
  generalize w.heap.size = G at hSW hgt ⊢
  clear hc hf
  have hc := hRW.cell
  have hf := hRW.frozen
  have hs2 := hSW.cell
  go_still_tail 21, (by kernel_rfl)
  still_call (l1At_v st b W2.drew hs hb)
  repeat still_step
  refine wpStill_nil ?_
  change wpList _ _ _ _ _ W2.drew
  go_wp2
  go_end0
  have hE := ((hRW.put 2 (.int .i64 (wt * y))).put 0 (.int .i64 (p + 1)))
  exact ⟨rfl, hE, (((hCW.put 2 (.int .i64 (wt * y))).put 0 (.int .i64 (p + 1))).drewN 1)⟩

theorem l2Own_6y (a b c u v y p st wt : Int) (R : Nat) (w : World) (h : Has w R 78 #[.int .i64 p, .int .i64 st, .int .i64 wt]) (hs : 0 ≤ st ∧ st ≤ 80) (hp : 0 ≤ p ∧ p ≤ 100) (hw : 0 ≤ wt ∧ wt ≤ 1000000000000) (ha : 0 ≤ a ∧ a ≤ 3) (hb : 0 ≤ b ∧ b ≤ 12) (hq : valueAt st a = c) :
    Calls Try.prog 71 #[.pointer (some ⟨R, 0, none⟩), .agg #[.int .i64 6, .int .i64 a, .int .i64 b, .int .i64 c, .int .i64 u, .int .i64 v, .int .i64 y]] w (Owned w R (p + b + 1) st wt) := by
  subst hq
  have cA := Lib.hid (fun wx => l1At_v st a wx hs ha)
  have hc := h.cell
  have hf := h.frozen
  have hl := h.lt
  go_enter Try.func71, Try.ntmps71
  go_wp2_with fail
  go_quiet ((go_at_call 99; exact Calls.quiet_of_same (cA.out _)))
  go_wp2_with fail
  have hRW := (h.alloc (.cells #[.int .i64 6, .int .i64 a, .int .i64 b, .int .i64 (valueAt st a), .int .i64 u, .int .i64 v, .int .i64 y] 83)).drewN nq
  have hSW := (Has.new w 83 #[.int .i64 6, .int .i64 a, .int .i64 b, .int .i64 (valueAt st a), .int .i64 u, .int .i64 v, .int .i64 y]).drewN nq
  have hCW : Chg w ((w.alloc (.cells #[.int .i64 6, .int .i64 a, .int .i64 b, .int .i64 (valueAt st a), .int .i64 u, .int .i64 v, .int .i64 y] 83)).drewN nq) R := ((Chg.refl w R).alloc _).drewN nq
  have hgt : R ≠ w.heap.size := by omega
  generalize World.drewN (w.alloc (.cells #[.int .i64 6, .int .i64 a, .int .i64 b, .int .i64 (valueAt st a), .int .i64 u, .int .i64 v, .int .i64 y] 83)) nq = W2 at hRW hSW hCW ⊢
  generalize w.heap.size = G at hSW hgt ⊢
  clear hc hf
  have hc := hRW.cell
  have hf := hRW.frozen
  have hs2 := hSW.cell
  go_still_tail 10, (by kernel_rfl)
  change wpList _ _ _ _ _ W2.drew
  go_wp2
  go_end0
  have hE := ((hRW.put 0 (.int .i64 (p + b))).put 0 (.int .i64 (p + b + 1)))
  exact ⟨rfl, hE, (((hCW.put 0 (.int .i64 (p + b))).put 0 (.int .i64 (p + b + 1))).drewN 1)⟩

theorem l2Own_6n (a b c u v y p st wt : Int) (R : Nat) (w : World) (h : Has w R 78 #[.int .i64 p, .int .i64 st, .int .i64 wt]) (hs : 0 ≤ st ∧ st ≤ 80) (hp : 0 ≤ p ∧ p ≤ 100) (hw : 0 ≤ wt ∧ wt ≤ 1000000000000) (ha : 0 ≤ a ∧ a ≤ 3) (hq : valueAt st a ≠ c) :
    Calls Try.prog 71 #[.pointer (some ⟨R, 0, none⟩), .agg #[.int .i64 6, .int .i64 a, .int .i64 b, .int .i64 c, .int .i64 u, .int .i64 v, .int .i64 y]] w (Owned w R (p + 1) st wt) := by
  have cA := Lib.hid (fun wx => l1At_v st a wx hs ha)
  have hq' : (valueAt st a == c) = false := by simpa using hq
  clear hq
  have hc := h.cell
  have hf := h.frozen
  have hl := h.lt
  go_enter Try.func71, Try.ntmps71
  go_wp2_with fail
  go_quiet ((go_at_call 99; exact Calls.quiet_of_same (cA.out _)))
  go_wp2_with fail
  have hRW := (h.alloc (.cells #[.int .i64 6, .int .i64 a, .int .i64 b, .int .i64 c, .int .i64 u, .int .i64 v, .int .i64 y] 83)).drewN nq
  have hSW := (Has.new w 83 #[.int .i64 6, .int .i64 a, .int .i64 b, .int .i64 c, .int .i64 u, .int .i64 v, .int .i64 y]).drewN nq
  have hCW : Chg w ((w.alloc (.cells #[.int .i64 6, .int .i64 a, .int .i64 b, .int .i64 c, .int .i64 u, .int .i64 v, .int .i64 y] 83)).drewN nq) R := ((Chg.refl w R).alloc _).drewN nq
  have hgt : R ≠ w.heap.size := by omega
  generalize World.drewN (w.alloc (.cells #[.int .i64 6, .int .i64 a, .int .i64 b, .int .i64 c, .int .i64 u, .int .i64 v, .int .i64 y] 83)) nq = W2 at hRW hSW hCW ⊢
  generalize w.heap.size = G at hSW hgt ⊢
  clear hc hf
  have hc := hRW.cell
  have hf := hRW.frozen
  have hs2 := hSW.cell
  go_wp2
  go_end0
  have hE := (hRW.put 0 (.int .i64 (p + 1)))
  exact ⟨rfl, hE, (hCW.put 0 (.int .i64 (p + 1)))⟩

end Go.Proofs.Ytjokiminlplbcaa
