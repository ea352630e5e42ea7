/- The model's steps of a run: a struct behind a pointer. The model's steps of a run, for each statement: what draws nothing, and a draw. -/
import Derived.Test.YtbndonfpdioibaaSp
import Derived.Test.YtbndonfpdioibaaTrv
import Derived.Test.YtbndonfpdioibaaRd
import Derived.StillTailTactics
import Derived.Deep.RegionLaw
import Derived.Test.YtbndonfpdioibaaUnP
namespace Go.Proofs.Ytbndonfpdioibaa
set_option maxRecDepth 100000
set_option linter.unusedVariables false
open Go.RowKit

theorem l1At_v (st a : Int) (w : World) (hs : 0 ≤ st ∧ st ≤ 80) (ha : 0 ≤ a ∧ a ≤ 3) :
    Calls Try.prog 110 #[.int .i64 st, .int .i64 a] w fun e w' => e = .returned (.int .i64 (valueAt st a)) ∧ w' = w := by
  obtain ⟨k, rfl, hk⟩ := nat4 ha.1 ha.2
  rw [valueAt_yes hs.1 hs.2 rfl hk]
  exact (l1At_any st k hs.1 hs.2 hk w).mono fun _ _ h => ⟨h.1, h.2.symm⟩
theorem l1With_v (st a x : Int) (w : World) (hs : 0 ≤ st ∧ st ≤ 80) (ha : 0 ≤ a ∧ a ≤ 3) (hx : 0 ≤ x ∧ x ≤ 2) :
    Calls Try.prog 120 #[.int .i64 st, .int .i64 a, .int .i64 x] w fun e w' => e = .returned (.int .i64 (withValue st a x)) ∧ w' = w := by
  obtain ⟨k, rfl, hk⟩ := nat4 ha.1 ha.2
  rw [withValue_yes hs.1 hs.2 rfl hk hx.1 hx.2]
  exact (l1With_any st x k hs.1 hs.2 hk hx.1 hx.2 w).mono fun _ _ h => ⟨h.1, h.2.symm⟩

/-- How a step in memory ends. -/
def Owned (w : World) (R : Nat) (p st wt : Int) (e : Ending) (w' : World) : Prop := e = .returned (.tuple #[]) ∧ Has w' R 135 #[.int .i64 p, .int .i64 st, .int .i64 wt] ∧ Chg w w' R

theorem l2Own_0n (a b c u v y p st wt : Int) (R : Nat) (w : World) (h : Has w R 135 #[.int .i64 p, .int .i64 st, .int .i64 wt]) (hs : 0 ≤ st ∧ st ≤ 80) (hp : 0 ≤ p ∧ p ≤ 100) (hw : 0 ≤ wt ∧ wt ≤ 1000000000000) (ha : 0 ≤ a ∧ a ≤ 3) (hb : b = -1) (hc0 : 0 ≤ c ∧ c ≤ 2) :
    Calls Try.prog 123 #[.pointer (some ⟨R, 0, none⟩), .agg #[.int .i64 0, .int .i64 a, .int .i64 b, .int .i64 c, .int .i64 u, .int .i64 v, .int .i64 y]] w (Owned w R (p + 1) (withValue st a c) wt) := by
  subst hb
  have cA := Lib.hid (fun wx => l1At_v st a wx hs ha)
  have hc := h.cell
  have hf := h.frozen
  have hl := h.lt
  go_enter Try.func123, Try.ntmps123
  go_wp2_with fail
  go_quiet ((go_at_call 110; exact Calls.quiet_of_same (cA.out _)))
  go_wp2_with fail
  have hRW := (h.alloc (.cells #[.int .i64 0, .int .i64 a, .int .i64 (-1), .int .i64 c, .int .i64 u, .int .i64 v, .int .i64 y] 78)).drewN nq
  have hSW := (Has.new w 78 #[.int .i64 0, .int .i64 a, .int .i64 (-1), .int .i64 c, .int .i64 u, .int .i64 v, .int .i64 y]).drewN nq
  have hCW : Chg w ((w.alloc (.cells #[.int .i64 0, .int .i64 a, .int .i64 (-1), .int .i64 c, .int .i64 u, .int .i64 v, .int .i64 y] 78)).drewN nq) R := ((Chg.refl w R).alloc _).drewN nq
  have hgt : R ≠ w.heap.size := by omega
  generalize World.drewN (w.alloc (.cells #[.int .i64 0, .int .i64 a, .int .i64 (-1), .int .i64 c, .int .i64 u, .int .i64 v, .int .i64 y] 78)) nq = W2 at hRW hSW hCW ⊢
  generalize w.heap.size = G at hSW hgt ⊢
  clear hc hf
  have hc := hRW.cell
  have hf := hRW.frozen
  have hs2 := hSW.cell
  go_still_tail 11, (by kernel_rfl)
  still_call (l1With_v st a c W2.drew hs ha hc0)
  repeat still_step
  refine wpStill_nil ?_
  change wpList _ _ _ _ _ W2.drew
  go_wp2
  go_end0
  have hE := ((hRW.put 1 (.int .i64 (withValue st a c))).put 0 (.int .i64 (p + 1)))
  exact ⟨rfl, hE, (((hCW.put 1 (.int .i64 (withValue st a c))).put 0 (.int .i64 (p + 1))).drewN 1)⟩

theorem l2Own_0b (a b c u v y p st wt : Int) (R : Nat) (w : World) (h : Has w R 135 #[.int .i64 p, .int .i64 st, .int .i64 wt]) (hs : 0 ≤ st ∧ st ≤ 80) (hp : 0 ≤ p ∧ p ≤ 100) (hw : 0 ≤ wt ∧ wt ≤ 1000000000000) (ha : 0 ≤ a ∧ a ≤ 3) (hb : 0 ≤ b ∧ b ≤ 3) (hc0 : 0 ≤ c ∧ c ≤ 2) :
    Calls Try.prog 123 #[.pointer (some ⟨R, 0, none⟩), .agg #[.int .i64 0, .int .i64 a, .int .i64 b, .int .i64 c, .int .i64 u, .int .i64 v, .int .i64 y]] w (Owned w R (p + 1) (withValue st a ((c + valueAt st b) % 3)) wt) := by
  have cA := Lib.hid (fun wx => l1At_v st a wx hs ha)
  have cB := Lib.hid (fun wx => l1At_v st b wx hs hb)
  have hmb := valueAt_in hs hb
  have hsum : IntKind.i64.wrap (c + valueAt st b) = c + valueAt st b := by rw [IntKind.wrap_i64]; omega
  have hmod : (c + valueAt st b).tmod 3 = (c + valueAt st b) % 3 := Int.tmod_eq_emod_of_nonneg (by omega)
  have hx : 0 ≤ (c + valueAt st b) % 3 ∧ (c + valueAt st b) % 3 ≤ 2 := by omega
  have hc := h.cell
  have hf := h.frozen
  have hl := h.lt
  go_enter Try.func123, Try.ntmps123
  go_wp2_with fail
  go_quiet ((go_at_call 110; exact Calls.quiet_of_same (cA.out _)))
  go_wp2_with fail
  have hRW := (h.alloc (.cells #[.int .i64 0, .int .i64 a, .int .i64 b, .int .i64 c, .int .i64 u, .int .i64 v, .int .i64 y] 78)).drewN nq
  have hSW := (Has.new w 78 #[.int .i64 0, .int .i64 a, .int .i64 b, .int .i64 c, .int .i64 u, .int .i64 v, .int .i64 y]).drewN nq
  have hCW : Chg w ((w.alloc (.cells #[.int .i64 0, .int .i64 a, .int .i64 b, .int .i64 c, .int .i64 u, .int .i64 v, .int .i64 y] 78)).drewN nq) R := ((Chg.refl w R).alloc _).drewN nq
  have hgt : R ≠ w.heap.size := by omega
  generalize World.drewN (w.alloc (.cells #[.int .i64 0, .int .i64 a, .int .i64 b, .int .i64 c, .int .i64 u, .int .i64 v, .int .i64 y] 78)) nq = W2 at hRW hSW hCW ⊢
  generalize w.heap.size = G at hSW hgt ⊢
  clear hc hf
  have hc := hRW.cell
  have hf := hRW.frozen
  have hs2 := hSW.cell
  go_quiet ((go_at_call 110; exact Calls.quiet_of_same (cB.out _)))
  go_wp2_with fail
  replace hRW := hRW.drewN nq
  replace hSW := hSW.drewN nq
  replace hCW := hCW.drewN nq
  generalize W2.drewN nq = W3 at hRW hSW hCW ⊢
  clear hc hf hs2
  have hc := hRW.cell
  have hf := hRW.frozen
  have hs2 := hSW.cell
  go_still_tail 11, (by kernel_rfl)
  still_call (l1With_v st a ((c + valueAt st b) % 3) W3.drew hs ha hx)
  repeat still_step
  refine wpStill_nil ?_
  change wpList _ _ _ _ _ W3.drew
  go_wp2
  go_end0
  have hE := ((hRW.put 1 (.int .i64 (withValue st a ((c + valueAt st b) % 3)))).put 0 (.int .i64 (p + 1)))
  exact ⟨rfl, hE, (((hCW.put 1 (.int .i64 (withValue st a ((c + valueAt st b) % 3)))).put 0 (.int .i64 (p + 1))).drewN 1)⟩

theorem l2Own_1 (a b c u v y p st wt : Int) (R : Nat) (w : World) (h : Has w R 135 #[.int .i64 p, .int .i64 st, .int .i64 wt]) (hs : 0 ≤ st ∧ st ≤ 80) (hp : 0 ≤ p ∧ p ≤ 100) (hw : 0 ≤ wt ∧ wt ≤ 1000000000000) (ha : 0 ≤ a ∧ a ≤ 3) (hb : 0 ≤ b ∧ b ≤ 3) :
    Calls Try.prog 123 #[.pointer (some ⟨R, 0, none⟩), .agg #[.int .i64 1, .int .i64 a, .int .i64 b, .int .i64 c, .int .i64 u, .int .i64 v, .int .i64 y]] w (Owned w R (p + 1) (withValue st a ((valueAt st a + valueAt st b) % 3)) wt) := by
  have cA := Lib.hid (fun wx => l1At_v st a wx hs ha)
  have hma := valueAt_in hs ha
  have hmb := valueAt_in hs hb
  have hsum : IntKind.i64.wrap (valueAt st a + valueAt st b) = valueAt st a + valueAt st b := by rw [IntKind.wrap_i64]; omega
  have hmod : (valueAt st a + valueAt st b).tmod 3 = (valueAt st a + valueAt st b) % 3 := Int.tmod_eq_emod_of_nonneg (by omega)
  have hx : 0 ≤ (valueAt st a + valueAt st b) % 3 ∧ (valueAt st a + valueAt st b) % 3 ≤ 2 := by omega
  have hc := h.cell
  have hf := h.frozen
  have hl := h.lt
  go_enter Try.func123, Try.ntmps123
  go_wp2_with fail
  go_quiet ((go_at_call 110; exact Calls.quiet_of_same (cA.out _)))
  go_wp2_with fail
  have hRW := (h.alloc (.cells #[.int .i64 1, .int .i64 a, .int .i64 b, .int .i64 c, .int .i64 u, .int .i64 v, .int .i64 y] 78)).drewN nq
  have hSW := (Has.new w 78 #[.int .i64 1, .int .i64 a, .int .i64 b, .int .i64 c, .int .i64 u, .int .i64 v, .int .i64 y]).drewN nq
  have hCW : Chg w ((w.alloc (.cells #[.int .i64 1, .int .i64 a, .int .i64 b, .int .i64 c, .int .i64 u, .int .i64 v, .int .i64 y] 78)).drewN nq) R := ((Chg.refl w R).alloc _).drewN nq
  have hgt : R ≠ w.heap.size := by omega
  generalize World.drewN (w.alloc (.cells #[.int .i64 1, .int .i64 a, .int .i64 b, .int .i64 c, .int .i64 u, .int .i64 v, .int .i64 y] 78)) nq = W2 at hRW hSW hCW ⊢
  generalize w.heap.size = G at hSW hgt ⊢
  clear hc hf
  have hc := hRW.cell
  have hf := hRW.frozen
  have hs2 := hSW.cell
  go_still_tail 20, (by kernel_rfl)
  still_call (l1At_v st b W2.drew hs hb)
  repeat still_step
  still_call (l1With_v st a ((valueAt st a + valueAt st b) % 3) W2.drew hs ha hx)
  repeat still_step
  refine wpStill_nil ?_
  change wpList _ _ _ _ _ W2.drew
  go_wp2
  go_end0
  have hE := ((hRW.put 1 (.int .i64 (withValue st a ((valueAt st a + valueAt st b) % 3)))).put 0 (.int .i64 (p + 1)))
  exact ⟨rfl, hE, (((hCW.put 1 (.int .i64 (withValue st a ((valueAt st a + valueAt st b) % 3)))).put 0 (.int .i64 (p + 1))).drewN 1)⟩

theorem l2Own_4_0 (a b c u v y p st wt : Int) (R : Nat) (w : World) (h : Has w R 135 #[.int .i64 p, .int .i64 st, .int .i64 wt]) (hs : 0 ≤ st ∧ st ≤ 80) (hp : 0 ≤ p ∧ p ≤ 100) (hw : 0 ≤ wt ∧ wt ≤ 1000000000000) (ha : 0 ≤ a ∧ a ≤ 3) (hq : valueAt st a = 0) (hv : 0 ≤ u ∧ u ≤ 9) :
    Calls Try.prog 123 #[.pointer (some ⟨R, 0, none⟩), .agg #[.int .i64 4, .int .i64 a, .int .i64 b, .int .i64 c, .int .i64 u, .int .i64 v, .int .i64 y]] w (Owned w R (p + 1) st (wt * u)) := by
  have cA := Lib.hid (fun wx => l1At_v st a wx hs ha)
  rw [hq] at cA
  have hzz : 0 ≤ wt * u ∧ wt * u ≤ 9000000000000 := by
    have h1 := Int.mul_nonneg hw.1 hv.1
    have h2 : wt * u ≤ wt * 9 := Int.mul_le_mul_of_nonneg_left hv.2 hw.1
    omega
  have hz : IntKind.i64.wrap (wt * u) = wt * u := by rw [IntKind.wrap_i64]; omega
  have hc := h.cell
  have hf := h.frozen
  have hl := h.lt
  go_enter Try.func123, Try.ntmps123
  go_wp2_with fail
  go_quiet ((go_at_call 110; exact Calls.quiet_of_same (cA.out _)))
  go_wp2_with fail
  have hRW := (h.alloc (.cells #[.int .i64 4, .int .i64 a, .int .i64 b, .int .i64 c, .int .i64 u, .int .i64 v, .int .i64 y] 78)).drewN nq
  have hSW := (Has.new w 78 #[.int .i64 4, .int .i64 a, .int .i64 b, .int .i64 c, .int .i64 u, .int .i64 v, .int .i64 y]).drewN nq
  have hCW : Chg w ((w.alloc (.cells #[.int .i64 4, .int .i64 a, .int .i64 b, .int .i64 c, .int .i64 u, .int .i64 v, .int .i64 y] 78)).drewN nq) R := ((Chg.refl w R).alloc _).drewN nq
  have hgt : R ≠ w.heap.size := by omega
  generalize World.drewN (w.alloc (.cells #[.int .i64 4, .int .i64 a, .int .i64 b, .int .i64 c, .int .i64 u, .int .i64 v, .int .i64 y] 78)) nq = W2 at hRW hSW hCW ⊢
  generalize w.heap.size = G at hSW hgt ⊢
  clear hc hf
  have hc := hRW.cell
  have hf := hRW.frozen
  have hs2 := hSW.cell
  go_still_tail 12, (by kernel_rfl)
  change wpList _ _ _ _ _ W2.drew
  go_wp2
  go_end0
  have hE := ((hRW.put 2 (.int .i64 (wt * u))).put 0 (.int .i64 (p + 1)))
  exact ⟨rfl, hE, (((hCW.put 2 (.int .i64 (wt * u))).put 0 (.int .i64 (p + 1))).drewN 1)⟩

theorem l2Own_4_1 (a b c u v y p st wt : Int) (R : Nat) (w : World) (h : Has w R 135 #[.int .i64 p, .int .i64 st, .int .i64 wt]) (hs : 0 ≤ st ∧ st ≤ 80) (hp : 0 ≤ p ∧ p ≤ 100) (hw : 0 ≤ wt ∧ wt ≤ 1000000000000) (ha : 0 ≤ a ∧ a ≤ 3) (hq : valueAt st a = 1) (hv : 0 ≤ v ∧ v ≤ 9) :
    Calls Try.prog 123 #[.pointer (some ⟨R, 0, none⟩), .agg #[.int .i64 4, .int .i64 a, .int .i64 b, .int .i64 c, .int .i64 u, .int .i64 v, .int .i64 y]] w (Owned w R (p + 1) st (wt * v)) := by
  have cA := Lib.hid (fun wx => l1At_v st a wx hs ha)
  rw [hq] at cA
  have hzz : 0 ≤ wt * v ∧ wt * v ≤ 9000000000000 := by
    have h1 := Int.mul_nonneg hw.1 hv.1
    have h2 : wt * v ≤ wt * 9 := Int.mul_le_mul_of_nonneg_left hv.2 hw.1
    omega
  have hz : IntKind.i64.wrap (wt * v) = wt * v := by rw [IntKind.wrap_i64]; omega
  have hc := h.cell
  have hf := h.frozen
  have hl := h.lt
  go_enter Try.func123, Try.ntmps123
  go_wp2_with fail
  go_quiet ((go_at_call 110; exact Calls.quiet_of_same (cA.out _)))
  go_wp2_with fail
  have hRW := (h.alloc (.cells #[.int .i64 4, .int .i64 a, .int .i64 b, .int .i64 c, .int .i64 u, .int .i64 v, .int .i64 y] 78)).drewN nq
  have hSW := (Has.new w 78 #[.int .i64 4, .int .i64 a, .int .i64 b, .int .i64 c, .int .i64 u, .int .i64 v, .int .i64 y]).drewN nq
  have hCW : Chg w ((w.alloc (.cells #[.int .i64 4, .int .i64 a, .int .i64 b, .int .i64 c, .int .i64 u, .int .i64 v, .int .i64 y] 78)).drewN nq) R := ((Chg.refl w R).alloc _).drewN nq
  have hgt : R ≠ w.heap.size := by omega
  generalize World.drewN (w.alloc (.cells #[.int .i64 4, .int .i64 a, .int .i64 b, .int .i64 c, .int .i64 u, .int .i64 v, .int .i64 y] 78)) nq = W2 at hRW hSW hCW ⊢
  generalize w.heap.size = G at hSW hgt ⊢
  clear hc hf
  have hc := hRW.cell
  have hf := hRW.frozen
  have hs2 := hSW.cell
  go_still_tail 12, (by kernel_rfl)
  change wpList _ _ _ _ _ W2.drew
  go_wp2
  go_end0
  have hE := ((hRW.put 2 (.int .i64 (wt * v))).put 0 (.int .i64 (p + 1)))
  exact ⟨rfl, hE, (((hCW.put 2 (.int .i64 (wt * v))).put 0 (.int .i64 (p + 1))).drewN 1)⟩

theorem l2Own_4_2 (a b c u v y p st wt : Int) (R : Nat) (w : World) (h : Has w R 135 #[.int .i64 p, .int .i64 st, .int .i64 wt]) (hs : 0 ≤ st ∧ st ≤ 80) (hp : 0 ≤ p ∧ p ≤ 100) (hw : 0 ≤ wt ∧ wt ≤ 1000000000000) (ha : 0 ≤ a ∧ a ≤ 3) (hq : valueAt st a = 2) (hv : 0 ≤ y ∧ y ≤ 9) :
    Calls Try.prog 123 #[.pointer (some ⟨R, 0, none⟩), .agg #[.int .i64 4, .int .i64 a, .int .i64 b, .int .i64 c, .int .i64 u, .int .i64 v, .int .i64 y]] w (Owned w R (p + 1) st (wt * y)) := by
  have cA := Lib.hid (fun wx => l1At_v st a wx hs ha)
  rw [hq] at cA
  have hzz : 0 ≤ wt * y ∧ wt * y ≤ 9000000000000 := by
    have h1 := Int.mul_nonneg hw.1 hv.1
    have h2 : wt * y ≤ wt * 9 := Int.mul_le_mul_of_nonneg_left hv.2 hw.1
    omega
  have hz : IntKind.i64.wrap (wt * y) = wt * y := by rw [IntKind.wrap_i64]; omega
  have hc := h.cell
  have hf := h.frozen
  have hl := h.lt
  go_enter Try.func123, Try.ntmps123
  go_wp2_with fail
  go_quiet ((go_at_call 110; exact Calls.quiet_of_same (cA.out _)))
  go_wp2_with fail
  have hRW := (h.alloc (.cells #[.int .i64 4, .int .i64 a, .int .i64 b, .int .i64 c, .int .i64 u, .int .i64 v, .int .i64 y] 78)).drewN nq
  have hSW := (Has.new w 78 #[.int .i64 4, .int .i64 a, .int .i64 b, .int .i64 c, .int .i64 u, .int .i64 v, .int .i64 y]).drewN nq
  have hCW : Chg w ((w.alloc (.cells #[.int .i64 4, .int .i64 a, .int .i64 b, .int .i64 c, .int .i64 u, .int .i64 v, .int .i64 y] 78)).drewN nq) R := ((Chg.refl w R).alloc _).drewN nq
  have hgt : R ≠ w.heap.size := by omega
  generalize World.drewN (w.alloc (.cells #[.int .i64 4, .int .i64 a, .int .i64 b, .int .i64 c, .int .i64 u, .int .i64 v, .int .i64 y] 78)) nq = W2 at hRW hSW hCW ⊢
  generalize w.heap.size = G at hSW hgt ⊢
  clear hc hf
  have hc := hRW.cell
  have hf := hRW.frozen
  have hs2 := hSW.cell
  go_still_tail 12, (by kernel_rfl)
  change wpList _ _ _ _ _ W2.drew
  go_wp2
  go_end0
  have hE := ((hRW.put 2 (.int .i64 (wt * y))).put 0 (.int .i64 (p + 1)))
  exact ⟨rfl, hE, (((hCW.put 2 (.int .i64 (wt * y))).put 0 (.int .i64 (p + 1))).drewN 1)⟩

theorem l2Own_5_0 (a b c u v y p st wt : Int) (R : Nat) (w : World) (h : Has w R 135 #[.int .i64 p, .int .i64 st, .int .i64 wt]) (hs : 0 ≤ st ∧ st ≤ 80) (hp : 0 ≤ p ∧ p ≤ 100) (hw : 0 ≤ wt ∧ wt ≤ 1000000000000) (ha : 0 ≤ a ∧ a ≤ 3) (hb : 0 ≤ b ∧ b ≤ 3) (hq : (valueAt st a + valueAt st b) % 3 = 0) (hv : 0 ≤ u ∧ u ≤ 9) :
    Calls Try.prog 123 #[.pointer (some ⟨R, 0, none⟩), .agg #[.int .i64 5, .int .i64 a, .int .i64 b, .int .i64 c, .int .i64 u, .int .i64 v, .int .i64 y]] w (Owned w R (p + 1) st (wt * u)) := by
  have cA := Lib.hid (fun wx => l1At_v st a wx hs ha)
  have hma := valueAt_in hs ha
  have hmb := valueAt_in hs hb
  have hsum : IntKind.i64.wrap (valueAt st a + valueAt st b) = valueAt st a + valueAt st b := by rw [IntKind.wrap_i64]; omega
  have hmod : (valueAt st a + valueAt st b).tmod 3 = 0 := (Int.tmod_eq_emod_of_nonneg (by omega)).trans hq
  have hzz : 0 ≤ wt * u ∧ wt * u ≤ 9000000000000 := by
    have h1 := Int.mul_nonneg hw.1 hv.1
    have h2 : wt * u ≤ wt * 9 := Int.mul_le_mul_of_nonneg_left hv.2 hw.1
    omega
  have hz : IntKind.i64.wrap (wt * u) = wt * u := by rw [IntKind.wrap_i64]; omega
  have hc := h.cell
  have hf := h.frozen
  have hl := h.lt
  go_enter Try.func123, Try.ntmps123
  go_wp2_with fail
  go_quiet ((go_at_call 110; exact Calls.quiet_of_same (cA.out _)))
  go_wp2_with fail
  have hRW := (h.alloc (.cells #[.int .i64 5, .int .i64 a, .int .i64 b, .int .i64 c, .int .i64 u, .int .i64 v, .int .i64 y] 78)).drewN nq
  have hSW := (Has.new w 78 #[.int .i64 5, .int .i64 a, .int .i64 b, .int .i64 c, .int .i64 u, .int .i64 v, .int .i64 y]).drewN nq
  have hCW : Chg w ((w.alloc (.cells #[.int .i64 5, .int .i64 a, .int .i64 b, .int .i64 c, .int .i64 u, .int .i64 v, .int .i64 y] 78)).drewN nq) R := ((Chg.refl w R).alloc _).drewN nq
  have hgt : R ≠ w.heap.size := by omega
  generalize World.drewN (w.alloc (.cells #[.int .i64 5, .int .i64 a, .int .i64 b, .int .i64 c, .int .i64 u, .int .i64 v, .int .i64 y] 78)) nq = W2 at hRW hSW hCW ⊢
  generalize w.heap.size = G at hSW hgt ⊢
  clear hc hf
  have hc := hRW.cell
  have hf := hRW.frozen
  have hs2 := hSW.cell
  go_still_tail 21, (by kernel_rfl)
  still_call (l1At_v st b W2.drew hs hb)
  repeat still_step
  refine wpStill_nil ?_
  change wpList _ _ _ _ _ W2.drew
  go_wp2
  go_end0
  have hE := ((hRW.put 2 (.int .i64 (wt * u))).put 0 (.int .i64 (p + 1)))
  exact ⟨rfl, hE, (((hCW.put 2 (.int .i64 (wt * u))).put 0 (.int .i64 (p + 1))).drewN 1)⟩

theorem l2Own_5_1 (a b c u v y p st wt : Int) (R : Nat) (w : World) (h : Has w R 135 #[.int .i64 p, .int .i64 st, .int .i64 wt]) (hs : 0 ≤ st ∧ st ≤ 80) (hp : 0 ≤ p ∧ p ≤ 100) (hw : 0 ≤ wt ∧ wt ≤ 1000000000000) (ha : 0 ≤ a ∧ a ≤ 3) (hb : 0 ≤ b ∧ b ≤ 3) (hq : (valueAt st a + valueAt st b) % 3 = 1) (hv : 0 ≤ v ∧ v ≤ 9) :
    Calls Try.prog 123 #[.pointer (some ⟨R, 0, none⟩), .agg #[.int .i64 5, .int .i64 a, .int .i64 b, .int .i64 c, .int .i64 u, .int .i64 v, .int .i64 y]] w (Owned w R (p + 1) st (wt * v)) := by
  have cA := Lib.hid (fun wx => l1At_v st a wx hs ha)
  have hma := valueAt_in hs ha
  have hmb := valueAt_in hs hb
  have hsum : IntKind.i64.wrap (valueAt st a + valueAt st b) = valueAt st a + valueAt st b := by rw [IntKind.wrap_i64]; omega
  have hmod : (valueAt st a + valueAt st b).tmod 3 = 1 := (Int.tmod_eq_emod_of_nonneg (by omega)).trans hq
  have hzz : 0 ≤ wt * v ∧ wt * v ≤ 9000000000000 := by
    have h1 := Int.mul_nonneg hw.1 hv.1
    have h2 : wt * v ≤ wt * 9 := Int.mul_le_mul_of_nonneg_left hv.2 hw.1
    omega
  have hz : IntKind.i64.wrap (wt * v) = wt * v := by rw [IntKind.wrap_i64]; omega
  have hc := h.cell
  have hf := h.frozen
  have hl := h.lt
  go_enter Try.func123, Try.ntmps123
  go_wp2_with fail
  go_quiet ((go_at_call 110; exact Calls.quiet_of_same (cA.out _)))
  go_wp2_with fail
  have hRW := (h.alloc (.cells #[.int .i64 5, .int .i64 a, .int .i64 b, .int .i64 c, .int .i64 u, .int .i64 v, .int .i64 y] 78)).drewN nq
  have hSW := (Has.new w 78 #[.int .i64 5, .int .i64 a, .int .i64 b, .int .i64 c, .int .i64 u, .int .i64 v, .int .i64 y]).drewN nq
  have hCW : Chg w ((w.alloc (.cells #[.int .i64 5, .int .i64 a, .int .i64 b, .int .i64 c, .int .i64 u, .int .i64 v, .int .i64 y] 78)).drewN nq) R := ((Chg.refl w R).alloc _).drewN nq
  have hgt : R ≠ w.heap.size := by omega
  generalize World.drewN (w.alloc (.cells #[.int .i64 5, .int .i64 a, .int .i64 b, .int .i64 c, .int .i64 u, .int .i64 v, .int .i64 y] 78)) nq = W2 at hRW hSW hCW ⊢
  generalize w.heap.size = G at hSW hgt ⊢
  clear hc hf
  have hc := hRW.cell
  have hf := hRW.frozen
  have hs2 := hSW.cell
  go_still_tail 21, (by kernel_rfl)
  still_call (l1At_v st b W2.drew hs hb)
  repeat still_step
  refine wpStill_nil ?_
  change wpList _ _ _ _ _ W2.drew
  go_wp2
  go_end0
  have hE := ((hRW.put 2 (.int .i64 (wt * v))).put 0 (.int .i64 (p + 1)))
  exact ⟨rfl, hE, (((hCW.put 2 (.int .i64 (wt * v))).put 0 (.int .i64 (p + 1))).drewN 1)⟩

theorem l2Own_5_2 (a b c u v y p st wt : Int) (R : Nat) (w : World) (h : Has w R 135 #[.int .i64 p, .int .i64 st, .int .i64 wt]) (hs : 0 ≤ st ∧ st ≤ 80) (hp : 0 ≤ p ∧ p ≤ 100) (hw : 0 ≤ wt ∧ wt ≤ 1000000000000) (ha : 0 ≤ a ∧ a ≤ 3) (hb : 0 ≤ b ∧ b ≤ 3) (hq : (valueAt st a + valueAt st b) % 3 = 2) (hv : 0 ≤ y ∧ y ≤ 9) :
    Calls Try.prog 123 #[.pointer (some ⟨R, 0, none⟩), .agg #[.int .i64 5, .int .i64 a, .int .i64 b, .int .i64 c, .int .i64 u, .int .i64 v, .int .i64 y]] w (Owned w R (p + 1) st (wt * y)) := by
  have cA := Lib.hid (fun wx => l1At_v st a wx hs ha)
  have hma := valueAt_in hs ha
  have hmb := valueAt_in hs hb
  have hsum : IntKind.i64.wrap (valueAt st a + valueAt st b) = valueAt st a + valueAt st b := by rw [IntKind.wrap_i64]; omega
  have hmod : (valueAt st a + valueAt st b).tmod 3 = 2 := (Int.tmod_eq_emod_of_nonneg (by omega)).trans hq
  have hzz : 0 ≤ wt * y ∧ wt * y ≤ 9000000000000 := by
    have h1 := Int.mul_nonneg hw.1 hv.1
    have h2 : wt * y ≤ wt * 9 := Int.mul_le_mul_of_nonneg_left hv.2 hw.1
    omega
  have hz : IntKind.i64.wrap (wt * y) = wt * y := by rw [IntKind.wrap_i64]; omega
  have hc := h.cell
  have hf := h.frozen
  have hl := h.lt
  go_enter Try.func123, Try.ntmps123
  go_wp2_with fail
  go_quiet ((go_at_call 110; exact Calls.quiet_of_same (cA.out _)))
  go_wp2_with fail
  have hRW := (h.alloc (.cells #[.int .i64 5, .int .i64 a, .int .i64 b, .int .i64 c, .int .i64 u, .int .i64 v, .int .i64 y] 78)).drewN nq
  have hSW := (Has.new w 78 #[.int .i64 5, .int .i64 a, .int .i64 b, .int .i64 c, .int .i64 u, .int .i64 v, .int .i64 y]).drewN nq
  have hCW : Chg w ((w.alloc (.cells #[.int .i64 5, .int .i64 a, .int .i64 b, .int .i64 c, .int .i64 u, .int .i64 v, .int .i64 y] 78)).drewN nq) R := ((Chg.refl w R).alloc _).drewN nq
  have hgt : R ≠ w.heap.size := by omega
  generalize World.drewN (w.alloc (.cells #[.int .i64 5, .int .i64 a, .int .i64 b, .int .i64 c, .int .i64 u, .int .i64 v, .int .i64 y] 78)) nq = W2 at hRW hSW hCW ⊢
  generalize w.heap.size = G at hSW hgt ⊢
  clear hc hf
  have hc := hRW.cell
  have hf := hRW.frozen
  have hs2 := hSW.cell
  go_still_tail 21, (by kernel_rfl)
  still_call (l1At_v st b W2.drew hs hb)
  repeat still_step
  refine wpStill_nil ?_
  change wpList _ _ _ _ _ W2.drew
  go_wp2
  go_end0
  have hE := ((hRW.put 2 (.int .i64 (wt * y))).put 0 (.int .i64 (p + 1)))
  exact ⟨rfl, hE, (((hCW.put 2 (.int .i64 (wt * y))).put 0 (.int .i64 (p + 1))).drewN 1)⟩

theorem l2Own_6y (a b c u v y p st wt : Int) (R : Nat) (w : World) (h : Has w R 135 #[.int .i64 p, .int .i64 st, .int .i64 wt]) (hs : 0 ≤ st ∧ st ≤ 80) (hp : 0 ≤ p ∧ p ≤ 100) (hw : 0 ≤ wt ∧ wt ≤ 1000000000000) (ha : 0 ≤ a ∧ a ≤ 3) (hb : 0 ≤ b ∧ b ≤ 12) (hq : valueAt st a = c) :
    Calls Try.prog 123 #[.pointer (some ⟨R, 0, none⟩), .agg #[.int .i64 6, .int .i64 a, .int .i64 b, .int .i64 c, .int .i64 u, .int .i64 v, .int .i64 y]] w (Owned w R (p + b + 1) st wt) := by
  subst hq
  have cA := Lib.hid (fun wx => l1At_v st a wx hs ha)
  have hc := h.cell
  have hf := h.frozen
  have hl := h.lt
  go_enter Try.func123, Try.ntmps123
  go_wp2_with fail
  go_quiet ((go_at_call 110; exact Calls.quiet_of_same (cA.out _)))
  go_wp2_with fail
  have hRW := (h.alloc (.cells #[.int .i64 6, .int .i64 a, .int .i64 b, .int .i64 (valueAt st a), .int .i64 u, .int .i64 v, .int .i64 y] 78)).drewN nq
  have hSW := (Has.new w 78 #[.int .i64 6, .int .i64 a, .int .i64 b, .int .i64 (valueAt st a), .int .i64 u, .int .i64 v, .int .i64 y]).drewN nq
  have hCW : Chg w ((w.alloc (.cells #[.int .i64 6, .int .i64 a, .int .i64 b, .int .i64 (valueAt st a), .int .i64 u, .int .i64 v, .int .i64 y] 78)).drewN nq) R := ((Chg.refl w R).alloc _).drewN nq
  have hgt : R ≠ w.heap.size := by omega
  generalize World.drewN (w.alloc (.cells #[.int .i64 6, .int .i64 a, .int .i64 b, .int .i64 (valueAt st a), .int .i64 u, .int .i64 v, .int .i64 y] 78)) nq = W2 at hRW hSW hCW ⊢
  generalize w.heap.size = G at hSW hgt ⊢
  clear hc hf
  have hc := hRW.cell
  have hf := hRW.frozen
  have hs2 := hSW.cell
  go_still_tail 10, (by kernel_rfl)
  change wpList _ _ _ _ _ W2.drew
  go_wp2
  go_end0
  have hE := ((hRW.put 0 (.int .i64 (p + b))).put 0 (.int .i64 (p + b + 1)))
  exact ⟨rfl, hE, (((hCW.put 0 (.int .i64 (p + b))).put 0 (.int .i64 (p + b + 1))).drewN 1)⟩

theorem l2Own_6n (a b c u v y p st wt : Int) (R : Nat) (w : World) (h : Has w R 135 #[.int .i64 p, .int .i64 st, .int .i64 wt]) (hs : 0 ≤ st ∧ st ≤ 80) (hp : 0 ≤ p ∧ p ≤ 100) (hw : 0 ≤ wt ∧ wt ≤ 1000000000000) (ha : 0 ≤ a ∧ a ≤ 3) (hq : valueAt st a ≠ c) :
    Calls Try.prog 123 #[.pointer (some ⟨R, 0, none⟩), .agg #[.int .i64 6, .int .i64 a, .int .i64 b, .int .i64 c, .int .i64 u, .int .i64 v, .int .i64 y]] w (Owned w R (p + 1) st wt) := by
  have cA := Lib.hid (fun wx => l1At_v st a wx hs ha)
  have hq' : (valueAt st a == c) = false := by simpa using hq
  clear hq
  have hc := h.cell
  have hf := h.frozen
  have hl := h.lt
  go_enter Try.func123, Try.ntmps123
  go_wp2_with fail
  go_quiet ((go_at_call 110; exact Calls.quiet_of_same (cA.out _)))
  go_wp2_with fail
  have hRW := (h.alloc (.cells #[.int .i64 6, .int .i64 a, .int .i64 b, .int .i64 c, .int .i64 u, .int .i64 v, .int .i64 y] 78)).drewN nq
  have hSW := (Has.new w 78 #[.int .i64 6, .int .i64 a, .int .i64 b, .int .i64 c, .int .i64 u, .int .i64 v, .int .i64 y]).drewN nq
  have hCW : Chg w ((w.alloc (.cells #[.int .i64 6, .int .i64 a, .int .i64 b, .int .i64 c, .int .i64 u, .int .i64 v, .int .i64 y] 78)).drewN nq) R := ((Chg.refl w R).alloc _).drewN nq
  have hgt : R ≠ w.heap.size := by omega
  generalize World.drewN (w.alloc (.cells #[.int .i64 6, .int .i64 a, .int .i64 b, .int .i64 c, .int .i64 u, .int .i64 v, .int .i64 y] 78)) nq = W2 at hRW hSW hCW ⊢
  generalize w.heap.size = G at hSW hgt ⊢
  clear hc hf
  have hc := hRW.cell
  have hf := hRW.frozen
  have hs2 := hSW.cell
  go_wp2
  go_end0
  have hE := (hRW.put 0 (.int .i64 (p + 1)))
  exact ⟨rfl, hE, (hCW.put 0 (.int .i64 (p + 1)))⟩

end Go.Proofs.Ytbndonfpdioibaa

namespace Go.Proofs.Ytbndonfpdioibaa
set_option maxRecDepth 100000
set_option linter.unusedVariables false
open Go.RowKit

theorem wok_bd {u v y : Int} (h : wOk u v y = true) : (0 ≤ u ∧ u ≤ 9) ∧ (0 ≤ v ∧ v ≤ 9) ∧ 0 ≤ y ∧ y ≤ 9 := by
  unfold wOk at h
  simp [inB_iff] at h
  omega

theorem owned_eq {w : World} {R : Nat} {p p' st st' wt wt' : Int} {f : FuncId} {args : Array Value} (h : Calls Try.prog f args w (Owned w R p st wt)) (h1 : p = p') (h2 : st = st') (h3 : wt = wt') : Calls Try.prog f args w (Owned w R p' st' wt') := by
  subst h1 h2 h3; exact h

theorem l2Own_any (s : St) (r : Rn) (R : Nat) (w : World) (hs : s.ok = true) (hd : s.draws = false) (h7 : s.notLoop = true) (hf : r.fit) (hp : r.pos ≤ 12) (h : Has w R 135 #[.int .i64 r.pos, .int .i64 r.st, .int .i64 r.wt]) :
    Calls Try.prog 123 #[.pointer (some ⟨R, 0, none⟩), .agg #[.int .i64 s.k, .int .i64 s.a, .int .i64 s.b, .int .i64 s.c, .int .i64 s.u, .int .i64 s.v, .int .i64 s.x]] w (Owned w R (Rn.step s r 0).pos (Rn.step s r 0).st (Rn.step s r 0).wt) := by
  have hsm := hf.small hp
  obtain ⟨g0, g1, g2, _⟩ := hf
  have hst : 0 ≤ r.st ∧ r.st ≤ 80 := ⟨g0, g1⟩
  have hpp : 0 ≤ (r.pos : Int) ∧ (r.pos : Int) ≤ 100 := by omega
  have hww : 0 ≤ r.wt ∧ r.wt ≤ 1000000000000 := by omega
  obtain ⟨k, a, b, c, u, v, y⟩ := s
  rcases ok_rng hs with ⟨rfl, h1, h2, h3, h4, h5, h6⟩ | ⟨rfl, h1, h2, h3, h4, h5⟩ | ⟨rfl, h1, h2, h3⟩ | ⟨rfl, h1, h2, h3, h4, h5⟩ | ⟨rfl, h1, h2, h3⟩ | ⟨rfl, h1, h2, h3, h4, h5⟩ | ⟨rfl, h1, h2, h3, h4, h5, h6⟩ | ⟨rfl, h1, h2, h3, h4, h5⟩
  · by_cases hb : b = -1
    · exact owned_eq (l2Own_0n a b c u v y r.pos r.st r.wt R w h hst hpp hww ⟨h1, h2⟩ hb ⟨h5, h6⟩) (by simp [Rn.step, St.jump]) (by simp [Rn.step, St.next, hb]; rw [mod3 ⟨h5, h6⟩]) (by simp [Rn.step, St.fac])
    · exact owned_eq (l2Own_0b a b c u v y r.pos r.st r.wt R w h hst hpp hww ⟨h1, h2⟩ ⟨by omega, h4⟩ ⟨h5, h6⟩) (by simp [Rn.step, St.jump]) (by simp [Rn.step, St.next, hb]) (by simp [Rn.step, St.fac])
  · exact owned_eq (l2Own_1 a b c u v y r.pos r.st r.wt R w h hst hpp hww ⟨h1, h2⟩ ⟨h3, h4⟩) (by simp [Rn.step, St.jump]) (by simp [Rn.step, St.next]) (by simp [Rn.step, St.fac])
  · simp [St.draws] at hd
  · simp [St.draws] at hd
  · rw [ok_4] at hs
    have hw := wok_bd (by simp at hs; exact hs.2)
    have hv := valueAt_in hst ⟨h1, h2⟩
    obtain hq | hq | hq : valueAt r.st a = 0 ∨ valueAt r.st a = 1 ∨ valueAt r.st a = 2 := by omega
    · exact owned_eq (l2Own_4_0 a b c u v y r.pos r.st r.wt R w h hst hpp hww ⟨h1, h2⟩ hq hw.1) (by simp [Rn.step, St.jump]) (by simp [Rn.step, St.next]) (by simp [Rn.step, St.fac, St.next, hq, St.wgt])
    · exact owned_eq (l2Own_4_1 a b c u v y r.pos r.st r.wt R w h hst hpp hww ⟨h1, h2⟩ hq hw.2.1) (by simp [Rn.step, St.jump]) (by simp [Rn.step, St.next]) (by simp [Rn.step, St.fac, St.next, hq, St.wgt])
    · exact owned_eq (l2Own_4_2 a b c u v y r.pos r.st r.wt R w h hst hpp hww ⟨h1, h2⟩ hq hw.2.2) (by simp [Rn.step, St.jump]) (by simp [Rn.step, St.next]) (by simp [Rn.step, St.fac, St.next, hq, St.wgt])
  · rw [ok_5] at hs
    have hw := wok_bd (by simp at hs; exact hs.2)
    obtain hq | hq | hq : (valueAt r.st a + valueAt r.st b) % 3 = 0 ∨ (valueAt r.st a + valueAt r.st b) % 3 = 1 ∨ (valueAt r.st a + valueAt r.st b) % 3 = 2 := by omega
    · exact owned_eq (l2Own_5_0 a b c u v y r.pos r.st r.wt R w h hst hpp hww ⟨h1, h2⟩ ⟨h3, h4⟩ hq hw.1) (by simp [Rn.step, St.jump]) (by simp [Rn.step, St.next]) (by simp [Rn.step, St.fac, St.next, hq, St.wgt])
    · exact owned_eq (l2Own_5_1 a b c u v y r.pos r.st r.wt R w h hst hpp hww ⟨h1, h2⟩ ⟨h3, h4⟩ hq hw.2.1) (by simp [Rn.step, St.jump]) (by simp [Rn.step, St.next]) (by simp [Rn.step, St.fac, St.next, hq, St.wgt])
    · exact owned_eq (l2Own_5_2 a b c u v y r.pos r.st r.wt R w h hst hpp hww ⟨h1, h2⟩ ⟨h3, h4⟩ hq hw.2.2) (by simp [Rn.step, St.jump]) (by simp [Rn.step, St.next]) (by simp [Rn.step, St.fac, St.next, hq, St.wgt])
  · by_cases hq : valueAt r.st a = c
    · exact owned_eq (l2Own_6y a b c u v y r.pos r.st r.wt R w h hst hpp hww ⟨h1, h2⟩ ⟨by omega, h4⟩ hq) (by simp [Rn.step, St.jump, hq]; omega) (by simp [Rn.step, St.next]) (by simp [Rn.step, St.fac])
    · exact owned_eq (l2Own_6n a b c u v y r.pos r.st r.wt R w h hst hpp hww ⟨h1, h2⟩ hq) (by simp [Rn.step, St.jump, hq]) (by simp [Rn.step, St.next]) (by simp [Rn.step, St.fac])
  · simp [St.notLoop] at h7

theorem l2Draws_any (s : St) (w : World) :
    Calls Try.prog 119 #[.agg #[.int .i64 s.k, .int .i64 s.a, .int .i64 s.b, .int .i64 s.c, .int .i64 s.u, .int .i64 s.v, .int .i64 s.x]] w fun e w' => e = .returned (.bool s.draws) ∧ Below w.heap.size w w' := by
  cases hd : s.draws
  · obtain ⟨h2, h3⟩ := draws_no hd
    clear hd
    go_enter Try.func119, Try.ntmps119
    go_wp2
    go_ret
    exact ⟨rfl, (Below.refl _ _).alloc (Nat.le_refl _) _⟩
  · rcases draws_yes hd with h2 | ⟨h2, h3⟩
    all_goals
      clear hd
      go_enter Try.func119, Try.ntmps119
      go_wp2
      go_ret
      exact ⟨rfl, (Below.refl _ _).alloc (Nat.le_refl _) _⟩

theorem l2Weight_2 (a b c u v y st x : Int) (w : World) (hx : 0 ≤ x ∧ x ≤ 2) :
    Calls Try.prog 121 #[.agg #[.int .i64 2, .int .i64 a, .int .i64 b, .int .i64 c, .int .i64 u, .int .i64 v, .int .i64 y], .int .i64 st, .int .i64 x] w fun e w' => e = .returned (.int .i64 ((St.mk 2 a b c u v y).wgt x)) ∧ Below w.heap.size w w' := by
  obtain rfl | rfl | rfl : x = 0 ∨ x = 1 ∨ x = 2 := by omega
  all_goals
    go_enter Try.func121, Try.ntmps121
    go_wp2
    go_ret
    exact ⟨rfl, (Below.refl _ _).alloc (Nat.le_refl _) _⟩

theorem l2Weight_3 (a b c u v y st x : Int) (w : World) (hs : 0 ≤ st ∧ st ≤ 80) (hb : 0 ≤ b ∧ b ≤ 3) (hx : 0 ≤ x ∧ x ≤ 2) :
    Calls Try.prog 121 #[.agg #[.int .i64 3, .int .i64 a, .int .i64 b, .int .i64 c, .int .i64 u, .int .i64 v, .int .i64 y], .int .i64 st, .int .i64 x] w fun e w' => e = .returned (.int .i64 ((St.mk 3 a b c u v y).wgt ((x + valueAt st b) % 3))) ∧ Below w.heap.size w w' := by
  have hmb := valueAt_in hs hb
  have cB := Lib.hid (fun wx => l1At_v st b wx hs hb)
  generalize valueAt st b = m at hmb cB ⊢
  have hsum : IntKind.i64.wrap (x + m) = x + m := by rw [IntKind.wrap_i64]; omega
  obtain hq | hq | hq : (x + m) % 3 = 0 ∨ (x + m) % 3 = 1 ∨ (x + m) % 3 = 2 := by omega
  all_goals
    have hmod := (Int.tmod_eq_emod_of_nonneg (show (0 : Int) ≤ x + m by omega)).trans hq
    rw [hq]
    go_enter Try.func121, Try.ntmps121
    go_wp2_with (go_at_call 110; refine (cB.out _).mono ?_; rintro e w' ⟨rfl, rfl⟩)
    go_ret
    exact ⟨rfl, (Below.refl _ _).alloc (Nat.le_refl _) _⟩

theorem l2Weight_any (s : St) (st x : Int) (w : World) (hs : s.ok = true) (hd : s.draws = true) (h : 0 ≤ st ∧ st ≤ 80) (hx : 0 ≤ x ∧ x ≤ 2) :
    Calls Try.prog 121 #[.agg #[.int .i64 s.k, .int .i64 s.a, .int .i64 s.b, .int .i64 s.c, .int .i64 s.u, .int .i64 s.v, .int .i64 s.x], .int .i64 st, .int .i64 x] w fun e w' => e = .returned (.int .i64 (s.fac (s.next st x))) ∧ Below w.heap.size w w' := by
  obtain ⟨k, a, b, c, u, v, y⟩ := s
  have hr := ok_rng hs
  obtain rfl | rfl : k = 2 ∨ k = 3 := by simpa [St.draws] using hd
  · rw [fac_2 h (by omega) hx]
    exact l2Weight_2 a b c u v y st x w hx
  · rw [fac_3 h (by omega) (by omega) (by omega) hx]
    exact l2Weight_3 a b c u v y st x w h (by omega) hx

theorem next_draw {s : St} (hd : s.draws = true) (st x : Int) : s.next st x = withValue st s.a x := by
  obtain ⟨k, a, b, c, u, v, y⟩ := s
  obtain rfl | rfl : k = 2 ∨ k = 3 := by simpa [St.draws] using hd
  · simp [St.next]
  · simp [St.next]

end Go.Proofs.Ytbndonfpdioibaa
