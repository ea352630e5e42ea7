/- A drawn statement. -/
import Derived.Test.YtjokiminlplbcaaRdr
import Derived.Test.YtjokiminlplbcaaSt
import Derived.Deep.RegionHeld3
namespace Go.Proofs.Ytjokiminlplbcaa
set_option maxRecDepth 100000
open Go.RowKit

theorem Nums.of {w : World} {g L : Nat} {t : TypeId} {cs : Array Value} {P : Int → Prop} (h : Has w g t cs) (hP : ∀ i, i < L → ∃ v, cs[i]? = some (.int .i64 v) ∧ P v) : Nums w g L P := fun i hi => by
  obtain ⟨v, hv, hp⟩ := hP i hi
  exact ⟨v, (h.cell i).trans hv, hp⟩

/-- What a cell holds, or nothing. -/
def cellOr (w : World) (a : Addr) : Value := (w.cell? a).getD undef
theorem cellOr_of {w : World} {a : Addr} {u : Value} (h : w.cell? a = some u) : w.cell? a = some (cellOr w a) := by unfold cellOr; rw [h]; rfl
theorem store_keep {w : World} {g : Nat} {a : Value} (X : Value) (h1 : w.cell? ⟨g, 1, none⟩ = some a) (h2 : w.cell? ⟨g, 2, none⟩ = some (cellOr w ⟨g, 2, none⟩)) (h3 : w.frozen? ⟨g, 2, none⟩ = false) :
    (w.setCell ⟨g, 2, none⟩ X).cell? ⟨g, 1, none⟩ = some a ∧ (w.setCell ⟨g, 2, none⟩ X).cell? ⟨g, 2, none⟩ = some (cellOr (w.setCell ⟨g, 2, none⟩ X) ⟨g, 2, none⟩) ∧ (w.setCell ⟨g, 2, none⟩ X).frozen? ⟨g, 2, none⟩ = false := by
  refine ⟨?_, cellOr_of (u := X) ?_, ?_⟩
  · rw [World.cell?_setCell_other _ _ _ _ (by intro e; injection e with _ e2 _; omega)]; exact h1
  · simp [go_sem, h2]
  · simp [go_sem, h3]

def Stmtd (w : World) (B R : Nat) (A : Option Addr) (n c p : Nat) (e : Ending) (w' : World) : Prop :=
  ∃ (k a b d u v x : Int) (p' : Nat), e = .returned (.agg #[.int .i64 k, .int .i64 a, .int .i64 b, .int .i64 d, .int .i64 u, .int .i64 v, .int .i64 x]) ∧ p' ≤ p + 12 ∧ Rdr w' B R A n c p' ∧ Chg w w' R

set_option maxHeartbeats 4000000 in
theorem l1Stmt_any (R : Nat) (A : Option Addr) (n c p B : Nat) (w : World) (h : Rdr w B R A n c p) (hp : p ≤ 900000) (hn : n ≤ 2000) (hB : B ≤ w.heap.size) :
    Calls Try.prog 108 #[.pointer (some ⟨R, 0, none⟩)] w (Stmtd w B R A n c p) := by
  have hlt := h.lt
  have hx1 : Has ((w.alloc (.cells #[.int .i64 0, .int .i64 0, .int .i64 0, .int .i64 0, .int .i64 0, .int .i64 0, .int .i64 0] 83)).alloc (.cells #[.int .i64 2, .int .i64 2, .int .i64 2, .int .i64 3, .int .i64 3, .int .i64 4, .int .i64 5, .int .i64 0, .int .i64 1, .int .i64 6] 3)) (w.heap.size + 1) 3 #[.int .i64 2, .int .i64 2, .int .i64 2, .int .i64 3, .int .i64 3, .int .i64 4, .int .i64 5, .int .i64 0, .int .i64 1, .int .i64 6] := by
    have := Has.new (w.alloc (.cells #[.int .i64 0, .int .i64 0, .int .i64 0, .int .i64 0, .int .i64 0, .int .i64 0, .int .i64 0] 83)) 3 #[.int .i64 2, .int .i64 2, .int .i64 2, .int .i64 3, .int .i64 3, .int .i64 4, .int .i64 5, .int .i64 0, .int .i64 1, .int .i64 6]
    simpa using this
  have hN1 : Nums ((w.alloc (.cells #[.int .i64 0, .int .i64 0, .int .i64 0, .int .i64 0, .int .i64 0, .int .i64 0, .int .i64 0] 83)).alloc (.cells #[.int .i64 2, .int .i64 2, .int .i64 2, .int .i64 3, .int .i64 3, .int .i64 4, .int .i64 5, .int .i64 0, .int .i64 1, .int .i64 6] 3)) (w.heap.size + 1) 10 (fun k => 0 ≤ k ∧ k ≤ 6) := Nums.of hx1 (fun i hi => by
    obtain rfl | rfl | rfl | rfl | rfl | rfl | rfl | rfl | rfl | rfl : i = 0 ∨ i = 1 ∨ i = 2 ∨ i = 3 ∨ i = 4 ∨ i = 5 ∨ i = 6 ∨ i = 7 ∨ i = 8 ∨ i = 9 := by omega
    all_goals exact ⟨_, rfl, by omega, by omega⟩)
  have hN1 := Lib.hid hN1
  clear hx1
  go_enter Try.func108, Try.ntmps108
  go_wp2_with fail
  refine (num_any R A n c p B (w.heap.size + 1) 10 _ (fun k => 0 ≤ k ∧ k ≤ 6) _ ((h.alloc hB _).alloc (by simp; omega) _) (by omega) hn (by omega) (by omega) (by simp) (by omega) hN1.out).mono ?_
  rintro e w1 ⟨k, rfl, ⟨k0, k6⟩, hr1, hc1⟩
  have hC1 := (((Chg.refl w R).alloc (.cells #[.int .i64 0, .int .i64 0, .int .i64 0, .int .i64 0, .int .i64 0, .int .i64 0, .int .i64 0] 83)).alloc (.cells #[.int .i64 2, .int .i64 2, .int .i64 2, .int .i64 3, .int .i64 3, .int .i64 4, .int .i64 5, .int .i64 0, .int .i64 1, .int .i64 6] 3)).trans hc1
  have hz1 : w.heap.size < w1.heap.size := by have h1 := hc1.size; simp at h1; omega
  have hres1 := ((Has.new w 83 #[.int .i64 0, .int .i64 0, .int .i64 0, .int .i64 0, .int .i64 0, .int .i64 0, .int .i64 0]).alloc (.cells #[.int .i64 2, .int .i64 2, .int .i64 2, .int .i64 3, .int .i64 3, .int .i64 4, .int .i64 5, .int .i64 0, .int .i64 1, .int .i64 6] 3)).chg hc1 (by omega)
  clear hc1 h hN1
  have hN2 : Nums (w1.alloc (.cells #[.int .i64 0, .int .i64 1, .int .i64 0, .int .i64 1, .int .i64 2, .int .i64 3] 3)) w1.heap.size 6 (fun k => 0 ≤ k ∧ k ≤ 3) := Nums.of (Has.new w1 3 #[.int .i64 0, .int .i64 1, .int .i64 0, .int .i64 1, .int .i64 2, .int .i64 3]) (fun i hi => by
    obtain rfl | rfl | rfl | rfl | rfl | rfl : i = 0 ∨ i = 1 ∨ i = 2 ∨ i = 3 ∨ i = 4 ∨ i = 5 := by omega
    all_goals exact ⟨_, rfl, by omega, by omega⟩)
  have hN2 := Lib.hid hN2
  go_wp2_with fail
  refine (num_any R A n c _ B w1.heap.size 6 _ (fun k => 0 ≤ k ∧ k ≤ 3) _ (hr1.alloc (by omega) _) (by omega) hn (by omega) (by omega) (by simp) (by omega) hN2.out).mono ?_
  rintro e w2 ⟨a, rfl, ⟨a0, a3⟩, hr2, hc2⟩
  have hch := (hC1.alloc (.cells #[.int .i64 0, .int .i64 1, .int .i64 0, .int .i64 1, .int .i64 2, .int .i64 3] 3)).trans hc2
  have hz2 : w1.heap.size < w2.heap.size := by have h1 := hc2.size; simp at h1; omega
  have hres := (hres1.alloc (.cells #[.int .i64 0, .int .i64 1, .int .i64 0, .int .i64 1, .int .i64 2, .int .i64 3] 3)).chg hc2 (by omega)
  have ho := Has.new w2 83 #[.int .i64 k, .int .i64 a, .int .i64 0, .int .i64 0, .int .i64 0, .int .i64 0, .int .i64 0]
  have hrd := hr2.alloc (by omega) (.cells #[.int .i64 k, .int .i64 a, .int .i64 0, .int .i64 0, .int .i64 0, .int .i64 0, .int .i64 0] 83)
  replace hres := hres.alloc (.cells #[.int .i64 k, .int .i64 a, .int .i64 0, .int .i64 0, .int .i64 0, .int .i64 0, .int .i64 0] 83)
  replace hch := hch.alloc (.cells #[.int .i64 k, .int .i64 a, .int .i64 0, .int .i64 0, .int .i64 0, .int .i64 0, .int .i64 0] 83)
  clear hC1 hc2 hres1 hr1 hr2 hN2
  obtain rfl | rfl | rfl | rfl | rfl | rfl | rfl : k = 0 ∨ k = 1 ∨ k = 2 ∨ k = 3 ∨ k = 4 ∨ k = 5 ∨ k = 6 := by omega
  · go_wp2_with fail
    refine (pick_any R A n c _ B _ _ hrd (by omega) hn (by omega)).mono ?_
    rintro e q1 ⟨v1, rfl, lo1, hi1, hrq, hcq⟩
    replace ho := ho.chg hcq (by omega)
    replace hres := hres.chg hcq (by omega)
    replace hch := hch.trans hcq
    clear hcq
    have co := ho.cell
    have fo := ho.frozen
    replace ho := ho.put 2 (.int .i64 (v1 - 1))
    replace hrd := hrq.new (q := ⟨w2.heap.size, 2, none⟩) (by simp; omega) (by simp; omega) (.int .i64 (v1 - 1))
    replace hch := hch.new (q := ⟨w2.heap.size, 2, none⟩) (by simp; omega) (.int .i64 (v1 - 1))
    replace hres := hres.far (p := ⟨w2.heap.size, 2, none⟩) (by simp; omega) (.int .i64 (v1 - 1))
    clear hrq
    go_wp2_with fail
    refine (pick_any R A n c _ B _ _ hrd (by omega) hn (by omega)).mono ?_
    rintro e q2 ⟨v2, rfl, lo2, hi2, hrq, hcq⟩
    replace ho := ho.chg hcq (by omega)
    replace hres := hres.chg hcq (by omega)
    replace hch := hch.trans hcq
    clear hcq
    have co := ho.cell
    have fo := ho.frozen
    replace ho := ho.put 3 (.int .i64 (v2))
    replace hrd := hrq.new (q := ⟨w2.heap.size, 3, none⟩) (by simp; omega) (by simp; omega) (.int .i64 (v2))
    replace hch := hch.new (q := ⟨w2.heap.size, 3, none⟩) (by simp; omega) (.int .i64 (v2))
    replace hres := hres.far (p := ⟨w2.heap.size, 3, none⟩) (by simp; omega) (.int .i64 (v2))
    clear hrq
    have co := ho.cell
    have cr := hres.cell
    have fr := hres.frozen
    go_wp2
    refine bodyPost_ret (v := .agg #[.int .i64 (0), .int .i64 (a), .int .i64 (v1 - 1), .int .i64 (v2), .int .i64 (0), .int .i64 (0), .int .i64 (0)]) (by simp [results, Try.results108, go_sem, cr]) rfl ⟨_, _, _, _, _, _, _, p + 1 + 1 + 1 + 1, rfl, by omega, ?_, ?_⟩
    · exact (((((((hrd.new (q := ⟨w.heap.size, 0, none⟩) hB (by simp; omega) _).new (q := ⟨w.heap.size, 1, none⟩) hB (by simp; omega) _).new (q := ⟨w.heap.size, 2, none⟩) hB (by simp; omega) _).new (q := ⟨w.heap.size, 3, none⟩) hB (by simp; omega) _).new (q := ⟨w.heap.size, 4, none⟩) hB (by simp; omega) _).new (q := ⟨w.heap.size, 5, none⟩) hB (by simp; omega) _).new (q := ⟨w.heap.size, 6, none⟩) hB (by simp; omega) _)
    · exact (((((((hch.new (q := ⟨w.heap.size, 0, none⟩) (Nat.le_refl _) _).new (q := ⟨w.heap.size, 1, none⟩) (Nat.le_refl _) _).new (q := ⟨w.heap.size, 2, none⟩) (Nat.le_refl _) _).new (q := ⟨w.heap.size, 3, none⟩) (Nat.le_refl _) _).new (q := ⟨w.heap.size, 4, none⟩) (Nat.le_refl _) _).new (q := ⟨w.heap.size, 5, none⟩) (Nat.le_refl _) _).new (q := ⟨w.heap.size, 6, none⟩) (Nat.le_refl _) _)
  · have ca := ho.cell 1
    have cb := cellOr_of (ho.cell 2)
    have fb := ho.frozen 2
    go_wp2_with fail
    go_region_held3 (fun wx => wx.cell? ⟨w2.heap.size, 1, none⟩ = some (.int .i64 a) ∧ wx.cell? ⟨w2.heap.size, 2, none⟩ = some (cellOr wx ⟨w2.heap.size, 2, none⟩) ∧ wx.frozen? ⟨w2.heap.size, 2, none⟩ = false) (first | exact ⟨Has.cell (Has.chg (by exact ho) hcq (by omega)) 1, cellOr_of (Has.cell (Has.chg (by exact ho) hcq (by omega)) 2), Has.frozen (Has.chg (by exact ho) hcq (by omega)) 2⟩ | exact ⟨Has.cell (by exact ho) 1, cellOr_of (Has.cell (by exact ho) 2), Has.frozen (by exact ho) 2⟩ | exact store_keep (w := q1) _ (Has.cell (Has.chg (by exact ho) hcq (by omega)) 1) (cellOr_of (Has.cell (Has.chg (by exact ho) hcq (by omega)) 2)) (Has.frozen (Has.chg (by exact ho) hcq (by omega)) 2) | go_keep) ((go_at_call 90; refine (pick_any R A n c (p + 1 + 1) B _ _ (by exact ⟨hrd.1, hrd.2.1, hrd.2.2⟩) (by omega) hn (by omega)).mono ?_; rintro e q1 ⟨v1, rfl, lo1, hi1, hrq, hcq⟩))
    replace ho := Has.chg (by exact ho) hcq (by omega)
    replace hres := Has.chg (by exact hres) hcq (by omega)
    replace hch := Chg.trans (by exact ⟨hch.os, hch.tape, hch.output, hch.size, hch.block⟩) hcq
    clear hcq ca cb fb
    generalize (IntKind.i64.wrap (IntKind.i64.wrap (a + 1) + v1)).tmod 4 = bv
    replace ho := ho.put 2 (.int .i64 (bv))
    replace hrd := hrq.new (q := ⟨w2.heap.size, 2, none⟩) (by simp; omega) (by simp; omega) (.int .i64 (bv))
    replace hch := hch.new (q := ⟨w2.heap.size, 2, none⟩) (by simp; omega) (.int .i64 (bv))
    replace hres := hres.far (p := ⟨w2.heap.size, 2, none⟩) (by simp; omega) (.int .i64 (bv))
    clear hrq
    have co := ho.cell
    have cr := hres.cell
    have fr := hres.frozen
    go_wp2
    refine bodyPost_ret (v := .agg #[.int .i64 (1), .int .i64 (a), .int .i64 (bv), .int .i64 (0), .int .i64 (0), .int .i64 (0), .int .i64 (0)]) (by simp [results, Try.results108, go_sem, cr]) rfl ⟨_, _, _, _, _, _, _, p + 1 + 1 + 1, rfl, by omega, ?_, ?_⟩
    · exact (((((((hrd.new (q := ⟨w.heap.size, 0, none⟩) hB (by simp; omega) _).new (q := ⟨w.heap.size, 1, none⟩) hB (by simp; omega) _).new (q := ⟨w.heap.size, 2, none⟩) hB (by simp; omega) _).new (q := ⟨w.heap.size, 3, none⟩) hB (by simp; omega) _).new (q := ⟨w.heap.size, 4, none⟩) hB (by simp; omega) _).new (q := ⟨w.heap.size, 5, none⟩) hB (by simp; omega) _).new (q := ⟨w.heap.size, 6, none⟩) hB (by simp; omega) _)
    · exact (((((((hch.new (q := ⟨w.heap.size, 0, none⟩) (Nat.le_refl _) _).new (q := ⟨w.heap.size, 1, none⟩) (Nat.le_refl _) _).new (q := ⟨w.heap.size, 2, none⟩) (Nat.le_refl _) _).new (q := ⟨w.heap.size, 3, none⟩) (Nat.le_refl _) _).new (q := ⟨w.heap.size, 4, none⟩) (Nat.le_refl _) _).new (q := ⟨w.heap.size, 5, none⟩) (Nat.le_refl _) _).new (q := ⟨w.heap.size, 6, none⟩) (Nat.le_refl _) _)
  · go_wp2_with fail
    refine (l1Row_any R A n c _ B _ hrd (by omega) hn (by have := hch.size; omega)).mono ?_
    rintro e q1 ⟨ra, rb, rc, pr, rfl, hpr, hrq, hcq⟩
    replace ho := ho.chg hcq (by omega)
    replace hres := hres.chg hcq (by omega)
    replace hch := hch.trans hcq
    clear hcq
    have co := ho.cell
    have fo := ho.frozen
    have hrd := hrq
    clear hrq
    replace ho := ho.put 4 (.int .i64 (ra))
    replace hrd := hrd.new (q := ⟨w2.heap.size, 4, none⟩) (by simp; omega) (by simp; omega) (.int .i64 (ra))
    replace hch := hch.new (q := ⟨w2.heap.size, 4, none⟩) (by simp; omega) (.int .i64 (ra))
    replace hres := hres.far (p := ⟨w2.heap.size, 4, none⟩) (by simp; omega) (.int .i64 (ra))
    replace ho := ho.put 5 (.int .i64 (rb))
    replace hrd := hrd.new (q := ⟨w2.heap.size, 5, none⟩) (by simp; omega) (by simp; omega) (.int .i64 (rb))
    replace hch := hch.new (q := ⟨w2.heap.size, 5, none⟩) (by simp; omega) (.int .i64 (rb))
    replace hres := hres.far (p := ⟨w2.heap.size, 5, none⟩) (by simp; omega) (.int .i64 (rb))
    replace ho := ho.put 6 (.int .i64 (rc))
    replace hrd := hrd.new (q := ⟨w2.heap.size, 6, none⟩) (by simp; omega) (by simp; omega) (.int .i64 (rc))
    replace hch := hch.new (q := ⟨w2.heap.size, 6, none⟩) (by simp; omega) (.int .i64 (rc))
    replace hres := hres.far (p := ⟨w2.heap.size, 6, none⟩) (by simp; omega) (.int .i64 (rc))
    have co := ho.cell
    have cr := hres.cell
    have fr := hres.frozen
    go_wp2
    refine bodyPost_ret (v := .agg #[.int .i64 (2), .int .i64 (a), .int .i64 (0), .int .i64 (0), .int .i64 (ra), .int .i64 (rb), .int .i64 (rc)]) (by simp [results, Try.results108, go_sem, cr]) rfl ⟨_, _, _, _, _, _, _, pr, rfl, by omega, ?_, ?_⟩
    · exact (((((((hrd.new (q := ⟨w.heap.size, 0, none⟩) hB (by simp; omega) _).new (q := ⟨w.heap.size, 1, none⟩) hB (by simp; omega) _).new (q := ⟨w.heap.size, 2, none⟩) hB (by simp; omega) _).new (q := ⟨w.heap.size, 3, none⟩) hB (by simp; omega) _).new (q := ⟨w.heap.size, 4, none⟩) hB (by simp; omega) _).new (q := ⟨w.heap.size, 5, none⟩) hB (by simp; omega) _).new (q := ⟨w.heap.size, 6, none⟩) hB (by simp; omega) _)
    · exact (((((((hch.new (q := ⟨w.heap.size, 0, none⟩) (Nat.le_refl _) _).new (q := ⟨w.heap.size, 1, none⟩) (Nat.le_refl _) _).new (q := ⟨w.heap.size, 2, none⟩) (Nat.le_refl _) _).new (q := ⟨w.heap.size, 3, none⟩) (Nat.le_refl _) _).new (q := ⟨w.heap.size, 4, none⟩) (Nat.le_refl _) _).new (q := ⟨w.heap.size, 5, none⟩) (Nat.le_refl _) _).new (q := ⟨w.heap.size, 6, none⟩) (Nat.le_refl _) _)
  · have ca := ho.cell 1
    have cb := cellOr_of (ho.cell 2)
    have fb := ho.frozen 2
    go_wp2_with fail
    go_region_held3 (fun wx => wx.cell? ⟨w2.heap.size, 1, none⟩ = some (.int .i64 a) ∧ wx.cell? ⟨w2.heap.size, 2, none⟩ = some (cellOr wx ⟨w2.heap.size, 2, none⟩) ∧ wx.frozen? ⟨w2.heap.size, 2, none⟩ = false) (first | exact ⟨Has.cell (Has.chg (by exact ho) hcq (by omega)) 1, cellOr_of (Has.cell (Has.chg (by exact ho) hcq (by omega)) 2), Has.frozen (Has.chg (by exact ho) hcq (by omega)) 2⟩ | exact ⟨Has.cell (by exact ho) 1, cellOr_of (Has.cell (by exact ho) 2), Has.frozen (by exact ho) 2⟩ | exact store_keep (w := q1) _ (Has.cell (Has.chg (by exact ho) hcq (by omega)) 1) (cellOr_of (Has.cell (Has.chg (by exact ho) hcq (by omega)) 2)) (Has.frozen (Has.chg (by exact ho) hcq (by omega)) 2) | go_keep) ((go_at_call 90; refine (pick_any R A n c (p + 1 + 1) B _ _ (by exact ⟨hrd.1, hrd.2.1, hrd.2.2⟩) (by omega) hn (by omega)).mono ?_; rintro e q1 ⟨v1, rfl, lo1, hi1, hrq, hcq⟩))
    replace ho := Has.chg (by exact ho) hcq (by omega)
    replace hres := Has.chg (by exact hres) hcq (by omega)
    replace hch := Chg.trans (by exact ⟨hch.os, hch.tape, hch.output, hch.size, hch.block⟩) hcq
    clear hcq ca cb fb
    generalize (IntKind.i64.wrap (IntKind.i64.wrap (a + 1) + v1)).tmod 4 = bv
    replace ho := ho.put 2 (.int .i64 (bv))
    replace hrd := hrq.new (q := ⟨w2.heap.size, 2, none⟩) (by simp; omega) (by simp; omega) (.int .i64 (bv))
    replace hch := hch.new (q := ⟨w2.heap.size, 2, none⟩) (by simp; omega) (.int .i64 (bv))
    replace hres := hres.far (p := ⟨w2.heap.size, 2, none⟩) (by simp; omega) (.int .i64 (bv))
    clear hrq
    go_wp2_with fail
    refine (l1Row_any R A n c _ B _ hrd (by omega) hn (by have := hch.size; omega)).mono ?_
    rintro e q2 ⟨ra, rb, rc, pr, rfl, hpr, hrq, hcq⟩
    replace ho := ho.chg hcq (by omega)
    replace hres := hres.chg hcq (by omega)
    replace hch := hch.trans hcq
    clear hcq
    have co := ho.cell
    have fo := ho.frozen
    have hrd := hrq
    clear hrq
    replace ho := ho.put 4 (.int .i64 (ra))
    replace hrd := hrd.new (q := ⟨w2.heap.size, 4, none⟩) (by simp; omega) (by simp; omega) (.int .i64 (ra))
    replace hch := hch.new (q := ⟨w2.heap.size, 4, none⟩) (by simp; omega) (.int .i64 (ra))
    replace hres := hres.far (p := ⟨w2.heap.size, 4, none⟩) (by simp; omega) (.int .i64 (ra))
    replace ho := ho.put 5 (.int .i64 (rb))
    replace hrd := hrd.new (q := ⟨w2.heap.size, 5, none⟩) (by simp; omega) (by simp; omega) (.int .i64 (rb))
    replace hch := hch.new (q := ⟨w2.heap.size, 5, none⟩) (by simp; omega) (.int .i64 (rb))
    replace hres := hres.far (p := ⟨w2.heap.size, 5, none⟩) (by simp; omega) (.int .i64 (rb))
    replace ho := ho.put 6 (.int .i64 (rc))
    replace hrd := hrd.new (q := ⟨w2.heap.size, 6, none⟩) (by simp; omega) (by simp; omega) (.int .i64 (rc))
    replace hch := hch.new (q := ⟨w2.heap.size, 6, none⟩) (by simp; omega) (.int .i64 (rc))
    replace hres := hres.far (p := ⟨w2.heap.size, 6, none⟩) (by simp; omega) (.int .i64 (rc))
    have co := ho.cell
    have cr := hres.cell
    have fr := hres.frozen
    go_wp2
    refine bodyPost_ret (v := .agg #[.int .i64 (3), .int .i64 (a), .int .i64 (bv), .int .i64 (0), .int .i64 (ra), .int .i64 (rb), .int .i64 (rc)]) (by simp [results, Try.results108, go_sem, cr]) rfl ⟨_, _, _, _, _, _, _, pr, rfl, by omega, ?_, ?_⟩
    · exact (((((((hrd.new (q := ⟨w.heap.size, 0, none⟩) hB (by simp; omega) _).new (q := ⟨w.heap.size, 1, none⟩) hB (by simp; omega) _).new (q := ⟨w.heap.size, 2, none⟩) hB (by simp; omega) _).new (q := ⟨w.heap.size, 3, none⟩) hB (by simp; omega) _).new (q := ⟨w.heap.size, 4, none⟩) hB (by simp; omega) _).new (q := ⟨w.heap.size, 5, none⟩) hB (by simp; omega) _).new (q := ⟨w.heap.size, 6, none⟩) hB (by simp; omega) _)
    · exact (((((((hch.new (q := ⟨w.heap.size, 0, none⟩) (Nat.le_refl _) _).new (q := ⟨w.heap.size, 1, none⟩) (Nat.le_refl _) _).new (q := ⟨w.heap.size, 2, none⟩) (Nat.le_refl _) _).new (q := ⟨w.heap.size, 3, none⟩) (Nat.le_refl _) _).new (q := ⟨w.heap.size, 4, none⟩) (Nat.le_refl _) _).new (q := ⟨w.heap.size, 5, none⟩) (Nat.le_refl _) _).new (q := ⟨w.heap.size, 6, none⟩) (Nat.le_refl _) _)
  · go_wp2_with fail
    refine (l1Row_any R A n c _ B _ hrd (by omega) hn (by have := hch.size; omega)).mono ?_
    rintro e q1 ⟨ra, rb, rc, pr, rfl, hpr, hrq, hcq⟩
    replace ho := ho.chg hcq (by omega)
    replace hres := hres.chg hcq (by omega)
    replace hch := hch.trans hcq
    clear hcq
    have co := ho.cell
    have fo := ho.frozen
    have hrd := hrq
    clear hrq
    replace ho := ho.put 4 (.int .i64 (ra))
    replace hrd := hrd.new (q := ⟨w2.heap.size, 4, none⟩) (by simp; omega) (by simp; omega) (.int .i64 (ra))
    replace hch := hch.new (q := ⟨w2.heap.size, 4, none⟩) (by simp; omega) (.int .i64 (ra))
    replace hres := hres.far (p := ⟨w2.heap.size, 4, none⟩) (by simp; omega) (.int .i64 (ra))
    replace ho := ho.put 5 (.int .i64 (rb))
    replace hrd := hrd.new (q := ⟨w2.heap.size, 5, none⟩) (by simp; omega) (by simp; omega) (.int .i64 (rb))
    replace hch := hch.new (q := ⟨w2.heap.size, 5, none⟩) (by simp; omega) (.int .i64 (rb))
    replace hres := hres.far (p := ⟨w2.heap.size, 5, none⟩) (by simp; omega) (.int .i64 (rb))
    replace ho := ho.put 6 (.int .i64 (rc))
    replace hrd := hrd.new (q := ⟨w2.heap.size, 6, none⟩) (by simp; omega) (by simp; omega) (.int .i64 (rc))
    replace hch := hch.new (q := ⟨w2.heap.size, 6, none⟩) (by simp; omega) (.int .i64 (rc))
    replace hres := hres.far (p := ⟨w2.heap.size, 6, none⟩) (by simp; omega) (.int .i64 (rc))
    have co := ho.cell
    have cr := hres.cell
    have fr := hres.frozen
    go_wp2
    refine bodyPost_ret (v := .agg #[.int .i64 (4), .int .i64 (a), .int .i64 (0), .int .i64 (0), .int .i64 (ra), .int .i64 (rb), .int .i64 (rc)]) (by simp [results, Try.results108, go_sem, cr]) rfl ⟨_, _, _, _, _, _, _, pr, rfl, by omega, ?_, ?_⟩
    · exact (((((((hrd.new (q := ⟨w.heap.size, 0, none⟩) hB (by simp; omega) _).new (q := ⟨w.heap.size, 1, none⟩) hB (by simp; omega) _).new (q := ⟨w.heap.size, 2, none⟩) hB (by simp; omega) _).new (q := ⟨w.heap.size, 3, none⟩) hB (by simp; omega) _).new (q := ⟨w.heap.size, 4, none⟩) hB (by simp; omega) _).new (q := ⟨w.heap.size, 5, none⟩) hB (by simp; omega) _).new (q := ⟨w.heap.size, 6, none⟩) hB (by simp; omega) _)
    · exact (((((((hch.new (q := ⟨w.heap.size, 0, none⟩) (Nat.le_refl _) _).new (q := ⟨w.heap.size, 1, none⟩) (Nat.le_refl _) _).new (q := ⟨w.heap.size, 2, none⟩) (Nat.le_refl _) _).new (q := ⟨w.heap.size, 3, none⟩) (Nat.le_refl _) _).new (q := ⟨w.heap.size, 4, none⟩) (Nat.le_refl _) _).new (q := ⟨w.heap.size, 5, none⟩) (Nat.le_refl _) _).new (q := ⟨w.heap.size, 6, none⟩) (Nat.le_refl _) _)
  · have ca := ho.cell 1
    have cb := cellOr_of (ho.cell 2)
    have fb := ho.frozen 2
    go_wp2_with fail
    go_region_held3 (fun wx => wx.cell? ⟨w2.heap.size, 1, none⟩ = some (.int .i64 a) ∧ wx.cell? ⟨w2.heap.size, 2, none⟩ = some (cellOr wx ⟨w2.heap.size, 2, none⟩) ∧ wx.frozen? ⟨w2.heap.size, 2, none⟩ = false) (first | exact ⟨Has.cell (Has.chg (by exact ho) hcq (by omega)) 1, cellOr_of (Has.cell (Has.chg (by exact ho) hcq (by omega)) 2), Has.frozen (Has.chg (by exact ho) hcq (by omega)) 2⟩ | exact ⟨Has.cell (by exact ho) 1, cellOr_of (Has.cell (by exact ho) 2), Has.frozen (by exact ho) 2⟩ | exact store_keep (w := q1) _ (Has.cell (Has.chg (by exact ho) hcq (by omega)) 1) (cellOr_of (Has.cell (Has.chg (by exact ho) hcq (by omega)) 2)) (Has.frozen (Has.chg (by exact ho) hcq (by omega)) 2) | go_keep) ((go_at_call 90; refine (pick_any R A n c (p + 1 + 1) B _ _ (by exact ⟨hrd.1, hrd.2.1, hrd.2.2⟩) (by omega) hn (by omega)).mono ?_; rintro e q1 ⟨v1, rfl, lo1, hi1, hrq, hcq⟩))
    replace ho := Has.chg (by exact ho) hcq (by omega)
    replace hres := Has.chg (by exact hres) hcq (by omega)
    replace hch := Chg.trans (by exact ⟨hch.os, hch.tape, hch.output, hch.size, hch.block⟩) hcq
    clear hcq ca cb fb
    generalize (IntKind.i64.wrap (IntKind.i64.wrap (a + 1) + v1)).tmod 4 = bv
    replace ho := ho.put 2 (.int .i64 (bv))
    replace hrd := hrq.new (q := ⟨w2.heap.size, 2, none⟩) (by simp; omega) (by simp; omega) (.int .i64 (bv))
    replace hch := hch.new (q := ⟨w2.heap.size, 2, none⟩) (by simp; omega) (.int .i64 (bv))
    replace hres := hres.far (p := ⟨w2.heap.size, 2, none⟩) (by simp; omega) (.int .i64 (bv))
    clear hrq
    go_wp2_with fail
    refine (l1Row_any R A n c _ B _ hrd (by omega) hn (by have := hch.size; omega)).mono ?_
    rintro e q2 ⟨ra, rb, rc, pr, rfl, hpr, hrq, hcq⟩
    replace ho := ho.chg hcq (by omega)
    replace hres := hres.chg hcq (by omega)
    replace hch := hch.trans hcq
    clear hcq
    have co := ho.cell
    have fo := ho.frozen
    have hrd := hrq
    clear hrq
    replace ho := ho.put 4 (.int .i64 (ra))
    replace hrd := hrd.new (q := ⟨w2.heap.size, 4, none⟩) (by simp; omega) (by simp; omega) (.int .i64 (ra))
    replace hch := hch.new (q := ⟨w2.heap.size, 4, none⟩) (by simp; omega) (.int .i64 (ra))
    replace hres := hres.far (p := ⟨w2.heap.size, 4, none⟩) (by simp; omega) (.int .i64 (ra))
    replace ho := ho.put 5 (.int .i64 (rb))
    replace hrd := hrd.new (q := ⟨w2.heap.size, 5, none⟩) (by simp; omega) (by simp; omega) (.int .i64 (rb))
    replace hch := hch.new (q := ⟨w2.heap.size, 5, none⟩) (by simp; omega) (.int .i64 (rb))
    replace hres := hres.far (p := ⟨w2.heap.size, 5, none⟩) (by simp; omega) (.int .i64 (rb))
    replace ho := ho.put 6 (.int .i64 (rc))
    replace hrd := hrd.new (q := ⟨w2.heap.size, 6, none⟩) (by simp; omega) (by simp; omega) (.int .i64 (rc))
    replace hch := hch.new (q := ⟨w2.heap.size, 6, none⟩) (by simp; omega) (.int .i64 (rc))
    replace hres := hres.far (p := ⟨w2.heap.size, 6, none⟩) (by simp; omega) (.int .i64 (rc))
    have co := ho.cell
    have cr := hres.cell
    have fr := hres.frozen
    go_wp2
    refine bodyPost_ret (v := .agg #[.int .i64 (5), .int .i64 (a), .int .i64 (bv), .int .i64 (0), .int .i64 (ra), .int .i64 (rb), .int .i64 (rc)]) (by simp [results, Try.results108, go_sem, cr]) rfl ⟨_, _, _, _, _, _, _, pr, rfl, by omega, ?_, ?_⟩
    · exact (((((((hrd.new (q := ⟨w.heap.size, 0, none⟩) hB (by simp; omega) _).new (q := ⟨w.heap.size, 1, none⟩) hB (by simp; omega) _).new (q := ⟨w.heap.size, 2, none⟩) hB (by simp; omega) _).new (q := ⟨w.heap.size, 3, none⟩) hB (by simp; omega) _).new (q := ⟨w.heap.size, 4, none⟩) hB (by simp; omega) _).new (q := ⟨w.heap.size, 5, none⟩) hB (by simp; omega) _).new (q := ⟨w.heap.size, 6, none⟩) hB (by simp; omega) _)
    · exact (((((((hch.new (q := ⟨w.heap.size, 0, none⟩) (Nat.le_refl _) _).new (q := ⟨w.heap.size, 1, none⟩) (Nat.le_refl _) _).new (q := ⟨w.heap.size, 2, none⟩) (Nat.le_refl _) _).new (q := ⟨w.heap.size, 3, none⟩) (Nat.le_refl _) _).new (q := ⟨w.heap.size, 4, none⟩) (Nat.le_refl _) _).new (q := ⟨w.heap.size, 5, none⟩) (Nat.le_refl _) _).new (q := ⟨w.heap.size, 6, none⟩) (Nat.le_refl _) _)
  · go_wp2_with fail
    refine (pick_any R A n c _ B _ _ hrd (by omega) hn (by omega)).mono ?_
    rintro e q1 ⟨v1, rfl, lo1, hi1, hrq, hcq⟩
    replace ho := ho.chg hcq (by omega)
    replace hres := hres.chg hcq (by omega)
    replace hch := hch.trans hcq
    clear hcq
    have co := ho.cell
    have fo := ho.frozen
    replace ho := ho.put 2 (.int .i64 (1 + v1))
    replace hrd := hrq.new (q := ⟨w2.heap.size, 2, none⟩) (by simp; omega) (by simp; omega) (.int .i64 (1 + v1))
    replace hch := hch.new (q := ⟨w2.heap.size, 2, none⟩) (by simp; omega) (.int .i64 (1 + v1))
    replace hres := hres.far (p := ⟨w2.heap.size, 2, none⟩) (by simp; omega) (.int .i64 (1 + v1))
    clear hrq
    go_wp2_with fail
    refine (pick_any R A n c _ B _ _ hrd (by omega) hn (by omega)).mono ?_
    rintro e q2 ⟨v2, rfl, lo2, hi2, hrq, hcq⟩
    replace ho := ho.chg hcq (by omega)
    replace hres := hres.chg hcq (by omega)
    replace hch := hch.trans hcq
    clear hcq
    have co := ho.cell
    have fo := ho.frozen
    replace ho := ho.put 3 (.int .i64 (v2))
    replace hrd := hrq.new (q := ⟨w2.heap.size, 3, none⟩) (by simp; omega) (by simp; omega) (.int .i64 (v2))
    replace hch := hch.new (q := ⟨w2.heap.size, 3, none⟩) (by simp; omega) (.int .i64 (v2))
    replace hres := hres.far (p := ⟨w2.heap.size, 3, none⟩) (by simp; omega) (.int .i64 (v2))
    clear hrq
    have co := ho.cell
    have cr := hres.cell
    have fr := hres.frozen
    go_wp2
    refine bodyPost_ret (v := .agg #[.int .i64 (6), .int .i64 (a), .int .i64 (1 + v1), .int .i64 (v2), .int .i64 (0), .int .i64 (0), .int .i64 (0)]) (by simp [results, Try.results108, go_sem, cr]) rfl ⟨_, _, _, _, _, _, _, p + 1 + 1 + 1 + 1, rfl, by omega, ?_, ?_⟩
    · exact (((((((hrd.new (q := ⟨w.heap.size, 0, none⟩) hB (by simp; omega) _).new (q := ⟨w.heap.size, 1, none⟩) hB (by simp; omega) _).new (q := ⟨w.heap.size, 2, none⟩) hB (by simp; omega) _).new (q := ⟨w.heap.size, 3, none⟩) hB (by simp; omega) _).new (q := ⟨w.heap.size, 4, none⟩) hB (by simp; omega) _).new (q := ⟨w.heap.size, 5, none⟩) hB (by simp; omega) _).new (q := ⟨w.heap.size, 6, none⟩) hB (by simp; omega) _)
    · exact (((((((hch.new (q := ⟨w.heap.size, 0, none⟩) (Nat.le_refl _) _).new (q := ⟨w.heap.size, 1, none⟩) (Nat.le_refl _) _).new (q := ⟨w.heap.size, 2, none⟩) (Nat.le_refl _) _).new (q := ⟨w.heap.size, 3, none⟩) (Nat.le_refl _) _).new (q := ⟨w.heap.size, 4, none⟩) (Nat.le_refl _) _).new (q := ⟨w.heap.size, 5, none⟩) (Nat.le_refl _) _).new (q := ⟨w.heap.size, 6, none⟩) (Nat.le_refl _) _)

end Go.Proofs.Ytjokiminlplbcaa
