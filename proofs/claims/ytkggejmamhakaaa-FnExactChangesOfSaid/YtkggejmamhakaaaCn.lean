/- Weights' products and what they have in common: the model's l6Product and l6Common. -/
import Derived.Test.YtkggejmamhakaaaCm
import Derived.Test.YtkggejmamhakaaaCb
namespace Go.Proofs.Ytkggejmamhakaaa
set_option maxRecDepth 100000
set_option linter.unusedVariables false
open Go.RowKit

theorem l4Common_flip (a b : Int) (w : World) (ha : 0 ≤ a ∧ a ≤ 9223372036854775807) (hb : 0 ≤ b ∧ b ≤ 9223372036854775807) :
    Calls Try.prog 97 #[.int .i64 a, .int .i64 b] w fun e w' => e = .returned (.int .i64 (gcdI a b)) ∧ w' = w := (l4Common_any a b w ha hb).mono fun _ _ h => ⟨h.1, h.2.symm⟩
set_option maxHeartbeats 1000000 in
theorem l6Common_any (u v x : Int) (w : World) (hu : 0 ≤ u ∧ u ≤ 99) (hv : 0 ≤ v ∧ v ≤ 99) (hx : 0 ≤ x ∧ x ≤ 99) :
    Calls Try.prog 66 #[.agg #[.int .i64 u, .int .i64 v, .int .i64 x]] w fun e w' => e = .returned (.int .i64 (gcdI (gcdI u v) x)) ∧ Below w.heap.size w w' := by
  have h1 := Has.new w 61 #[.int .i64 u, .int .i64 v, .int .i64 x]
  have hB : Below w.heap.size w (w.alloc (.cells #[.int .i64 u, .int .i64 v, .int .i64 x] 61)) := (Below.refl _ _).alloc (Nat.le_refl _) _
  have hg := gcdI_bd (M := 99) hu hv
  go_enter Try.func66, Try.ntmps66
  go_wp2_with fail
  generalize w.alloc (.cells #[.int .i64 u, .int .i64 v, .int .i64 x] 61) = W0 at h1 hB ⊢
  have e1 := h1.cell
  go_quiet (first | (go_at_call 97; exact Calls.quiet_of_same (l4Common_flip _ _ _ (by omega) (by omega))))
  go_wp2_with fail
  go_ret
  exact ⟨rfl, below_drewN hB _⟩

/-- The products so far. -/
def prodA (s t : St) : Nat → Array Value
  | 0 => #[.int .i64 0, .int .i64 0, .int .i64 0]
  | 1 => #[.int .i64 (s.u * t.u), .int .i64 0, .int .i64 0]
  | 2 => #[.int .i64 (s.u * t.u), .int .i64 (s.v * t.v), .int .i64 0]
  | _ => #[.int .i64 (s.u * t.u), .int .i64 (s.v * t.v), .int .i64 (s.x * t.x)]
set_option maxHeartbeats 1000000 in
theorem l6Product_any (s t : St) (w : World) (hs : (0 ≤ s.u ∧ s.u ≤ 9) ∧ (0 ≤ s.v ∧ s.v ≤ 9) ∧ (0 ≤ s.x ∧ s.x ≤ 9)) (ht : (0 ≤ t.u ∧ t.u ≤ 9) ∧ (0 ≤ t.v ∧ t.v ≤ 9) ∧ (0 ≤ t.x ∧ t.x ≤ 9)) :
    Calls Try.prog 91 #[.agg #[.int .i64 s.u, .int .i64 s.v, .int .i64 s.x], .agg #[.int .i64 t.u, .int .i64 t.v, .int .i64 t.x]] w
      fun e w' => e = .returned (.tuple #[.agg #[.int .i64 (s.u * t.u), .int .i64 (s.v * t.v), .int .i64 (s.x * t.x)], .bool (wOk (s.u * t.u) (s.v * t.v) (s.x * t.x))]) ∧ Below w.heap.size w w' := by
  have b1 := fold_bd hs.1 ht.1
  have b2 := fold_bd hs.2.1 ht.2.1
  have b3 := fold_bd hs.2.2 ht.2.2
  have x1 : wrap64 (s.u * t.u) = s.u * t.u := w64 (by omega)
  have x2 : wrap64 (s.v * t.v) = s.v * t.v := w64 (by omega)
  have x3 : wrap64 (s.x * t.x) = s.x * t.x := w64 (by omega)
  have cW := Lib.hid (fun wx => l1Weights_any (s.u * t.u) (s.v * t.v) (s.x * t.x) wx)
  have h1 := Lib.hid ((((Has.new w 61 #[.int .i64 s.u, .int .i64 s.v, .int .i64 s.x]).alloc (.cells #[.int .i64 t.u, .int .i64 t.v, .int .i64 t.x] 61)).alloc (.cells #[.int .i64 0, .int .i64 0, .int .i64 0] 61)).alloc (.cells #[.int .i64 0, .int .i64 0, .int .i64 0] 61))
  have h2 := Lib.hid (((Has.newAt (w := w.alloc (.cells #[.int .i64 s.u, .int .i64 s.v, .int .i64 s.x] 61)) (n := w.heap.size + 1) (t := 61) (cs := #[.int .i64 t.u, .int .i64 t.v, .int .i64 t.x]) (by simp)).alloc (.cells #[.int .i64 0, .int .i64 0, .int .i64 0] 61)).alloc (.cells #[.int .i64 0, .int .i64 0, .int .i64 0] 61))
  have h3 := Lib.hid ((Has.newAt (w := (w.alloc (.cells #[.int .i64 s.u, .int .i64 s.v, .int .i64 s.x] 61)).alloc (.cells #[.int .i64 t.u, .int .i64 t.v, .int .i64 t.x] 61)) (n := w.heap.size + 2) (t := 61) (cs := #[.int .i64 0, .int .i64 0, .int .i64 0]) (by simp)).alloc (.cells #[.int .i64 0, .int .i64 0, .int .i64 0] 61))
  have h4 := Lib.hid (Has.newAt (w := ((w.alloc (.cells #[.int .i64 s.u, .int .i64 s.v, .int .i64 s.x] 61)).alloc (.cells #[.int .i64 t.u, .int .i64 t.v, .int .i64 t.x] 61)).alloc (.cells #[.int .i64 0, .int .i64 0, .int .i64 0] 61)) (n := w.heap.size + 3) (t := 61) (cs := #[.int .i64 0, .int .i64 0, .int .i64 0]) (by simp))
  have hB := Lib.hid (show Below w.heap.size w ((((w.alloc (.cells #[.int .i64 s.u, .int .i64 s.v, .int .i64 s.x] 61)).alloc (.cells #[.int .i64 t.u, .int .i64 t.v, .int .i64 t.x] 61)).alloc (.cells #[.int .i64 0, .int .i64 0, .int .i64 0] 61)).alloc (.cells #[.int .i64 0, .int .i64 0, .int .i64 0] 61)) from ((((Below.refl _ _).alloc (Nat.le_refl _) _).alloc (by simp) _).alloc (by simp; omega) _).alloc (by simp; omega) _)
  go_enter Try.func91, Try.ntmps91
  go_wp2_with fail
  go_loopg [7] 3 (fun gn i wr => ∃ k : Nat, k ≤ 3 ∧ gn = 3 - k ∧ i = .int .i64 k ∧ Has wr w.heap.size 61 #[.int .i64 s.u, .int .i64 s.v, .int .i64 s.x] ∧ Has wr (w.heap.size + 1) 61 #[.int .i64 t.u, .int .i64 t.v, .int .i64 t.x] ∧ Has wr (w.heap.size + 2) 61 #[.int .i64 0, .int .i64 0, .int .i64 0] ∧ Has wr (w.heap.size + 3) 61 (prodA s t k) ∧ Below w.heap.size w wr)
  case atStart => exact ⟨0, by decide, rfl, rfl, h1.out, h2.out, h3.out, h4.out, hB.out⟩
  case round =>
    obtain ⟨k, hk, hgn, rfl, i1, i2, i3, i4, hb⟩ := hrel
    have hgk : gk = 3 - k := hgn
    have j1 := Lib.hid i1
    have j2 := Lib.hid i2
    have j3 := Lib.hid i3
    have j4 := Lib.hid i4
    have jb := Lib.hid hb
    clear hgn hb
    obtain rfl | rfl | rfl | rfl : k = 0 ∨ k = 1 ∨ k = 2 ∨ k = 3 := by omega
    · have c1 := i1.cell
      have c2 := i2.cell
      have c4 := i4.cell
      have f4 := i4.frozen
      simp only [prodA] at c4
      have hp := Lib.hid (i4.put 0 (.int .i64 (s.u * t.u)))
      have hq1 := Lib.hid (i1.far (p := ⟨w.heap.size + 3, 0, none⟩) (by simp) (.int .i64 (s.u * t.u)))
      have hq2 := Lib.hid (i2.far (p := ⟨w.heap.size + 3, 0, none⟩) (by simp) (.int .i64 (s.u * t.u)))
      have hq3 := Lib.hid (i3.far (p := ⟨w.heap.size + 3, 0, none⟩) (by simp) (.int .i64 (s.u * t.u)))
      have hqb := Lib.hid (jb.out.setCell (p := ⟨w.heap.size + 3, 0, none⟩) (by simp) (.int .i64 (s.u * t.u)))
      clear i1 i2 i3 i4
      go_wp2_with fail
      go_still_tail 9, (by kernel_rfl)
      repeat still_step
      try (refine wpStill_nil ?_)
      try (change wpList _ _ _ _ _ (World.drew _))
      go_wp2_with fail
      go_roundg (3 - 1)
      case measure => omega
      case rel => exact ⟨1, by decide, rfl, rfl, hq1.out, hq2.out, hq3.out, hp.out, hqb.out.drew⟩
    · have c1 := i1.cell
      have c2 := i2.cell
      have c4 := i4.cell
      have f4 := i4.frozen
      simp only [prodA] at c4
      have hp := Lib.hid (i4.put 1 (.int .i64 (s.v * t.v)))
      have hq1 := Lib.hid (i1.far (p := ⟨w.heap.size + 3, 1, none⟩) (by simp) (.int .i64 (s.v * t.v)))
      have hq2 := Lib.hid (i2.far (p := ⟨w.heap.size + 3, 1, none⟩) (by simp) (.int .i64 (s.v * t.v)))
      have hq3 := Lib.hid (i3.far (p := ⟨w.heap.size + 3, 1, none⟩) (by simp) (.int .i64 (s.v * t.v)))
      have hqb := Lib.hid (jb.out.setCell (p := ⟨w.heap.size + 3, 1, none⟩) (by simp) (.int .i64 (s.v * t.v)))
      clear i1 i2 i3 i4
      go_wp2_with fail
      go_still_tail 9, (by kernel_rfl)
      repeat still_step
      try (refine wpStill_nil ?_)
      try (change wpList _ _ _ _ _ (World.drew _))
      go_wp2_with fail
      go_roundg (3 - 2)
      case measure => omega
      case rel => exact ⟨2, by decide, rfl, rfl, hq1.out, hq2.out, hq3.out, hp.out, hqb.out.drew⟩
    · have c1 := i1.cell
      have c2 := i2.cell
      have c4 := i4.cell
      have f4 := i4.frozen
      simp only [prodA] at c4
      have hp := Lib.hid (i4.put 2 (.int .i64 (s.x * t.x)))
      have hq1 := Lib.hid (i1.far (p := ⟨w.heap.size + 3, 2, none⟩) (by simp) (.int .i64 (s.x * t.x)))
      have hq2 := Lib.hid (i2.far (p := ⟨w.heap.size + 3, 2, none⟩) (by simp) (.int .i64 (s.x * t.x)))
      have hq3 := Lib.hid (i3.far (p := ⟨w.heap.size + 3, 2, none⟩) (by simp) (.int .i64 (s.x * t.x)))
      have hqb := Lib.hid (jb.out.setCell (p := ⟨w.heap.size + 3, 2, none⟩) (by simp) (.int .i64 (s.x * t.x)))
      clear i1 i2 i3 i4
      go_wp2_with fail
      go_still_tail 9, (by kernel_rfl)
      repeat still_step
      try (refine wpStill_nil ?_)
      try (change wpList _ _ _ _ _ (World.drew _))
      go_wp2_with fail
      go_roundg (3 - 3)
      case measure => omega
      case rel => exact ⟨3, by decide, rfl, rfl, hq1.out, hq2.out, hq3.out, hp.out, hqb.out.drew⟩
    · clear i1 i2 i3 i4
      have c4 := j4.out.cell
      simp only [prodA] at c4
      go_wp2_with fail
      have e4 := Lib.hid (show Has wr (w.heap.size + 3) 61 #[.int .i64 (s.u * t.u), .int .i64 (s.v * t.v), .int .i64 (s.x * t.x)] from j4.out)
      have hOk := Lib.hid (fun (wx : World) (hx : Below wr.heap.size wr wx) => (show Below wr.heap.size wr wx ∧ wx.cell? ⟨w.heap.size + 3, 0, none⟩ = some (.int .i64 (s.u * t.u)) ∧ wx.cell? ⟨w.heap.size + 3, 1, none⟩ = some (.int .i64 (s.v * t.v)) ∧ wx.cell? ⟨w.heap.size + 3, 2, none⟩ = some (.int .i64 (s.x * t.x)) from ⟨hx, (e4.out.kept hx).cell 0, (e4.out.kept hx).cell 1, (e4.out.kept hx).cell 2⟩))
      have c3 := j3.out.cell
      have f3 := j3.out.frozen
      go_region_law (first | (go_simp; go_at_call 113; refine (cW.out _).mono ?_; rintro e w5 ⟨rfl, hb5⟩; have k3 := Has.kept (by exact j3.out) hb5; have k3c := k3.cell; have k3f := k3.frozen; have k4 := Has.kept (by exact e4.out) hb5; have k4c := k4.cell))
      all_goals
        go_wp2_with fail
        refine bodyPost_ret (v := .tuple #[.agg #[.int .i64 (s.u * t.u), .int .i64 (s.v * t.v), .int .i64 (s.x * t.x)], .bool (wOk (s.u * t.u) (s.v * t.v) (s.x * t.x))]) (by simp [results, Try.results91, go_sem, k3c]) rfl ⟨rfl, ?_⟩
        have hB5 : Below w.heap.size w w5 := jb.out.drew.trans (hb5.mono (by first | exact jb.out.size | (show w.heap.size ≤ wr.heap.size; exact jb.out.size)))
        exact ((hB5.setCell (p := ⟨w.heap.size + 2, 0, none⟩) (by simp) _).setCell (p := ⟨w.heap.size + 2, 1, none⟩) (by simp) _).setCell (p := ⟨w.heap.size + 2, 2, none⟩) (by simp) _
end Go.Proofs.Ytkggejmamhakaaa
