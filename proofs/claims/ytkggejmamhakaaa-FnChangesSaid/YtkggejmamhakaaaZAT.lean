/- Parts of the proof: Cb. -/
import Derived.Test.YtkggejmamhakaaaZAQ
import Derived.Test.YtkggejmamhakaaaZAR
import Derived.Test.YtkggejmamhakaaaZAS
namespace Go.Proofs.Ytkggejmamhakaaa
set_option maxRecDepth 100000
set_option linter.unusedVariables false
open Go.RowKit
/-- Weights, or products of them, as one number. -/
def rowN (u v x : Int) : Int := u + 100 * (v + 100 * x)
theorem rowOf_any (u v x : Int) (w : World) (hu : 0 ≤ u ∧ u ≤ 99) (hv : 0 ≤ v ∧ v ≤ 99) (hx : 0 ≤ x ∧ x ≤ 99) :
    Calls Try.prog 102 #[.agg #[.int .i64 u, .int .i64 v, .int .i64 x]] w fun e w' => e = .returned (.int .i64 (rowN u v x)) ∧ Below w.heap.size w w' := by
  have hB : Below w.heap.size w (w.alloc (.cells #[.int .i64 u, .int .i64 v, .int .i64 x] 61)) := (Below.refl _ _).alloc (Nat.le_refl _) _
  have hBh := Lib.hid hB
  clear hB
  go_enter Try.func102, Try.ntmps102
  go_wp2_with fail
  go_ret
  exact ⟨rfl, hBh.out⟩
theorem weightsOfRow_any (p q r : Int) (w : World) (hp : 0 ≤ p ∧ p ≤ 99) (hq : 0 ≤ q ∧ q ≤ 99) (hr : 0 ≤ r ∧ r ≤ 99) :
    Calls Try.prog 103 #[.int .i64 (rowN p q r)] w fun e w' => e = .returned (.agg #[.int .i64 p, .int .i64 q, .int .i64 r]) ∧ Below w.heap.size w w' := by
  have e1 : rowN p q r % 100 = p := by unfold rowN; omega
  have e2 : rowN p q r / 100 = q + 100 * r := by unfold rowN; omega
  have e3 : (q + 100 * r) % 100 = q := by omega
  have e4 : (q + 100 * r) / 100 = r := by omega
  have hb : 0 ≤ rowN p q r ∧ rowN p q r ≤ 999999 := by unfold rowN; omega
  have hb2 : 0 ≤ q + 100 * r ∧ q + 100 * r ≤ 9999 := by omega
  have hB : Below w.heap.size w (w.alloc (.cells #[.int .i64 0, .int .i64 0, .int .i64 0] 61)) := (Below.refl _ _).alloc (Nat.le_refl _) _
  have hR := (Has.new w 61 #[.int .i64 0, .int .i64 0, .int .i64 0])
  have cr := hR.cell
  have fr := hR.frozen
  have hBh := Lib.hid hB
  clear hB hR
  generalize rowN p q r = n at *
  generalize q + 100 * r = n2 at *
  go_enter Try.func103, Try.ntmps103
  go_wp2_with fail
  refine bodyPost_ret (v := .agg #[.int .i64 p, .int .i64 q, .int .i64 r]) (by simp [results, Try.results103, go_sem]) rfl ⟨rfl, ?_⟩
  exact (Below.refl _ _).alloc (Nat.le_refl _) _
/-- Weights turned: what each value has is what the value that is greater by k had. -/
def turnR (u v x : Int) : Nat → Int
  | 0 => rowN u v x
  | 1 => rowN v x u
  | _ => rowN x u v
theorem turn_step (u v x : Int) (hu : 0 ≤ u ∧ u ≤ 99) (hv : 0 ≤ v ∧ v ≤ 99) (hx : 0 ≤ x ∧ x ≤ 99) {k : Nat} (hk : k < 2) :
    ∃ q r, turnR u v x k / 100 = q ∧ turnR u v x k % 100 = r ∧ q + r * 10000 = turnR u v x (k + 1) ∧ 0 ≤ q ∧ q ≤ 9999 ∧ 0 ≤ r ∧ r ≤ 99 ∧ 0 ≤ turnR u v x k ∧ turnR u v x k ≤ 999999 := by
  obtain rfl | rfl : k = 0 ∨ k = 1 := by omega
  · exact ⟨v + 100 * x, u, by show rowN u v x / 100 = _; unfold rowN; omega, by show rowN u v x % 100 = _; unfold rowN; omega, by show _ = rowN v x u; unfold rowN; omega, by omega, by omega, by omega, by omega, by show 0 ≤ rowN u v x; unfold rowN; omega, by show rowN u v x ≤ _; unfold rowN; omega⟩
  · exact ⟨x + 100 * u, v, by show rowN v x u / 100 = _; unfold rowN; omega, by show rowN v x u % 100 = _; unfold rowN; omega, by show _ = rowN x u v; unfold rowN; omega, by omega, by omega, by omega, by omega, by show 0 ≤ rowN v x u; unfold rowN; omega, by show rowN v x u ≤ _; unfold rowN; omega⟩
theorem turnedRow_any (u v x : Int) (n : Nat) (w : World) (hn : n ≤ 2) (hu : 0 ≤ u ∧ u ≤ 99) (hv : 0 ≤ v ∧ v ≤ 99) (hx : 0 ≤ x ∧ x ≤ 99) :
    Calls Try.prog 122 #[.int .i64 (rowN u v x), .int .i64 (n : Int)] w fun e w' => e = .returned (.int .i64 (turnR u v x n)) ∧ w = w' := by
  have hS := Lib.hid (fun k hk => turn_step u v x hu hv hx (k := k) hk)
  have h0 := Lib.hid (show rowN u v x = turnR u v x 0 from rfl)
  go_enter Try.func122, Try.ntmps122
  go_wp2_with fail
  go_loop [0, 5] (fun o i => ∃ k : Nat, k ≤ n ∧ i = .int .i64 k ∧ o = .int .i64 (turnR u v x k)) (fun _ i => n - (intOf i).toNat)
  case atStart => exact ⟨0, Nat.zero_le _, rfl, rfl⟩
  case round =>
    obtain ⟨k, hk, rfl, rfl⟩ := hrel
    by_cases hlt : k < n
    · obtain ⟨q, r, e1, e2, e3, hq0, hq1, hr0, hr1, hb0, hb1⟩ := hS.out k (by omega)
      have hE := Lib.hid e3
      generalize turnR u v x k = z at *
      clear e3
      have hk0 : (0 : Int) ≤ (k : Int) := by omega
      have hk1 : (k : Int) < (n : Int) := by omega
      go_wp2_with fail
      go_round
      case rel => exact ⟨k + 1, by omega, by go_num, by rw [← hE.out]⟩
      case measure => (simp [intOf]; try omega)
    · obtain rfl : k = n := by omega
      go_wp2_with fail
      go_ret
      exact ⟨rfl, rfl⟩
theorem fold_bd {a b : Int} (ha : 0 ≤ a ∧ a ≤ 9) (hb : 0 ≤ b ∧ b ≤ 9) : 0 ≤ a * b ∧ a * b ≤ 81 := by
  have h1 := Int.mul_nonneg ha.1 hb.1
  have h2 := Int.mul_le_mul ha.2 hb.2 hb.1 (by decide)
  omega
/-- The products so far of two rows as one number. -/
def foldR (s t : St) : Nat → Int
  | 0 => 0
  | 1 => s.u * t.u
  | 2 => s.u * t.u + 100 * (s.v * t.v)
  | _ => rowN (s.u * t.u) (s.v * t.v) (s.x * t.x)
theorem fold_step (s t : St) (hs : (0 ≤ s.u ∧ s.u ≤ 9) ∧ (0 ≤ s.v ∧ s.v ≤ 9) ∧ (0 ≤ s.x ∧ s.x ≤ 9)) (ht : (0 ≤ t.u ∧ t.u ≤ 9) ∧ (0 ≤ t.v ∧ t.v ≤ 9) ∧ (0 ≤ t.x ∧ t.x ≤ 9)) {k : Nat} (hk : k < 3) :
    ∃ p q q' r r' : Int, (100 ^ k : Nat) = p ∧ rowN s.u s.v s.x / p = q ∧ rowN t.u t.v t.x / p = q' ∧ q % 100 = r ∧ q' % 100 = r' ∧ foldR s t k + r * r' * p = foldR s t (k + 1) ∧ (0 ≤ q ∧ q ≤ 99999) ∧ (0 ≤ q' ∧ q' ≤ 99999) ∧ (0 ≤ r * r' ∧ r * r' ≤ 81) ∧ (0 ≤ r * r' * p ∧ r * r' * p ≤ 810000) ∧ (0 ≤ foldR s t k ∧ foldR s t k ≤ 9999) ∧ p * 100 = (100 ^ (k + 1) : Nat) ∧ 1 ≤ p ∧ p ≤ 10000 := by
  have b1 := fold_bd hs.1 ht.1
  have b2 := fold_bd hs.2.1 ht.2.1
  have b3 := fold_bd hs.2.2 ht.2.2
  obtain rfl | rfl | rfl : k = 0 ∨ k = 1 ∨ k = 2 := by omega
  · exact ⟨1, rowN s.u s.v s.x, rowN t.u t.v t.x, s.u, t.u, rfl, by omega, by omega, by unfold rowN; omega, by unfold rowN; omega, by show 0 + s.u * t.u * 1 = s.u * t.u; omega, by unfold rowN; omega, by unfold rowN; omega, b1, by omega, by show 0 ≤ (0 : Int) ∧ (0 : Int) ≤ 9999; decide, rfl, by decide, by decide⟩
  · exact ⟨100, s.v + 100 * s.x, t.v + 100 * t.x, s.v, t.v, rfl, by unfold rowN; omega, by unfold rowN; omega, by omega, by omega, by show s.u * t.u + s.v * t.v * 100 = s.u * t.u + 100 * (s.v * t.v); omega, by omega, by omega, b2, by omega, by show 0 ≤ s.u * t.u ∧ s.u * t.u ≤ 9999; omega, rfl, by decide, by decide⟩
  · exact ⟨10000, s.x, t.x, s.x, t.x, rfl, by unfold rowN; omega, by unfold rowN; omega, by omega, by omega, by show s.u * t.u + 100 * (s.v * t.v) + s.x * t.x * 10000 = rowN (s.u * t.u) (s.v * t.v) (s.x * t.x); unfold rowN; omega, by omega, by omega, b3, by omega, by show 0 ≤ s.u * t.u + 100 * (s.v * t.v) ∧ s.u * t.u + 100 * (s.v * t.v) ≤ 9999; omega, rfl, by decide, by decide⟩
theorem w64 {x : Int} (h : -9223372036854775808 ≤ x ∧ x ≤ 9223372036854775807) : wrap64 x = x := by unfold wrap64; omega
theorem Has.newAt {w : World} {n : Nat} {t : TypeId} {cs : Array Value} (h : w.heap.size = n) : Has (w.alloc (.cells cs t)) n t cs := h ▸ Has.new w t cs
theorem bs6 {a w : World} {R : Prop} (h : Below a.heap.size a w ∧ R) : Below a.heap.size a w := h.1
theorem bd6 {a w : World} {R : Prop} (h : Below a.heap.size a w ∧ R) : Below a.heap.size a w.drew := h.1.drew
theorem ba6 {a w : World} {R : Prop} (h : Below a.heap.size a w ∧ R) (o : Obj) : Below a.heap.size a (w.alloc o) := h.1.alloc h.1.size o
theorem ba6d {a w : World} {R : Prop} (h : Below a.heap.size a w ∧ R) (o : Obj) : Below a.heap.size a (w.alloc o).drew := (h.1.alloc h.1.size o).drew
theorem bt6 {a w q : World} {R : Prop} (h : Below a.heap.size a w ∧ R) (hq : Below w.heap.size w q) : Below a.heap.size a q := h.1.trans (hq.mono h.1.size)
set_option maxHeartbeats 1000000 in
theorem foldedWeights_any (s t : St) (w : World) (hs : (0 ≤ s.u ∧ s.u ≤ 9) ∧ (0 ≤ s.v ∧ s.v ≤ 9) ∧ (0 ≤ s.x ∧ s.x ≤ 9)) (ht : (0 ≤ t.u ∧ t.u ≤ 9) ∧ (0 ≤ t.v ∧ t.v ≤ 9) ∧ (0 ≤ t.x ∧ t.x ≤ 9)) :
    Calls Try.prog 79 #[.agg #[.int .i64 s.k, .int .i64 s.a, .int .i64 s.b, .int .i64 s.c, .int .i64 s.u, .int .i64 s.v, .int .i64 s.x], .agg #[.int .i64 t.k, .int .i64 t.a, .int .i64 t.b, .int .i64 t.c, .int .i64 t.u, .int .i64 t.v, .int .i64 t.x]] w
      fun e w' => e = .returned (.agg #[.int .i64 (s.u * t.u), .int .i64 (s.v * t.v), .int .i64 (s.x * t.x)]) ∧ Below w.heap.size w w' := by
  have hS := Lib.hid (fun k hk => fold_step s t hs ht (k := k) hk)
  have b1 := fold_bd hs.1 ht.1
  have b2 := fold_bd hs.2.1 ht.2.1
  have b3 := fold_bd hs.2.2 ht.2.2
  have cW := Lib.hid (fun wx => weightsOfRow_any (s.u * t.u) (s.v * t.v) (s.x * t.x) wx ⟨b1.1, by omega⟩ ⟨b2.1, by omega⟩ ⟨b3.1, by omega⟩)
  have q1 : 0 ≤ s.u ∧ s.u ≤ 99 := by omega
  have q2 : 0 ≤ s.v ∧ s.v ≤ 99 := by omega
  have q3 : 0 ≤ s.x ∧ s.x ≤ 99 := by omega
  have q4 : 0 ≤ t.u ∧ t.u ≤ 99 := by omega
  have q5 : 0 ≤ t.v ∧ t.v ≤ 99 := by omega
  have q6 : 0 ≤ t.x ∧ t.x ≤ 99 := by omega
  have h1 := ((Has.new w 63 #[.int .i64 s.k, .int .i64 s.a, .int .i64 s.b, .int .i64 s.c, .int .i64 s.u, .int .i64 s.v, .int .i64 s.x]).alloc (.cells #[.int .i64 t.k, .int .i64 t.a, .int .i64 t.b, .int .i64 t.c, .int .i64 t.u, .int .i64 t.v, .int .i64 t.x] 63)).alloc (.cells #[.int .i64 0, .int .i64 0, .int .i64 0] 61)
  have h2 := (Has.newAt (w := w.alloc (.cells #[.int .i64 s.k, .int .i64 s.a, .int .i64 s.b, .int .i64 s.c, .int .i64 s.u, .int .i64 s.v, .int .i64 s.x] 63)) (n := w.heap.size + 1) (t := 63) (cs := #[.int .i64 t.k, .int .i64 t.a, .int .i64 t.b, .int .i64 t.c, .int .i64 t.u, .int .i64 t.v, .int .i64 t.x]) (by simp)).alloc (.cells #[.int .i64 0, .int .i64 0, .int .i64 0] 61)
  have h3 := Has.newAt (w := (w.alloc (.cells #[.int .i64 s.k, .int .i64 s.a, .int .i64 s.b, .int .i64 s.c, .int .i64 s.u, .int .i64 s.v, .int .i64 s.x] 63)).alloc (.cells #[.int .i64 t.k, .int .i64 t.a, .int .i64 t.b, .int .i64 t.c, .int .i64 t.u, .int .i64 t.v, .int .i64 t.x] 63)) (n := w.heap.size + 2) (t := 61) (cs := #[.int .i64 0, .int .i64 0, .int .i64 0]) (by simp)
  have hB : Below w.heap.size w (((w.alloc (.cells #[.int .i64 s.k, .int .i64 s.a, .int .i64 s.b, .int .i64 s.c, .int .i64 s.u, .int .i64 s.v, .int .i64 s.x] 63)).alloc (.cells #[.int .i64 t.k, .int .i64 t.a, .int .i64 t.b, .int .i64 t.c, .int .i64 t.u, .int .i64 t.v, .int .i64 t.x] 63)).alloc (.cells #[.int .i64 0, .int .i64 0, .int .i64 0] 61)) := (((Below.refl _ _).alloc (Nat.le_refl _) _).alloc (by simp) _).alloc (by simp; omega) _
  have hz : (((w.alloc (.cells #[.int .i64 s.k, .int .i64 s.a, .int .i64 s.b, .int .i64 s.c, .int .i64 s.u, .int .i64 s.v, .int .i64 s.x] 63)).alloc (.cells #[.int .i64 t.k, .int .i64 t.a, .int .i64 t.b, .int .i64 t.c, .int .i64 t.u, .int .i64 t.v, .int .i64 t.x] 63)).alloc (.cells #[.int .i64 0, .int .i64 0, .int .i64 0] 61)).heap.size = w.heap.size + 3 := by simp
  clear hs ht b1 b2 b3
  go_enter Try.func79, Try.ntmps79
  go_wp2_with fail
  generalize ((w.alloc (.cells #[.int .i64 s.k, .int .i64 s.a, .int .i64 s.b, .int .i64 s.c, .int .i64 s.u, .int .i64 s.v, .int .i64 s.x] 63)).alloc (.cells #[.int .i64 t.k, .int .i64 t.a, .int .i64 t.b, .int .i64 t.c, .int .i64 t.u, .int .i64 t.v, .int .i64 t.x] 63)).alloc (.cells #[.int .i64 0, .int .i64 0, .int .i64 0] 61) = W0 at h1 h2 h3 hB hz ⊢
  have hOk := Lib.hid (fun (wx : World) (h : Below W0.heap.size W0 wx) => (show Below W0.heap.size W0 wx ∧ wx.cell? ⟨w.heap.size, 4, none⟩ = some (.int .i64 s.u) ∧ wx.cell? ⟨w.heap.size, 5, none⟩ = some (.int .i64 s.v) ∧ wx.cell? ⟨w.heap.size, 6, none⟩ = some (.int .i64 s.x) ∧ wx.cell? ⟨w.heap.size + 1, 4, none⟩ = some (.int .i64 t.u) ∧ wx.cell? ⟨w.heap.size + 1, 5, none⟩ = some (.int .i64 t.v) ∧ wx.cell? ⟨w.heap.size + 1, 6, none⟩ = some (.int .i64 t.x) from ⟨h, (h1.kept h).cell 4, (h1.kept h).cell 5, (h1.kept h).cell 6, (h2.kept h).cell 4, (h2.kept h).cell 5, (h2.kept h).cell 6⟩))
  have e1 := h1.cell
  have e2 := h2.cell
  go_region_held3 (fun wx => Below W0.heap.size W0 wx ∧ wx.cell? ⟨w.heap.size, 4, none⟩ = some (.int .i64 s.u) ∧ wx.cell? ⟨w.heap.size, 5, none⟩ = some (.int .i64 s.v) ∧ wx.cell? ⟨w.heap.size, 6, none⟩ = some (.int .i64 s.x) ∧ wx.cell? ⟨w.heap.size + 1, 4, none⟩ = some (.int .i64 t.u) ∧ wx.cell? ⟨w.heap.size + 1, 5, none⟩ = some (.int .i64 t.v) ∧ wx.cell? ⟨w.heap.size + 1, 6, none⟩ = some (.int .i64 t.x)) (first | exact hOk.out _ ((Below.refl _ _).drew) | exact hOk.out _ (bt6 (by assumption) hbq) | go_keep) ((go_at_call 102; refine (rowOf_any _ _ _ _ (by assumption) (by assumption) (by assumption)).mono ?_; rintro e q ⟨rfl, hbq⟩))
  rename_i hHeld
  have hb := hHeld.1
  clear hHeld hOk e1 e2
  have hH3 := Lib.hid (h3.kept hb)
  have hBB := Lib.hid (hB.trans (hb.mono (by omega)))
  clear hbq hb h1 h2 h3 hB
  go_wp2_with fail
  go_loopg [7, 8] 3 (fun gn o i wr => ∃ k : Nat, k ≤ 3 ∧ gn = 3 - k ∧ o = .int .i64 (foldR s t k) ∧ i = .int .i64 ((100 ^ k : Nat) : Int) ∧ Has wr (w.heap.size + 2) 61 #[.int .i64 0, .int .i64 0, .int .i64 0] ∧ Below w.heap.size w wr)
  case atStart => exact ⟨0, by decide, rfl, rfl, rfl, hH3.out, hBB.out⟩
  case round =>
    obtain ⟨k, hk, hgn, rfl, rfl, hH3r, hBr⟩ := hrel
    have hgk : gk = 3 - k := hgn
    have hH3' := Lib.hid hH3r
    have hBB' := Lib.hid hBr
    clear hgn hH3r hBr
    by_cases hlt : k < 3
    · obtain ⟨p, q1', q2', r, r', hp, e1, e2, e3, e4, e5, hq, hq', hrr, hrp, hf, hpp, hp1, hp2⟩ := hS.out k hlt
      have hE := Lib.hid e5
      have hPP := Lib.hid hpp
      rw [hp]
      have hR1 : 0 ≤ rowN s.u s.v s.x := by unfold rowN; omega
      have hR2 : 0 ≤ rowN t.u t.v t.x := by unfold rowN; omega
      generalize foldR s t k = z at *
      generalize rowN s.u s.v s.x = R1 at *
      generalize rowN t.u t.v t.x = R2 at *
      have t1 : R1.tdiv p = q1' := by rw [Int.tdiv_eq_ediv_of_nonneg hR1]; exact e1
      have t2 : R2.tdiv p = q2' := by rw [Int.tdiv_eq_ediv_of_nonneg hR2]; exact e2
      have t3 : q1'.tmod 100 = r := by rw [Int.tmod_eq_emod_of_nonneg hq.1]; exact e3
      have t4 : q2'.tmod 100 = r' := by rw [Int.tmod_eq_emod_of_nonneg hq'.1]; exact e4
      have w1 : wrap64 q1' = q1' := w64 (by omega)
      have w2 : wrap64 q2' = q2' := w64 (by omega)
      have w3 : wrap64 (r * r') = r * r' := w64 (by omega)
      have w4 : wrap64 (r * r' * p) = r * r' * p := w64 (by omega)
      have w5 : wrap64 (z + r * r' * p) = z + r * r' * p := w64 (by omega)
      have hV := Lib.hid (show wrap64 (z + wrap64 (wrap64 ((wrap64 (R1.tdiv p)).tmod 100 * (wrap64 (R2.tdiv p)).tmod 100) * p)) = z + r * r' * p by rw [t1, t2, w1, w2, t3, t4, w3, w4, w5])
      clear t1 t2 t3 t4 w1 w2 w3 w4 w5 e1 e2 e3 e4
      have p0 : p ≠ 0 := by omega
      clear e5 hpp hp
      go_wp2_with fail
      go_quiet (fail)
      go_wp2_with fail
      go_roundg (3 - (k + 1))
      case measure => omega
      case rel => exact ⟨k + 1, by omega, rfl, by rw [← hE.out, hV.out], by rw [← hPP.out], Has.drewN hH3'.out _, below_drewN hBB'.out _⟩
    · obtain rfl : k = 3 := by omega
      go_wp2_with fail
      refine (cW.out _).mono ?_
      rintro e w4 ⟨rfl, hb4⟩
      have hH4 := Lib.hid (hH3'.out.kept hb4)
      have hB4 := Lib.hid (hBB'.out.trans (hb4.mono (by have := hBB'.out.size; omega)))
      have c4 := hH4.out.cell
      have f4 := hH4.out.frozen
      clear hb4
      go_wp2_with fail
      refine bodyPost_ret (v := .agg #[.int .i64 (s.u * t.u), .int .i64 (s.v * t.v), .int .i64 (s.x * t.x)]) (by simp [results, Try.results79, go_sem, c4]) rfl ⟨rfl, ?_⟩
      refine Below.setCell ?_ (by simp; omega) _
      refine Below.setCell ?_ (by simp; omega) _
      refine Below.setCell ?_ (by simp; omega) _
      exact hB4.out
end Go.Proofs.Ytkggejmamhakaaa
