/- Parts of the proof: C0. -/
import Derived.Test.YtkggejmamhakaaaZAV
import Derived.Test.YtkggejmamhakaaaZBC
namespace Go.Proofs.Ytkggejmamhakaaa
set_option maxRecDepth 100000
set_option linter.unusedVariables false
open Go.RowKit
/-- A list that reads so, wherever it lies. -/
def Lsd (w : World) (os : List St) (e : Ending) (w' : World) : Prop :=
  ∃ A c, e = .returned (.slice A os.length c) ∧ os.length ≤ c ∧ c ≤ maxLen ∧ Lst w' w'.heap.size A os.length os ∧ Below w.heap.size w w'
/-- Statements in a new block read as a list. -/
theorem lst_new {w : World} {g : Nat} {os : List St} {cs : Array Value} (h : Has w g 63 cs) (hc : cs.toList = flat os) : Lst w w.heap.size (some ⟨g, 0, none⟩) os.length os := by
  refine ⟨rfl, fun _ => ⟨g, 0, rfl, h.lt, fun k s hs j u hu => ?_⟩⟩
  rw [Nat.zero_add, h.cell, ← Array.getElem?_toList, hc]
  exact flat_at hs hu
theorem getD_set_self {l : Array Bool} {i : Nat} (h : i < l.size) : (l.setIfInBounds i true).getD i false = true := by
  rw [Array.getD_eq_getD_getElem?, Array.getElem?_setIfInBounds_self_of_lt h]; rfl
end Go.Proofs.Ytkggejmamhakaaa
namespace Go.Proofs.Ytkggejmamhakaaa
set_option maxRecDepth 100000
set_option linter.unusedVariables false
open Go.RowKit
set_option maxHeartbeats 2000000 in
theorem changed_0 (a b : St) (A : Option Addr) (cap : Nat) (w : World) (ha : a.ok = true ∧ a.k < 6) (hb : b.ok = true ∧ b.k < 6) (h : Lst w w.heap.size A 2 [a, b]) (hcap : 2 ≤ cap) (hcm : cap ≤ maxLen) (hf : fits 0 a (some b) = true) :
    Calls Try.prog 90 #[.int .i64 0, .slice A 2 cap] w (Lsd w (chg 0 a (some b))) := by
  have hH := Lib.hid h
  obtain ⟨g, off, s0, rfl, hg, hs0, hat⟩ := h.at_ (k := 0) (by omega)
  obtain rfl : a = s0 := by simpa using hs0
  obtain ⟨c0, c1, c2, c3, c4, c5, c6⟩ := hat.open_
  simp only [Nat.zero_mul, Nat.add_zero] at c0 c1 c2 c3 c4 c5 c6
  obtain ⟨g', off', s1, e, _, hs1, hat1⟩ := h.at_ (k := 1) (by omega)
  obtain ⟨rfl, rfl⟩ : g = g' ∧ off = off' := by injection e with e; injection e with e1 e2; exact ⟨e1, e2⟩
  obtain rfl : b = s1 := by simpa using hs1
  obtain ⟨d0, d1, d2, d3, d4, d5, d6⟩ := hat1.open_
  simp only [Nat.one_mul] at d0 d1 d2 d3 d4 d5 d6
  have hcap' : (2 : Int) ≤ (cap : Int) := by omega
  have h1 := Has.new w 63 #[.int .i64 a.k, .int .i64 a.a, .int .i64 a.b, .int .i64 a.c, .int .i64 a.u, .int .i64 a.v, .int .i64 a.x]
  have hB := Lib.hid (show Below w.heap.size w (w.alloc (.cells #[.int .i64 a.k, .int .i64 a.a, .int .i64 a.b, .int .i64 a.c, .int .i64 a.u, .int .i64 a.v, .int .i64 a.x] 63)) from (Below.refl _ _).alloc (Nat.le_refl _) _)
  have hc1 : ¬ cap = 1 := by omega
  have hOk := Lib.hid (fun (wx : World) (hx : Below w.heap.size w wx) => (show Below w.heap.size w wx ∧ wx.cell? ⟨g, off, none⟩ = some (.int .i64 a.k) ∧ wx.cell? ⟨g, off + 1, none⟩ = some (.int .i64 a.a) ∧ wx.cell? ⟨g, off + 2, none⟩ = some (.int .i64 a.b) ∧ wx.cell? ⟨g, off + 3, none⟩ = some (.int .i64 a.c) ∧ wx.cell? ⟨g, off + 4, none⟩ = some (.int .i64 a.u) ∧ wx.cell? ⟨g, off + 5, none⟩ = some (.int .i64 a.v) ∧ wx.cell? ⟨g, off + 6, none⟩ = some (.int .i64 a.x) from ⟨hx, (hx.cell (p := ⟨g, off, none⟩) hg).trans c0, (hx.cell (p := ⟨g, off + 1, none⟩) hg).trans c1, (hx.cell (p := ⟨g, off + 2, none⟩) hg).trans c2, (hx.cell (p := ⟨g, off + 3, none⟩) hg).trans c3, (hx.cell (p := ⟨g, off + 4, none⟩) hg).trans c4, (hx.cell (p := ⟨g, off + 5, none⟩) hg).trans c5, (hx.cell (p := ⟨g, off + 6, none⟩) hg).trans c6⟩))
  have hBb := Lib.hid (fun (wx : World) (hx : Below w.heap.size w wx) => (show wx.cell? ⟨g, off + 7, none⟩ = some (.int .i64 b.k) ∧ wx.cell? ⟨g, off + 7 + 1, none⟩ = some (.int .i64 b.a) ∧ wx.cell? ⟨g, off + 7 + 2, none⟩ = some (.int .i64 b.b) ∧ wx.cell? ⟨g, off + 7 + 3, none⟩ = some (.int .i64 b.c) ∧ wx.cell? ⟨g, off + 7 + 4, none⟩ = some (.int .i64 b.u) ∧ wx.cell? ⟨g, off + 7 + 5, none⟩ = some (.int .i64 b.v) ∧ wx.cell? ⟨g, off + 7 + 6, none⟩ = some (.int .i64 b.x) from ⟨(hx.cell (p := ⟨g, off + 7, none⟩) hg).trans d0, (hx.cell (p := ⟨g, off + 7 + 1, none⟩) hg).trans d1, (hx.cell (p := ⟨g, off + 7 + 2, none⟩) hg).trans d2, (hx.cell (p := ⟨g, off + 7 + 3, none⟩) hg).trans d3, (hx.cell (p := ⟨g, off + 7 + 4, none⟩) hg).trans d4, (hx.cell (p := ⟨g, off + 7 + 5, none⟩) hg).trans d5, (hx.cell (p := ⟨g, off + 7 + 6, none⟩) hg).trans d6⟩))
  clear h hat hs0 hat1 hs1 e
  have h0 := Lib.hid h1
  clear h1 d0 d1 d2 d3 d4 d5 d6
  go_enter Try.func90, Try.ntmps90
  go_wp2_with fail
  go_region_held3 (fun wx => Below w.heap.size w wx ∧ wx.cell? ⟨g, off, none⟩ = some (.int .i64 a.k) ∧ wx.cell? ⟨g, off + 1, none⟩ = some (.int .i64 a.a) ∧ wx.cell? ⟨g, off + 2, none⟩ = some (.int .i64 a.b) ∧ wx.cell? ⟨g, off + 3, none⟩ = some (.int .i64 a.c) ∧ wx.cell? ⟨g, off + 4, none⟩ = some (.int .i64 a.u) ∧ wx.cell? ⟨g, off + 5, none⟩ = some (.int .i64 a.v) ∧ wx.cell? ⟨g, off + 6, none⟩ = some (.int .i64 a.x)) (first | exact hOk.out _ ((Below.refl _ _).drew) | exact hOk.out _ (bs6 (by assumption)) | exact hOk.out _ (bd6 (by assumption)) | exact hOk.out _ (ba6 (by assumption) _) | exact hOk.out _ (ba6d (by assumption) _) | exact hOk.out _ (((Below.refl _ _).drew).alloc (Nat.le_refl _) _) | exact hOk.out _ (((Below.refl _ _)).alloc (Nat.le_refl _) _) | go_keep) (fail)
  rename_i hHeld
  have hB1 := Lib.hid hHeld.1
  have h1 := Lib.hid (show Has ((w.alloc (.cells #[.int .i64 a.k, .int .i64 a.a, .int .i64 a.b, .int .i64 a.c, .int .i64 a.u, .int .i64 a.v, .int .i64 a.x] 63)).drew) w.heap.size 63 #[.int .i64 a.k, .int .i64 a.a, .int .i64 a.b, .int .i64 a.c, .int .i64 a.u, .int .i64 a.v, .int .i64 a.x] from h0.out)
  clear hHeld
  generalize ((w.alloc (.cells #[.int .i64 a.k, .int .i64 a.a, .int .i64 a.b, .int .i64 a.c, .int .i64 a.u, .int .i64 a.v, .int .i64 a.x] 63)).drew) = W1 at h1 hB1 ⊢
  have e1 := h1.out.cell
  obtain ⟨b0, b1, b2, b3, b4, b5, b6⟩ := hBb.out _ hB1.out
  go_wp2_with fail
  go_still_tail 4, (by kernel_rfl)
  repeat still_step
  try (refine wpStill_nil ?_)
  try (change wpList _ _ _ _ _ (World.drew _))
  go_wp2_with fail
  go_ret
  exact ⟨some ⟨W1.heap.size, 0, none⟩, 2, rfl, Nat.le_refl 2, by unfold maxLen; decide, lst_new (os := [b, a]) (Has.new _ _ _) rfl, hB1.out.drew.alloc hB1.out.size _⟩
set_option maxHeartbeats 2000000 in
theorem changed_2 (a b : St) (A : Option Addr) (cap : Nat) (w : World) (ha : a.ok = true ∧ a.k < 6) (hb : b.ok = true ∧ b.k < 6) (h : Lst w w.heap.size A 2 [a, b]) (hcap : 2 ≤ cap) (hcm : cap ≤ maxLen) (hf : fits 2 a (some b) = true) :
    Calls Try.prog 90 #[.int .i64 2, .slice A 2 cap] w (Lsd w (chg 2 a (some b))) := by
  have hH := Lib.hid h
  obtain ⟨g, off, s0, rfl, hg, hs0, hat⟩ := h.at_ (k := 0) (by omega)
  obtain rfl : a = s0 := by simpa using hs0
  obtain ⟨c0, c1, c2, c3, c4, c5, c6⟩ := hat.open_
  simp only [Nat.zero_mul, Nat.add_zero] at c0 c1 c2 c3 c4 c5 c6
  obtain ⟨g', off', s1, e, _, hs1, hat1⟩ := h.at_ (k := 1) (by omega)
  obtain ⟨rfl, rfl⟩ : g = g' ∧ off = off' := by injection e with e; injection e with e1 e2; exact ⟨e1, e2⟩
  obtain rfl : b = s1 := by simpa using hs1
  obtain ⟨d0, d1, d2, d3, d4, d5, d6⟩ := hat1.open_
  simp only [Nat.one_mul] at d0 d1 d2 d3 d4 d5 d6
  have hcap' : (2 : Int) ≤ (cap : Int) := by omega
  have h1 := Has.new w 63 #[.int .i64 a.k, .int .i64 a.a, .int .i64 a.b, .int .i64 a.c, .int .i64 a.u, .int .i64 a.v, .int .i64 a.x]
  have hB := Lib.hid (show Below w.heap.size w (w.alloc (.cells #[.int .i64 a.k, .int .i64 a.a, .int .i64 a.b, .int .i64 a.c, .int .i64 a.u, .int .i64 a.v, .int .i64 a.x] 63)) from (Below.refl _ _).alloc (Nat.le_refl _) _)
  have hc1 : ¬ cap = 1 := by omega
  have hOk := Lib.hid (fun (wx : World) (hx : Below w.heap.size w wx) => (show Below w.heap.size w wx ∧ wx.cell? ⟨g, off, none⟩ = some (.int .i64 a.k) ∧ wx.cell? ⟨g, off + 1, none⟩ = some (.int .i64 a.a) ∧ wx.cell? ⟨g, off + 2, none⟩ = some (.int .i64 a.b) ∧ wx.cell? ⟨g, off + 3, none⟩ = some (.int .i64 a.c) ∧ wx.cell? ⟨g, off + 4, none⟩ = some (.int .i64 a.u) ∧ wx.cell? ⟨g, off + 5, none⟩ = some (.int .i64 a.v) ∧ wx.cell? ⟨g, off + 6, none⟩ = some (.int .i64 a.x) from ⟨hx, (hx.cell (p := ⟨g, off, none⟩) hg).trans c0, (hx.cell (p := ⟨g, off + 1, none⟩) hg).trans c1, (hx.cell (p := ⟨g, off + 2, none⟩) hg).trans c2, (hx.cell (p := ⟨g, off + 3, none⟩) hg).trans c3, (hx.cell (p := ⟨g, off + 4, none⟩) hg).trans c4, (hx.cell (p := ⟨g, off + 5, none⟩) hg).trans c5, (hx.cell (p := ⟨g, off + 6, none⟩) hg).trans c6⟩))
  have hBb := Lib.hid (fun (wx : World) (hx : Below w.heap.size w wx) => (show wx.cell? ⟨g, off + 7, none⟩ = some (.int .i64 b.k) ∧ wx.cell? ⟨g, off + 7 + 1, none⟩ = some (.int .i64 b.a) ∧ wx.cell? ⟨g, off + 7 + 2, none⟩ = some (.int .i64 b.b) ∧ wx.cell? ⟨g, off + 7 + 3, none⟩ = some (.int .i64 b.c) ∧ wx.cell? ⟨g, off + 7 + 4, none⟩ = some (.int .i64 b.u) ∧ wx.cell? ⟨g, off + 7 + 5, none⟩ = some (.int .i64 b.v) ∧ wx.cell? ⟨g, off + 7 + 6, none⟩ = some (.int .i64 b.x) from ⟨(hx.cell (p := ⟨g, off + 7, none⟩) hg).trans d0, (hx.cell (p := ⟨g, off + 7 + 1, none⟩) hg).trans d1, (hx.cell (p := ⟨g, off + 7 + 2, none⟩) hg).trans d2, (hx.cell (p := ⟨g, off + 7 + 3, none⟩) hg).trans d3, (hx.cell (p := ⟨g, off + 7 + 4, none⟩) hg).trans d4, (hx.cell (p := ⟨g, off + 7 + 5, none⟩) hg).trans d5, (hx.cell (p := ⟨g, off + 7 + 6, none⟩) hg).trans d6⟩))
  clear h hat hs0 hat1 hs1 e
  have h0 := Lib.hid h1
  clear h1 d0 d1 d2 d3 d4 d5 d6
  go_enter Try.func90, Try.ntmps90
  go_wp2_with fail
  go_region_held3 (fun wx => Below w.heap.size w wx ∧ wx.cell? ⟨g, off, none⟩ = some (.int .i64 a.k) ∧ wx.cell? ⟨g, off + 1, none⟩ = some (.int .i64 a.a) ∧ wx.cell? ⟨g, off + 2, none⟩ = some (.int .i64 a.b) ∧ wx.cell? ⟨g, off + 3, none⟩ = some (.int .i64 a.c) ∧ wx.cell? ⟨g, off + 4, none⟩ = some (.int .i64 a.u) ∧ wx.cell? ⟨g, off + 5, none⟩ = some (.int .i64 a.v) ∧ wx.cell? ⟨g, off + 6, none⟩ = some (.int .i64 a.x)) (first | exact hOk.out _ ((Below.refl _ _).drew) | exact hOk.out _ (bs6 (by assumption)) | exact hOk.out _ (bd6 (by assumption)) | exact hOk.out _ (ba6 (by assumption) _) | exact hOk.out _ (ba6d (by assumption) _) | exact hOk.out _ (((Below.refl _ _).drew).alloc (Nat.le_refl _) _) | exact hOk.out _ (((Below.refl _ _)).alloc (Nat.le_refl _) _) | go_keep) (fail)
  rename_i hHeld
  have hB1 := Lib.hid hHeld.1
  have h1 := Lib.hid (show Has ((w.alloc (.cells #[.int .i64 a.k, .int .i64 a.a, .int .i64 a.b, .int .i64 a.c, .int .i64 a.u, .int .i64 a.v, .int .i64 a.x] 63)).drew) w.heap.size 63 #[.int .i64 a.k, .int .i64 a.a, .int .i64 a.b, .int .i64 a.c, .int .i64 a.u, .int .i64 a.v, .int .i64 a.x] from h0.out)
  clear hHeld
  generalize ((w.alloc (.cells #[.int .i64 a.k, .int .i64 a.a, .int .i64 a.b, .int .i64 a.c, .int .i64 a.u, .int .i64 a.v, .int .i64 a.x] 63)).drew) = W1 at h1 hB1 ⊢
  go_wp2_with fail
  go_ret
  have hl := (hH.out.part_ (k := 1) (m := 1) (by decide) (by decide))
  rw [Nat.one_mul] at hl
  exact ⟨_, _, rfl, by show 1 ≤ cap - 1; omega, by omega, (hl.below hB1.out).more hB1.out.size, hB1.out⟩
end Go.Proofs.Ytkggejmamhakaaa
namespace Go.Proofs.Ytkggejmamhakaaa
set_option maxRecDepth 100000
set_option linter.unusedVariables false
open Go.RowKit
set_option maxHeartbeats 2000000 in
theorem changed_4 (a b : St) (A : Option Addr) (cap : Nat) (w : World) (ha : a.ok = true ∧ a.k < 6) (hb : b.ok = true ∧ b.k < 6) (h : Lst w w.heap.size A 2 [a, b]) (hcap : 2 ≤ cap) (hcm : cap ≤ maxLen) (hf : fits 4 a (some b) = true) :
    Calls Try.prog 90 #[.int .i64 4, .slice A 2 cap] w (Lsd w (chg 4 a (some b))) := by
  have hH := Lib.hid h
  obtain ⟨g, off, s0, rfl, hg, hs0, hat⟩ := h.at_ (k := 0) (by omega)
  obtain rfl : a = s0 := by simpa using hs0
  obtain ⟨c0, c1, c2, c3, c4, c5, c6⟩ := hat.open_
  simp only [Nat.zero_mul, Nat.add_zero] at c0 c1 c2 c3 c4 c5 c6
  obtain ⟨g', off', s1, e, _, hs1, hat1⟩ := h.at_ (k := 1) (by omega)
  obtain ⟨rfl, rfl⟩ : g = g' ∧ off = off' := by injection e with e; injection e with e1 e2; exact ⟨e1, e2⟩
  obtain rfl : b = s1 := by simpa using hs1
  obtain ⟨d0, d1, d2, d3, d4, d5, d6⟩ := hat1.open_
  simp only [Nat.one_mul] at d0 d1 d2 d3 d4 d5 d6
  have hcap' : (2 : Int) ≤ (cap : Int) := by omega
  have h1 := Has.new w 63 #[.int .i64 a.k, .int .i64 a.a, .int .i64 a.b, .int .i64 a.c, .int .i64 a.u, .int .i64 a.v, .int .i64 a.x]
  have hB := Lib.hid (show Below w.heap.size w (w.alloc (.cells #[.int .i64 a.k, .int .i64 a.a, .int .i64 a.b, .int .i64 a.c, .int .i64 a.u, .int .i64 a.v, .int .i64 a.x] 63)) from (Below.refl _ _).alloc (Nat.le_refl _) _)
  have hc1 : ¬ cap = 1 := by omega
  have hOk := Lib.hid (fun (wx : World) (hx : Below w.heap.size w wx) => (show Below w.heap.size w wx ∧ wx.cell? ⟨g, off, none⟩ = some (.int .i64 a.k) ∧ wx.cell? ⟨g, off + 1, none⟩ = some (.int .i64 a.a) ∧ wx.cell? ⟨g, off + 2, none⟩ = some (.int .i64 a.b) ∧ wx.cell? ⟨g, off + 3, none⟩ = some (.int .i64 a.c) ∧ wx.cell? ⟨g, off + 4, none⟩ = some (.int .i64 a.u) ∧ wx.cell? ⟨g, off + 5, none⟩ = some (.int .i64 a.v) ∧ wx.cell? ⟨g, off + 6, none⟩ = some (.int .i64 a.x) from ⟨hx, (hx.cell (p := ⟨g, off, none⟩) hg).trans c0, (hx.cell (p := ⟨g, off + 1, none⟩) hg).trans c1, (hx.cell (p := ⟨g, off + 2, none⟩) hg).trans c2, (hx.cell (p := ⟨g, off + 3, none⟩) hg).trans c3, (hx.cell (p := ⟨g, off + 4, none⟩) hg).trans c4, (hx.cell (p := ⟨g, off + 5, none⟩) hg).trans c5, (hx.cell (p := ⟨g, off + 6, none⟩) hg).trans c6⟩))
  have hBb := Lib.hid (fun (wx : World) (hx : Below w.heap.size w wx) => (show wx.cell? ⟨g, off + 7, none⟩ = some (.int .i64 b.k) ∧ wx.cell? ⟨g, off + 7 + 1, none⟩ = some (.int .i64 b.a) ∧ wx.cell? ⟨g, off + 7 + 2, none⟩ = some (.int .i64 b.b) ∧ wx.cell? ⟨g, off + 7 + 3, none⟩ = some (.int .i64 b.c) ∧ wx.cell? ⟨g, off + 7 + 4, none⟩ = some (.int .i64 b.u) ∧ wx.cell? ⟨g, off + 7 + 5, none⟩ = some (.int .i64 b.v) ∧ wx.cell? ⟨g, off + 7 + 6, none⟩ = some (.int .i64 b.x) from ⟨(hx.cell (p := ⟨g, off + 7, none⟩) hg).trans d0, (hx.cell (p := ⟨g, off + 7 + 1, none⟩) hg).trans d1, (hx.cell (p := ⟨g, off + 7 + 2, none⟩) hg).trans d2, (hx.cell (p := ⟨g, off + 7 + 3, none⟩) hg).trans d3, (hx.cell (p := ⟨g, off + 7 + 4, none⟩) hg).trans d4, (hx.cell (p := ⟨g, off + 7 + 5, none⟩) hg).trans d5, (hx.cell (p := ⟨g, off + 7 + 6, none⟩) hg).trans d6⟩))
  clear h hat hs0 hat1 hs1 e
  have h0 := Lib.hid h1
  clear h1 d0 d1 d2 d3 d4 d5 d6
  obtain ⟨_, e, hk0, hk, hb1, hab⟩ := fits_4 hf
  injection e with e; subst e
  have hac : 0 ≤ a.c ∧ a.c ≤ 2 := by
    rcases (ok_low ha.2).1 ha.1 with ⟨_, _, _, hc, _⟩ | ⟨hk', _⟩ | ⟨hk', _⟩ | ⟨hk', _⟩
    · exact hc
    all_goals omega
  obtain ⟨n, hn⟩ : ∃ n : Nat, a.c = n := ⟨a.c.toNat, by omega⟩
  have cMv := Lib.hid (fun wx => moved_any b n wx (by omega) hk (ok_ws hb.1 hb.2))
  rw [← hn] at cMv
  have hSc : chg 4 a (some b) = [a, moved b a.c] := rfl
  rw [hSc]
  clear hSc hf hk0 hk hb1 hab hac hn
  generalize moved b a.c = mm at *
  go_enter Try.func90, Try.ntmps90
  go_wp2_with fail
  go_region_held3 (fun wx => Below w.heap.size w wx ∧ wx.cell? ⟨g, off, none⟩ = some (.int .i64 a.k) ∧ wx.cell? ⟨g, off + 1, none⟩ = some (.int .i64 a.a) ∧ wx.cell? ⟨g, off + 2, none⟩ = some (.int .i64 a.b) ∧ wx.cell? ⟨g, off + 3, none⟩ = some (.int .i64 a.c) ∧ wx.cell? ⟨g, off + 4, none⟩ = some (.int .i64 a.u) ∧ wx.cell? ⟨g, off + 5, none⟩ = some (.int .i64 a.v) ∧ wx.cell? ⟨g, off + 6, none⟩ = some (.int .i64 a.x)) (first | exact hOk.out _ ((Below.refl _ _).drew) | exact hOk.out _ (bs6 (by assumption)) | exact hOk.out _ (bd6 (by assumption)) | exact hOk.out _ (ba6 (by assumption) _) | exact hOk.out _ (ba6d (by assumption) _) | exact hOk.out _ (((Below.refl _ _).drew).alloc (Nat.le_refl _) _) | exact hOk.out _ (((Below.refl _ _)).alloc (Nat.le_refl _) _) | go_keep) (fail)
  rename_i hHeld
  have hB1 := Lib.hid hHeld.1
  have h1 := Lib.hid (show Has ((w.alloc (.cells #[.int .i64 a.k, .int .i64 a.a, .int .i64 a.b, .int .i64 a.c, .int .i64 a.u, .int .i64 a.v, .int .i64 a.x] 63)).drew) w.heap.size 63 #[.int .i64 a.k, .int .i64 a.a, .int .i64 a.b, .int .i64 a.c, .int .i64 a.u, .int .i64 a.v, .int .i64 a.x] from h0.out)
  clear hHeld
  generalize ((w.alloc (.cells #[.int .i64 a.k, .int .i64 a.a, .int .i64 a.b, .int .i64 a.c, .int .i64 a.u, .int .i64 a.v, .int .i64 a.x] 63)).drew) = W1 at h1 hB1 ⊢
  have e1 := h1.out.cell
  obtain ⟨b0, b1, b2, b3, b4, b5, b6⟩ := hBb.out _ hB1.out
  go_wp2_with fail
  have hOk2 := Lib.hid (fun (wx : World) (hx : Below W1.heap.size W1 wx) => (show Below W1.heap.size W1 wx ∧ wx.cell? ⟨w.heap.size, 0, none⟩ = some (.int .i64 a.k) ∧ wx.cell? ⟨w.heap.size, 1, none⟩ = some (.int .i64 a.a) ∧ wx.cell? ⟨w.heap.size, 2, none⟩ = some (.int .i64 a.b) ∧ wx.cell? ⟨w.heap.size, 3, none⟩ = some (.int .i64 a.c) ∧ wx.cell? ⟨w.heap.size, 4, none⟩ = some (.int .i64 a.u) ∧ wx.cell? ⟨w.heap.size, 5, none⟩ = some (.int .i64 a.v) ∧ wx.cell? ⟨w.heap.size, 6, none⟩ = some (.int .i64 a.x) ∧ wx.cell? ⟨g, off + 7, none⟩ = some (.int .i64 b.k) ∧ wx.cell? ⟨g, off + 7 + 1, none⟩ = some (.int .i64 b.a) ∧ wx.cell? ⟨g, off + 7 + 2, none⟩ = some (.int .i64 b.b) ∧ wx.cell? ⟨g, off + 7 + 3, none⟩ = some (.int .i64 b.c) ∧ wx.cell? ⟨g, off + 7 + 4, none⟩ = some (.int .i64 b.u) ∧ wx.cell? ⟨g, off + 7 + 5, none⟩ = some (.int .i64 b.v) ∧ wx.cell? ⟨g, off + 7 + 6, none⟩ = some (.int .i64 b.x) from ⟨hx, (h1.out.kept hx).cell 0, (h1.out.kept hx).cell 1, (h1.out.kept hx).cell 2, (h1.out.kept hx).cell 3, (h1.out.kept hx).cell 4, (h1.out.kept hx).cell 5, (h1.out.kept hx).cell 6, hBb.out _ (hB1.out.trans (hx.mono hB1.out.size))⟩))
  go_region_held3 (fun wx => Below W1.heap.size W1 wx ∧ wx.cell? ⟨w.heap.size, 0, none⟩ = some (.int .i64 a.k) ∧ wx.cell? ⟨w.heap.size, 1, none⟩ = some (.int .i64 a.a) ∧ wx.cell? ⟨w.heap.size, 2, none⟩ = some (.int .i64 a.b) ∧ wx.cell? ⟨w.heap.size, 3, none⟩ = some (.int .i64 a.c) ∧ wx.cell? ⟨w.heap.size, 4, none⟩ = some (.int .i64 a.u) ∧ wx.cell? ⟨w.heap.size, 5, none⟩ = some (.int .i64 a.v) ∧ wx.cell? ⟨w.heap.size, 6, none⟩ = some (.int .i64 a.x) ∧ wx.cell? ⟨g, off + 7, none⟩ = some (.int .i64 b.k) ∧ wx.cell? ⟨g, off + 7 + 1, none⟩ = some (.int .i64 b.a) ∧ wx.cell? ⟨g, off + 7 + 2, none⟩ = some (.int .i64 b.b) ∧ wx.cell? ⟨g, off + 7 + 3, none⟩ = some (.int .i64 b.c) ∧ wx.cell? ⟨g, off + 7 + 4, none⟩ = some (.int .i64 b.u) ∧ wx.cell? ⟨g, off + 7 + 5, none⟩ = some (.int .i64 b.v) ∧ wx.cell? ⟨g, off + 7 + 6, none⟩ = some (.int .i64 b.x)) (first | exact hOk2.out _ ((Below.refl _ _).drew) | exact hOk2.out _ (bt6 (by assumption) hbq) | exact hOk2.out _ (bs6 (by assumption)) | exact hOk2.out _ (bd6 (by assumption)) | exact hOk2.out _ (ba6 (by assumption) _) | exact hOk2.out _ (ba6d (by assumption) _) | go_keep) (first | (go_at_call 112; refine (cMv.out _).mono ?_; rintro e q ⟨rfl, hbq⟩))
  rename_i hHeld
  have hBz := Lib.hid (hB1.out.trans (hHeld.1.mono hB1.out.size))
  clear hHeld hOk2 e1 b0 b1 b2 b3 b4 b5 b6
  go_wp2_with fail
  go_ret
  exact ⟨some ⟨q.heap.size, 0, none⟩, 2, rfl, Nat.le_refl 2, by unfold maxLen; decide, lst_new (os := [a, mm]) (Has.new _ _ _) rfl, hBz.out⟩
end Go.Proofs.Ytkggejmamhakaaa
