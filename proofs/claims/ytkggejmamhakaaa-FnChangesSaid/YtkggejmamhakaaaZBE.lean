/- Parts of the proof: C1. -/
import Derived.Test.YtkggejmamhakaaaZBB
import Derived.Test.YtkggejmamhakaaaZBD
namespace Go.Proofs.Ytkggejmamhakaaa
set_option maxRecDepth 100000
set_option linter.unusedVariables false
open Go.RowKit
set_option maxHeartbeats 2000000 in
theorem changed_1 (a b : St) (A : Option Addr) (cap : Nat) (w : World) (ha : a.ok = true ∧ a.k < 6) (hb : b.ok = true ∧ b.k < 6) (h : Lst w w.heap.size A 2 [a, b]) (hcap : 2 ≤ cap) (hcm : cap ≤ maxLen) (hf : fits 1 a (some b) = true) :
    Calls Try.prog 90 #[.int .i64 1, .slice A 2 cap] w (Lsd w (chg 1 a (some b))) := by
  have hH := Lib.hid h
  obtain ⟨g, off, s0, rfl, hg, hs0, hat⟩ := h.at_ (k := 0) (by omega)
  obtain rfl : a = s0 := by simpa using hs0
  obtain ⟨c0, c1, c2, c3, c4, c5, c6⟩ := hat.open_
  simp only [Nat.zero_mul, Nat.add_zero] at c0 c1 c2 c3 c4 c5 c6
  obtain ⟨g', off', s1, e, _, hs1, hat1⟩ := h.at_ (k := 1) (by omega)
  obtain ⟨rfl, rfl⟩ : g = g' ∧ off = off' := by injection e with e; injection e with e1 e2; exact ⟨e1, e2⟩
  obtain rfl : b = s1 := by simpa using hs1
  obtain ⟨d0, d1, d2, d3, d4, d5, d6⟩ := hat1.open_
  simp only [Nat.one_mul] at d0 d1 d2 d3 d4 d5 d6
  have hcap' : (2 : Int) ≤ (cap : Int) := by omega
  have h1 := Has.new w 63 #[.int .i64 a.k, .int .i64 a.a, .int .i64 a.b, .int .i64 a.c, .int .i64 a.u, .int .i64 a.v, .int .i64 a.x]
  have hB := Lib.hid (show Below w.heap.size w (w.alloc (.cells #[.int .i64 a.k, .int .i64 a.a, .int .i64 a.b, .int .i64 a.c, .int .i64 a.u, .int .i64 a.v, .int .i64 a.x] 63)) from (Below.refl _ _).alloc (Nat.le_refl _) _)
  have hc1 : ¬ cap = 1 := by omega
  have hOk := Lib.hid (fun (wx : World) (hx : Below w.heap.size w wx) => (show Below w.heap.size w wx ∧ wx.cell? ⟨g, off, none⟩ = some (.int .i64 a.k) ∧ wx.cell? ⟨g, off + 1, none⟩ = some (.int .i64 a.a) ∧ wx.cell? ⟨g, off + 2, none⟩ = some (.int .i64 a.b) ∧ wx.cell? ⟨g, off + 3, none⟩ = some (.int .i64 a.c) ∧ wx.cell? ⟨g, off + 4, none⟩ = some (.int .i64 a.u) ∧ wx.cell? ⟨g, off + 5, none⟩ = some (.int .i64 a.v) ∧ wx.cell? ⟨g, off + 6, none⟩ = some (.int .i64 a.x) from ⟨hx, (hx.cell (p := ⟨g, off, none⟩) hg).trans c0, (hx.cell (p := ⟨g, off + 1, none⟩) hg).trans c1, (hx.cell (p := ⟨g, off + 2, none⟩) hg).trans c2, (hx.cell (p := ⟨g, off + 3, none⟩) hg).trans c3, (hx.cell (p := ⟨g, off + 4, none⟩) hg).trans c4, (hx.cell (p := ⟨g, off + 5, none⟩) hg).trans c5, (hx.cell (p := ⟨g, off + 6, none⟩) hg).trans c6⟩))
  have hBb := Lib.hid (fun (wx : World) (hx : Below w.heap.size w wx) => (show wx.cell? ⟨g, off + 7, none⟩ = some (.int .i64 b.k) ∧ wx.cell? ⟨g, off + 7 + 1, none⟩ = some (.int .i64 b.a) ∧ wx.cell? ⟨g, off + 7 + 2, none⟩ = some (.int .i64 b.b) ∧ wx.cell? ⟨g, off + 7 + 3, none⟩ = some (.int .i64 b.c) ∧ wx.cell? ⟨g, off + 7 + 4, none⟩ = some (.int .i64 b.u) ∧ wx.cell? ⟨g, off + 7 + 5, none⟩ = some (.int .i64 b.v) ∧ wx.cell? ⟨g, off + 7 + 6, none⟩ = some (.int .i64 b.x) from ⟨(hx.cell (p := ⟨g, off + 7, none⟩) hg).trans d0, (hx.cell (p := ⟨g, off + 7 + 1, none⟩) hg).trans d1, (hx.cell (p := ⟨g, off + 7 + 2, none⟩) hg).trans d2, (hx.cell (p := ⟨g, off + 7 + 3, none⟩) hg).trans d3, (hx.cell (p := ⟨g, off + 7 + 4, none⟩) hg).trans d4, (hx.cell (p := ⟨g, off + 7 + 5, none⟩) hg).trans d5, (hx.cell (p := ⟨g, off + 7 + 6, none⟩) hg).trans d6⟩))
  clear h hat hs0 hat1 hs1 e
  have h0 := Lib.hid h1
  clear h1 d0 d1 d2 d3 d4 d5 d6
  obtain ⟨_, e, hk, hk2, haa, hw⟩ := fits_1 hf
  injection e with e; subst e
  have cFo := Lib.hid (fun wx => foldedWeights_any a b wx (ok_ws ha.1 ha.2) (ok_ws hb.1 hb.2))
  clear hk hk2 haa hw
  go_enter Try.func90, Try.ntmps90
  go_wp2_with fail
  go_region_held3 (fun wx => Below w.heap.size w wx ∧ wx.cell? ⟨g, off, none⟩ = some (.int .i64 a.k) ∧ wx.cell? ⟨g, off + 1, none⟩ = some (.int .i64 a.a) ∧ wx.cell? ⟨g, off + 2, none⟩ = some (.int .i64 a.b) ∧ wx.cell? ⟨g, off + 3, none⟩ = some (.int .i64 a.c) ∧ wx.cell? ⟨g, off + 4, none⟩ = some (.int .i64 a.u) ∧ wx.cell? ⟨g, off + 5, none⟩ = some (.int .i64 a.v) ∧ wx.cell? ⟨g, off + 6, none⟩ = some (.int .i64 a.x)) (first | exact hOk.out _ ((Below.refl _ _).drew) | exact hOk.out _ (bs6 (by assumption)) | exact hOk.out _ (bd6 (by assumption)) | exact hOk.out _ (ba6 (by assumption) _) | exact hOk.out _ (ba6d (by assumption) _) | exact hOk.out _ (((Below.refl _ _).drew).alloc (Nat.le_refl _) _) | exact hOk.out _ (((Below.refl _ _)).alloc (Nat.le_refl _) _) | go_keep) (fail)
  rename_i hHeld
  have hB1 := Lib.hid hHeld.1
  have h1 := Lib.hid (show Has ((w.alloc (.cells #[.int .i64 a.k, .int .i64 a.a, .int .i64 a.b, .int .i64 a.c, .int .i64 a.u, .int .i64 a.v, .int .i64 a.x] 63)).drew) w.heap.size 63 #[.int .i64 a.k, .int .i64 a.a, .int .i64 a.b, .int .i64 a.c, .int .i64 a.u, .int .i64 a.v, .int .i64 a.x] from h0.out)
  clear hHeld
  generalize ((w.alloc (.cells #[.int .i64 a.k, .int .i64 a.a, .int .i64 a.b, .int .i64 a.c, .int .i64 a.u, .int .i64 a.v, .int .i64 a.x] 63)).drew) = W1 at h1 hB1 ⊢
  go_wp2_with fail
  refine wp_region_any (by kernel_rfl) ?_
  change wpAny _ _ _ _ _ _ _ (World.drew _)
  refine wpAny_inv (I := fun listed aq wx => listed.size = 7 ∧ ∃ v22 v23 v24 v25 v26 v27 : Value, aq = { tmps := #[.int .i64 1, .slice (some ⟨g, off, none⟩) 2 cap, undef, undef, .slice none 0 0, .pointer (some ⟨w.heap.size, 0, none⟩), .slice (some ⟨g, off + 7, none⟩) 1 (cap - 1), .slice (some ⟨g, off, none⟩) 2 cap, .pointer (some ⟨g, off, none⟩), .agg #[.int .i64 a.k, .int .i64 a.a, .int .i64 a.b, .int .i64 a.c, .int .i64 a.u, .int .i64 a.v, .int .i64 a.x], .slice (some ⟨g, off, none⟩) 2 cap, .slice (some ⟨g, off + 7, none⟩) 1 (cap - 1), .int .i64 1, .bool false, .bool false, undef, undef, undef, undef, undef, .bool true, .bool true, v22, v23, v24, v25, v26, v27, undef, undef, undef, undef, undef, undef, undef, undef, undef, undef, undef, undef, undef, undef, undef, undef, undef, undef, undef, undef, undef, undef, undef, undef, undef, undef, undef, undef], defers := [] } ∧ (listed.getD 0 false = true → v22 = .agg #[.int .i64 a.k, .int .i64 a.a, .int .i64 a.b, .int .i64 a.c, .int .i64 a.u, .int .i64 a.v, .int .i64 a.x]) ∧ (listed.getD 1 false = true → v23 = .slice (some ⟨g, off + 7, none⟩) 1 (cap - 1)) ∧ (listed.getD 2 false = true → v24 = .pointer (some ⟨g, off + 7, none⟩)) ∧ (listed.getD 3 false = true → v25 = .agg #[.int .i64 b.k, .int .i64 b.a, .int .i64 b.b, .int .i64 b.c, .int .i64 b.u, .int .i64 b.v, .int .i64 b.x]) ∧ (listed.getD 4 false = true → (v26 = .agg #[.int .i64 (a.u * b.u), .int .i64 (a.v * b.v), .int .i64 (a.x * b.x)] ∧ listed.getD 0 false = true)) ∧ (listed.getD 5 false = true → v27 = .pointer (some ⟨w.heap.size, 4, none⟩)) ∧ (listed.getD 6 false = true → (listed.getD 0 false = true ∧ Has wx w.heap.size 63 #[.int .i64 a.k, .int .i64 a.a, .int .i64 a.b, .int .i64 a.c, .int .i64 (a.u * b.u), .int .i64 (a.v * b.v), .int .i64 (a.x * b.x)])) ∧ Below w.heap.size w wx ∧ (∃ cs, Has wx w.heap.size 63 cs ∧ cs.size = 7 ∧ (listed.getD 6 false = true ∨ cs = #[.int .i64 a.k, .int .i64 a.a, .int .i64 a.b, .int .i64 a.c, .int .i64 a.u, .int .i64 a.v, .int .i64 a.x]))) ?hs ?he _ _ _ _ ?st (by decide)
  case st =>
    refine ⟨by simp, undef, undef, undef, undef, undef, undef, rfl, ?_, ?_, ?_, ?_, ?_, ?_, ?_, hB1.out.drew, ⟨_, h1.out, rfl, .inr rfl⟩⟩ <;> (intro e; exact absurd e (by decide))
  case hs =>
    rintro listed aq wx ⟨hz, v22, v23, v24, v25, v26, v27, rfl, hII⟩ i hi
    obtain ⟨h0, o, ho, hd⟩ := mem_ready.1 hi
    have hin : i < 7 := by
      have := (Array.getElem?_eq_some_iff.1 ho).1
      simpa using this
    have hI := Lib.hid hII
    have hne := Lib.hid (fun k (hk : i ≠ k) => @listed_ne listed i k hk)
    have hB : Below w.heap.size w wx := hII.2.2.2.2.2.2.2.1
    have hM : (∃ cs, Has wx w.heap.size 63 cs ∧ cs.size = 7 ∧ (listed.getD 6 false = true ∨ cs = #[.int .i64 a.k, .int .i64 a.a, .int .i64 a.b, .int .i64 a.c, .int .i64 a.u, .int .i64 a.v, .int .i64 a.x])) := hII.2.2.2.2.2.2.2.2
    have h0f : listed.getD i false = false := by rw [Array.getD_eq_getD_getElem?, getD_false h0]; rfl
    clear hII hi h0
    rcases (by omega : i = 0 ∨ i = 1 ∨ i = 2 ∨ i = 3 ∨ i = 4 ∨ i = 5 ∨ i = 6) with rfl | rfl | rfl | rfl | rfl | rfl | rfl
    · cases ho
      have hA : Has wx w.heap.size 63 #[.int .i64 a.k, .int .i64 a.a, .int .i64 a.b, .int .i64 a.c, .int .i64 a.u, .int .i64 a.v, .int .i64 a.x] := (by obtain ⟨cs, y1, y2, y3⟩ := hM; exact y3.elim (fun z => absurd ((hI.out.2.2.2.2.2.2.1 z).1) (by rw [h0f]; decide)) (fun z => by rw [← z]; exact y1))
      have hAc := hA.cell
      refine wpOp_step rfl (fun K hK => ?_)
      go_simp
      refine hK _ _ ⟨by simpa using hz, .agg #[.int .i64 a.k, .int .i64 a.a, .int .i64 a.b, .int .i64 a.c, .int .i64 a.u, .int .i64 a.v, .int .i64 a.x], v23, v24, v25, v26, v27, rfl, ?_⟩
      exact ⟨fun _ => rfl, fun e => hI.out.2.1 (hne.out 1 (by decide) e), fun e => hI.out.2.2.1 (hne.out 2 (by decide) e), fun e => hI.out.2.2.2.1 (hne.out 3 (by decide) e), fun e => (by obtain ⟨y, z0⟩ := hI.out.2.2.2.2.1 (hne.out 4 (by decide) e); exact ⟨y, getD_set_true z0⟩), fun e => hI.out.2.2.2.2.2.1 (hne.out 5 (by decide) e), fun e => (by obtain ⟨z0, y⟩ := hI.out.2.2.2.2.2.2.1 (hne.out 6 (by decide) e); exact ⟨getD_set_true z0, y⟩), hB, (by obtain ⟨cs, y1, y2, y3⟩ := hM; exact ⟨cs, y1, y2, y3.imp_left getD_set_true⟩)⟩
    · cases ho
      refine wpOp_step rfl (fun K hK => ?_)
      go_simp
      refine hK _ _ ⟨by simpa using hz, v22, .slice (some ⟨g, off + 7, none⟩) 1 (cap - 1), v24, v25, v26, v27, rfl, ?_⟩
      exact ⟨fun e => hI.out.1 (hne.out 0 (by decide) e), fun _ => rfl, fun e => hI.out.2.2.1 (hne.out 2 (by decide) e), fun e => hI.out.2.2.2.1 (hne.out 3 (by decide) e), fun e => (by obtain ⟨y, z0⟩ := hI.out.2.2.2.2.1 (hne.out 4 (by decide) e); exact ⟨y, getD_set_true z0⟩), fun e => hI.out.2.2.2.2.2.1 (hne.out 5 (by decide) e), fun e => (by obtain ⟨z0, y⟩ := hI.out.2.2.2.2.2.2.1 (hne.out 6 (by decide) e); exact ⟨getD_set_true z0, y⟩), hB, (by obtain ⟨cs, y1, y2, y3⟩ := hM; exact ⟨cs, y1, y2, y3.imp_left getD_set_true⟩)⟩
    · cases ho
      have d1 := hd ⟨1, .data⟩ (by simp) rfl
      obtain rfl := hI.out.2.1 d1
      refine wpOp_step rfl (fun K hK => ?_)
      go_simp
      refine hK _ _ ⟨by simpa using hz, v22, .slice (some ⟨g, off + 7, none⟩) 1 (cap - 1), .pointer (some ⟨g, off + 7, none⟩), v25, v26, v27, rfl, ?_⟩
      exact ⟨fun e => hI.out.1 (hne.out 0 (by decide) e), fun e => hI.out.2.1 (hne.out 1 (by decide) e), fun _ => rfl, fun e => hI.out.2.2.2.1 (hne.out 3 (by decide) e), fun e => (by obtain ⟨y, z0⟩ := hI.out.2.2.2.2.1 (hne.out 4 (by decide) e); exact ⟨y, getD_set_true z0⟩), fun e => hI.out.2.2.2.2.2.1 (hne.out 5 (by decide) e), fun e => (by obtain ⟨z0, y⟩ := hI.out.2.2.2.2.2.2.1 (hne.out 6 (by decide) e); exact ⟨getD_set_true z0, y⟩), hB, (by obtain ⟨cs, y1, y2, y3⟩ := hM; exact ⟨cs, y1, y2, y3.imp_left getD_set_true⟩)⟩
    · cases ho
      have d2 := hd ⟨2, .data⟩ (by simp) rfl
      obtain rfl := hI.out.2.2.1 d2
      obtain ⟨b0, b1, b2, b3, b4, b5, b6⟩ := hBb.out _ hB
      refine wpOp_step rfl (fun K hK => ?_)
      go_simp
      refine hK _ _ ⟨by simpa using hz, v22, v23, .pointer (some ⟨g, off + 7, none⟩), .agg #[.int .i64 b.k, .int .i64 b.a, .int .i64 b.b, .int .i64 b.c, .int .i64 b.u, .int .i64 b.v, .int .i64 b.x], v26, v27, rfl, ?_⟩
      exact ⟨fun e => hI.out.1 (hne.out 0 (by decide) e), fun e => hI.out.2.1 (hne.out 1 (by decide) e), fun e => hI.out.2.2.1 (hne.out 2 (by decide) e), fun _ => rfl, fun e => (by obtain ⟨y, z0⟩ := hI.out.2.2.2.2.1 (hne.out 4 (by decide) e); exact ⟨y, getD_set_true z0⟩), fun e => hI.out.2.2.2.2.2.1 (hne.out 5 (by decide) e), fun e => (by obtain ⟨z0, y⟩ := hI.out.2.2.2.2.2.2.1 (hne.out 6 (by decide) e); exact ⟨getD_set_true z0, y⟩), hB, (by obtain ⟨cs, y1, y2, y3⟩ := hM; exact ⟨cs, y1, y2, y3.imp_left getD_set_true⟩)⟩
    · cases ho
      have d0 := hd ⟨0, .data⟩ (by simp) rfl
      have d3 := hd ⟨3, .data⟩ (by simp) rfl
      obtain rfl := hI.out.1 d0
      obtain rfl := hI.out.2.2.2.1 d3
      refine wpOp_step rfl (fun K hK => ?_)
      go_simp
      go_at_call 79
      refine (cFo.out _).mono ?_
      rintro e w3 ⟨rfl, hb3⟩
      refine hK _ _ ⟨by simpa using hz, .agg #[.int .i64 a.k, .int .i64 a.a, .int .i64 a.b, .int .i64 a.c, .int .i64 a.u, .int .i64 a.v, .int .i64 a.x], v23, v24, .agg #[.int .i64 b.k, .int .i64 b.a, .int .i64 b.b, .int .i64 b.c, .int .i64 b.u, .int .i64 b.v, .int .i64 b.x], .agg #[.int .i64 (a.u * b.u), .int .i64 (a.v * b.v), .int .i64 (a.x * b.x)], v27, rfl, ?_⟩
      exact ⟨fun e => hI.out.1 (hne.out 0 (by decide) e), fun e => hI.out.2.1 (hne.out 1 (by decide) e), fun e => hI.out.2.2.1 (hne.out 2 (by decide) e), fun e => hI.out.2.2.2.1 (hne.out 3 (by decide) e), fun _ => ⟨rfl, getD_set_true d0⟩, fun e => hI.out.2.2.2.2.2.1 (hne.out 5 (by decide) e), fun e => (by obtain ⟨z0, y⟩ := hI.out.2.2.2.2.2.2.1 (hne.out 6 (by decide) e); exact ⟨getD_set_true z0, (Kp6.below hb3) _ _ _ y⟩), hB.trans (hb3.mono hB.size), (by obtain ⟨cs, y1, y2, y3⟩ := hM; exact ⟨cs, (Kp6.below hb3) _ _ _ y1, y2, y3.imp_left getD_set_true⟩)⟩
    · cases ho
      refine wpOp_step rfl (fun K hK => ?_)
      go_simp
      refine hK _ _ ⟨by simpa using hz, v22, v23, v24, v25, v26, .pointer (some ⟨w.heap.size, 4, none⟩), rfl, ?_⟩
      exact ⟨fun e => hI.out.1 (hne.out 0 (by decide) e), fun e => hI.out.2.1 (hne.out 1 (by decide) e), fun e => hI.out.2.2.1 (hne.out 2 (by decide) e), fun e => hI.out.2.2.2.1 (hne.out 3 (by decide) e), fun e => (by obtain ⟨y, z0⟩ := hI.out.2.2.2.2.1 (hne.out 4 (by decide) e); exact ⟨y, getD_set_true z0⟩), fun _ => rfl, fun e => (by obtain ⟨z0, y⟩ := hI.out.2.2.2.2.2.2.1 (hne.out 6 (by decide) e); exact ⟨getD_set_true z0, y⟩), hB, (by obtain ⟨cs, y1, y2, y3⟩ := hM; exact ⟨cs, y1, y2, y3.imp_left getD_set_true⟩)⟩
    · cases ho
      have d5 := hd ⟨5, .data⟩ (by simp) rfl
      have d4 := hd ⟨4, .data⟩ (by simp) rfl
      have e0 : listed.getD 0 false = true := (hI.out.2.2.2.2.1 d4).2
      obtain rfl := hI.out.2.2.2.2.2.1 d5
      obtain rfl := (hI.out.2.2.2.2.1 d4).1
      have hA : Has wx w.heap.size 63 #[.int .i64 a.k, .int .i64 a.a, .int .i64 a.b, .int .i64 a.c, .int .i64 a.u, .int .i64 a.v, .int .i64 a.x] := (by obtain ⟨cs, y1, y2, y3⟩ := hM; exact y3.elim (fun z => absurd z (by rw [h0f]; decide)) (fun z => by rw [← z]; exact y1))
      have hAc := hA.cell
      have hAf := hA.frozen
      have hp := Lib.hid (((hA.put 4 (.int .i64 (a.u * b.u))).put 5 (.int .i64 (a.v * b.v))).put 6 (.int .i64 (a.x * b.x)))
      have hb7 := Lib.hid (((hB.setCell (p := ⟨w.heap.size, 4, none⟩) (Nat.le_refl _) (.int .i64 (a.u * b.u))).setCell (p := ⟨w.heap.size, 5, none⟩) (Nat.le_refl _) (.int .i64 (a.v * b.v))).setCell (p := ⟨w.heap.size, 6, none⟩) (Nat.le_refl _) (.int .i64 (a.x * b.x)))
      refine wpOp_step rfl (fun K hK => ?_)
      go_simp
      refine hK _ _ ⟨by simpa using hz, v22, v23, v24, v25, .agg #[.int .i64 (a.u * b.u), .int .i64 (a.v * b.v), .int .i64 (a.x * b.x)], .pointer (some ⟨w.heap.size, 4, none⟩), rfl, ?_⟩
      exact ⟨fun e => hI.out.1 (hne.out 0 (by decide) e), fun e => hI.out.2.1 (hne.out 1 (by decide) e), fun e => hI.out.2.2.1 (hne.out 2 (by decide) e), fun e => hI.out.2.2.2.1 (hne.out 3 (by decide) e), fun e => (by obtain ⟨y, z0⟩ := hI.out.2.2.2.2.1 (hne.out 4 (by decide) e); exact ⟨y, getD_set_true z0⟩), fun e => hI.out.2.2.2.2.2.1 (hne.out 5 (by decide) e), fun _ => ⟨getD_set_true e0, by simpa using hp.out⟩, hb7.out, ⟨_, hp.out, by simp, .inl (getD_set_self (by omega))⟩⟩
  case he =>
    rintro listed aq wx ⟨hz, v22, v23, v24, v25, v26, v27, rfl, hI⟩ hr
    have hall := ready_done hz (by kernel_rfl) hr
    have hG := Lib.hid ((hI.2.2.2.2.2.2.1 (hall 6 (by decide))).2)
    have hB7 := Lib.hid (show Below w.heap.size w wx from hI.2.2.2.2.2.2.2.1)
    clear hI hall hr hz
    have gC := hG.out.cell
    have hwx : w.heap.size < wx.heap.size := hG.out.lt
    go_wp2_with fail
    go_ret
    exact ⟨some ⟨wx.heap.size, 0, none⟩, 1, rfl, Nat.le_refl 1, by unfold maxLen; decide, lst_new (os := [folded a b]) (Has.new _ _ _) rfl, hB7.out.alloc hB7.out.size _⟩
end Go.Proofs.Ytkggejmamhakaaa
namespace Go.Proofs.Ytkggejmamhakaaa
set_option maxRecDepth 100000
set_option linter.unusedVariables false
open Go.RowKit
set_option maxHeartbeats 2000000 in
theorem changed_none (a : St) (A : Option Addr) (cap : Nat) (w : World) (ha : a.ok = true ∧ a.k < 6) (h : Lst w w.heap.size A 1 [a]) (hcap : 1 ≤ cap) (hcm : cap ≤ maxLen) (hf : fits 3 a none = true) :
    Calls Try.prog 90 #[.int .i64 3, .slice A 1 cap] w (Lsd w (chg 3 a none)) := by
  have hH := Lib.hid h
  obtain ⟨g, off, s0, rfl, hg, hs0, hat⟩ := h.at_ (k := 0) (by omega)
  obtain rfl : a = s0 := by simpa using hs0
  obtain ⟨c0, c1, c2, c3, c4, c5, c6⟩ := hat.open_
  simp only [Nat.zero_mul, Nat.add_zero] at c0 c1 c2 c3 c4 c5 c6
  have hcap' : (1 : Int) ≤ (cap : Int) := by omega
  have h1 := Has.new w 63 #[.int .i64 a.k, .int .i64 a.a, .int .i64 a.b, .int .i64 a.c, .int .i64 a.u, .int .i64 a.v, .int .i64 a.x]
  have hB := Lib.hid (show Below w.heap.size w (w.alloc (.cells #[.int .i64 a.k, .int .i64 a.a, .int .i64 a.b, .int .i64 a.c, .int .i64 a.u, .int .i64 a.v, .int .i64 a.x] 63)) from (Below.refl _ _).alloc (Nat.le_refl _) _)
  have hOk := Lib.hid (fun (wx : World) (hx : Below w.heap.size w wx) => (show Below w.heap.size w wx ∧ wx.cell? ⟨g, off, none⟩ = some (.int .i64 a.k) ∧ wx.cell? ⟨g, off + 1, none⟩ = some (.int .i64 a.a) ∧ wx.cell? ⟨g, off + 2, none⟩ = some (.int .i64 a.b) ∧ wx.cell? ⟨g, off + 3, none⟩ = some (.int .i64 a.c) ∧ wx.cell? ⟨g, off + 4, none⟩ = some (.int .i64 a.u) ∧ wx.cell? ⟨g, off + 5, none⟩ = some (.int .i64 a.v) ∧ wx.cell? ⟨g, off + 6, none⟩ = some (.int .i64 a.x) from ⟨hx, (hx.cell (p := ⟨g, off, none⟩) hg).trans c0, (hx.cell (p := ⟨g, off + 1, none⟩) hg).trans c1, (hx.cell (p := ⟨g, off + 2, none⟩) hg).trans c2, (hx.cell (p := ⟨g, off + 3, none⟩) hg).trans c3, (hx.cell (p := ⟨g, off + 4, none⟩) hg).trans c4, (hx.cell (p := ⟨g, off + 5, none⟩) hg).trans c5, (hx.cell (p := ⟨g, off + 6, none⟩) hg).trans c6⟩))
  clear h hat hs0
  have h0 := Lib.hid h1
  clear h1
  obtain ⟨h2, _, h1c⟩ := fits_3 hf
  obtain ⟨x1, x2, x3, hw⟩ := scaled_w ha.1 ha.2 h2
  have hw' := wOk_iff.1 hw
  have hwa := ok_ws ha.1 ha.2
  have hcb := com_bd ha.1 ha.2
  have hq0 : rowN a.u a.v a.x = com a * rowN (a.u / com a) (a.v / com a) (a.x / com a) := by
    unfold rowN
    rw [Int.mul_add (com a), Int.mul_left_comm (com a) 100, Int.mul_add (com a), Int.mul_left_comm (com a) 100, ← x1, ← x2, ← x3]
  have hq1 : (rowN a.u a.v a.x).tdiv (com a) = rowN (a.u / com a) (a.v / com a) (a.x / com a) := by
    rw [hq0]
    exact Int.mul_tdiv_cancel_left _ (by omega)
  have hq2 : 0 ≤ rowN (a.u / com a) (a.v / com a) (a.x / com a) ∧ rowN (a.u / com a) (a.v / com a) (a.x / com a) ≤ 99999 := by unfold rowN; omega
  have hq3 : IntKind.i64.wrap (rowN (a.u / com a) (a.v / com a) (a.x / com a)) = rowN (a.u / com a) (a.v / com a) (a.x / com a) := IntWalk.i64_in _ (by omega)
  have hq4 : wrap64 (rowN (a.u / com a) (a.v / com a) (a.x / com a)) = rowN (a.u / com a) (a.v / com a) (a.x / com a) := w64 (by omega)
  have hc0 : com a ≠ 0 := by omega
  have y1 : 0 ≤ a.u ∧ a.u ≤ 99 := by omega
  have y2 : 0 ≤ a.v ∧ a.v ≤ 99 := by omega
  have y3 : 0 ≤ a.x ∧ a.x ≤ 99 := by omega
  have cFa : Hid (∀ wx : World, Calls Try.prog 68 #[.int .i64 3, .agg #[.int .i64 a.k, .int .i64 a.a, .int .i64 a.b, .int .i64 a.c, .int .i64 a.u, .int .i64 a.v, .int .i64 a.x]] wx fun e w' => e = .returned (.int .i64 (com a)) ∧ Below wx.heap.size wx w') := Lib.hid (fun wx => factorOf_any a 3 wx hwa)
  have cM := Lib.hid (fun wx => weightsOfRow_any (a.u / com a) (a.v / com a) (a.x / com a) wx ⟨hw'.1.1, by omega⟩ ⟨hw'.2.1.1, by omega⟩ ⟨hw'.2.2.1.1, by omega⟩)
  have hSc : chg 3 a none = [⟨a.k, a.a, a.b, a.c, a.u / com a, a.v / com a, a.x / com a⟩] := rfl
  rw [hSc]
  clear hSc hf
  clear hq0 hw hw' hwa x1 x2 x3 hcb
  generalize a.u / com a = p at *
  generalize a.v / com a = q at *
  generalize a.x / com a = r at *
  generalize com a = gc at *
  go_enter Try.func90, Try.ntmps90
  go_wp2_with fail
  go_region_held3 (fun wx => Below w.heap.size w wx ∧ wx.cell? ⟨g, off, none⟩ = some (.int .i64 a.k) ∧ wx.cell? ⟨g, off + 1, none⟩ = some (.int .i64 a.a) ∧ wx.cell? ⟨g, off + 2, none⟩ = some (.int .i64 a.b) ∧ wx.cell? ⟨g, off + 3, none⟩ = some (.int .i64 a.c) ∧ wx.cell? ⟨g, off + 4, none⟩ = some (.int .i64 a.u) ∧ wx.cell? ⟨g, off + 5, none⟩ = some (.int .i64 a.v) ∧ wx.cell? ⟨g, off + 6, none⟩ = some (.int .i64 a.x)) (first | exact hOk.out _ ((Below.refl _ _).drew) | exact hOk.out _ (bs6 (by assumption)) | exact hOk.out _ (bd6 (by assumption)) | exact hOk.out _ (ba6 (by assumption) _) | exact hOk.out _ (ba6d (by assumption) _) | exact hOk.out _ (((Below.refl _ _).drew).alloc (Nat.le_refl _) _) | exact hOk.out _ (((Below.refl _ _)).alloc (Nat.le_refl _) _) | go_keep) (fail)
  rename_i hHeld
  obtain ⟨ra, hra⟩ : ∃ ra : Option Addr, (if cap = 1 then some ⟨g, off, none⟩ else some ⟨g, off + 7, none⟩) = ra := ⟨_, rfl⟩
  rw [hra]
  obtain ⟨ad, rfl⟩ : ∃ ad, ra = some ad := by rw [← hra]; split <;> exact ⟨_, rfl⟩
  clear hra
  have hB1 := Lib.hid hHeld.1
  have h1 := Lib.hid (show Has ((w.alloc (.cells #[.int .i64 a.k, .int .i64 a.a, .int .i64 a.b, .int .i64 a.c, .int .i64 a.u, .int .i64 a.v, .int .i64 a.x] 63)).drew) w.heap.size 63 #[.int .i64 a.k, .int .i64 a.a, .int .i64 a.b, .int .i64 a.c, .int .i64 a.u, .int .i64 a.v, .int .i64 a.x] from h0.out)
  clear hHeld
  generalize ((w.alloc (.cells #[.int .i64 a.k, .int .i64 a.a, .int .i64 a.b, .int .i64 a.c, .int .i64 a.u, .int .i64 a.v, .int .i64 a.x] 63)).drew) = W1 at h1 hB1 ⊢
  obtain ⟨i0, hi0, hz0, hz1', hz2'⟩ := info_parts info_stmt
  go_wp2_with fail
  refine wp_region_any (by kernel_rfl) ?_
  change wpAny _ _ _ _ _ _ _ (World.drew _)
  refine wpAny_inv (I := fun listed aq wx => listed.size = 10 ∧ ∃ v35 v36 v37 v38 v39 v40 v41 v42 v43 : Value, aq = { tmps := #[.int .i64 3, .slice (some ⟨g, off, none⟩) 1 cap, undef, undef, .slice none 0 0, .pointer (some ⟨w.heap.size, 0, none⟩), .slice (some ad) 0 (cap - 1), .slice (some ⟨g, off, none⟩) 1 cap, .pointer (some ⟨g, off, none⟩), .agg #[.int .i64 a.k, .int .i64 a.a, .int .i64 a.b, .int .i64 a.c, .int .i64 a.u, .int .i64 a.v, .int .i64 a.x], .slice (some ⟨g, off, none⟩) 1 cap, .slice (some ad) 0 (cap - 1), .int .i64 3, .bool false, .bool false, undef, undef, undef, undef, undef, .bool false, .bool false, undef, undef, undef, undef, undef, undef, undef, undef, .bool false, .bool false, undef, .bool true, .bool true, v35, v36, v37, v38, v39, v40, v41, v42, v43, undef, undef, undef, undef, undef, undef, undef, undef, undef, undef, undef, undef], defers := [] } ∧ (listed.getD 0 false = true → v35 = .pointer (some ⟨w.heap.size, 4, none⟩)) ∧ (listed.getD 1 false = true → v36 = .agg #[.int .i64 a.u, .int .i64 a.v, .int .i64 a.x]) ∧ (listed.getD 2 false = true → (v37 = .int .i64 (rowN a.u a.v a.x) ∧ listed.getD 1 false = true)) ∧ (listed.getD 3 false = true → v38 = .int .i64 3) ∧ (listed.getD 4 false = true → v39 = .agg #[.int .i64 a.k, .int .i64 a.a, .int .i64 a.b, .int .i64 a.c, .int .i64 a.u, .int .i64 a.v, .int .i64 a.x]) ∧ (listed.getD 5 false = true → (v40 = .int .i64 gc ∧ listed.getD 4 false = true)) ∧ (listed.getD 6 false = true → (v41 = .int .i64 (rowN p q r) ∧ listed.getD 1 false = true ∧ listed.getD 4 false = true)) ∧ (listed.getD 7 false = true → (v42 = .agg #[.int .i64 p, .int .i64 q, .int .i64 r] ∧ listed.getD 1 false = true ∧ listed.getD 4 false = true)) ∧ (listed.getD 8 false = true → v43 = .pointer (some ⟨w.heap.size, 4, none⟩)) ∧ (listed.getD 9 false = true → (listed.getD 1 false = true ∧ listed.getD 4 false = true ∧ Has wx w.heap.size 63 #[.int .i64 a.k, .int .i64 a.a, .int .i64 a.b, .int .i64 a.c, .int .i64 p, .int .i64 q, .int .i64 r])) ∧ Below w.heap.size w wx ∧ (∃ cs, Has wx w.heap.size 63 cs ∧ cs.size = 7 ∧ (listed.getD 9 false = true ∨ cs = #[.int .i64 a.k, .int .i64 a.a, .int .i64 a.b, .int .i64 a.c, .int .i64 a.u, .int .i64 a.v, .int .i64 a.x]))) ?hs ?he _ _ _ _ ?st (by decide)
  case st =>
    refine ⟨by simp, undef, undef, undef, undef, undef, undef, undef, undef, undef, rfl, ?_, ?_, ?_, ?_, ?_, ?_, ?_, ?_, ?_, ?_, hB1.out.drew, ⟨_, h1.out, rfl, .inr rfl⟩⟩ <;> (intro e; exact absurd e (by decide))
  case hs =>
    rintro listed aq wx ⟨hz, v35, v36, v37, v38, v39, v40, v41, v42, v43, rfl, hII⟩ i hi
    obtain ⟨h0, o, ho, hd⟩ := mem_ready.1 hi
    have hin : i < 10 := by
      have := (Array.getElem?_eq_some_iff.1 ho).1
      simpa using this
    have hI := Lib.hid hII
    have hne := Lib.hid (fun k (hk : i ≠ k) => @listed_ne listed i k hk)
    have hB : Below w.heap.size w wx := hII.2.2.2.2.2.2.2.2.2.2.1
    have hM : (∃ cs, Has wx w.heap.size 63 cs ∧ cs.size = 7 ∧ (listed.getD 9 false = true ∨ cs = #[.int .i64 a.k, .int .i64 a.a, .int .i64 a.b, .int .i64 a.c, .int .i64 a.u, .int .i64 a.v, .int .i64 a.x])) := hII.2.2.2.2.2.2.2.2.2.2.2
    have h0f : listed.getD i false = false := by rw [Array.getD_eq_getD_getElem?, getD_false h0]; rfl
    clear hII hi h0
    rcases (by omega : i = 0 ∨ i = 1 ∨ i = 2 ∨ i = 3 ∨ i = 4 ∨ i = 5 ∨ i = 6 ∨ i = 7 ∨ i = 8 ∨ i = 9) with rfl | rfl | rfl | rfl | rfl | rfl | rfl | rfl | rfl | rfl
    · cases ho
      refine wpOp_step rfl (fun K hK => ?_)
      go_simp
      refine hK _ _ ⟨by simpa using hz, .pointer (some ⟨w.heap.size, 4, none⟩), v36, v37, v38, v39, v40, v41, v42, v43, rfl, ?_⟩
      exact ⟨fun _ => rfl, fun e => hI.out.2.1 (hne.out 1 (by decide) e), fun e => (by obtain ⟨y, z0⟩ := hI.out.2.2.1 (hne.out 2 (by decide) e); exact ⟨y, getD_set_true z0⟩), fun e => hI.out.2.2.2.1 (hne.out 3 (by decide) e), fun e => hI.out.2.2.2.2.1 (hne.out 4 (by decide) e), fun e => (by obtain ⟨y, z0⟩ := hI.out.2.2.2.2.2.1 (hne.out 5 (by decide) e); exact ⟨y, getD_set_true z0⟩), fun e => (by obtain ⟨y, z0, z1⟩ := hI.out.2.2.2.2.2.2.1 (hne.out 6 (by decide) e); exact ⟨y, getD_set_true z0, getD_set_true z1⟩), fun e => (by obtain ⟨y, z0, z1⟩ := hI.out.2.2.2.2.2.2.2.1 (hne.out 7 (by decide) e); exact ⟨y, getD_set_true z0, getD_set_true z1⟩), fun e => hI.out.2.2.2.2.2.2.2.2.1 (hne.out 8 (by decide) e), fun e => (by obtain ⟨z0, z1, y⟩ := hI.out.2.2.2.2.2.2.2.2.2.1 (hne.out 9 (by decide) e); exact ⟨getD_set_true z0, getD_set_true z1, y⟩), hB, (by obtain ⟨cs, y1, y2, y3⟩ := hM; exact ⟨cs, y1, y2, y3.imp_left getD_set_true⟩)⟩
    · cases ho
      have d0 := hd ⟨0, .data⟩ (by simp) rfl
      obtain rfl := hI.out.1 d0
      have hA : Has wx w.heap.size 63 #[.int .i64 a.k, .int .i64 a.a, .int .i64 a.b, .int .i64 a.c, .int .i64 a.u, .int .i64 a.v, .int .i64 a.x] := (by obtain ⟨cs, y1, y2, y3⟩ := hM; exact y3.elim (fun z => absurd ((hI.out.2.2.2.2.2.2.2.2.2.1 z).1) (by rw [h0f]; decide)) (fun z => by rw [← z]; exact y1))
      have hAc := hA.cell
      refine wpOp_step rfl (fun K hK => ?_)
      go_simp
      refine hK _ _ ⟨by simpa using hz, .pointer (some ⟨w.heap.size, 4, none⟩), .agg #[.int .i64 a.u, .int .i64 a.v, .int .i64 a.x], v37, v38, v39, v40, v41, v42, v43, rfl, ?_⟩
      exact ⟨fun e => hI.out.1 (hne.out 0 (by decide) e), fun _ => rfl, fun e => (by obtain ⟨y, z0⟩ := hI.out.2.2.1 (hne.out 2 (by decide) e); exact ⟨y, getD_set_true z0⟩), fun e => hI.out.2.2.2.1 (hne.out 3 (by decide) e), fun e => hI.out.2.2.2.2.1 (hne.out 4 (by decide) e), fun e => (by obtain ⟨y, z0⟩ := hI.out.2.2.2.2.2.1 (hne.out 5 (by decide) e); exact ⟨y, getD_set_true z0⟩), fun e => (by obtain ⟨y, z0, z1⟩ := hI.out.2.2.2.2.2.2.1 (hne.out 6 (by decide) e); exact ⟨y, getD_set_true z0, getD_set_true z1⟩), fun e => (by obtain ⟨y, z0, z1⟩ := hI.out.2.2.2.2.2.2.2.1 (hne.out 7 (by decide) e); exact ⟨y, getD_set_true z0, getD_set_true z1⟩), fun e => hI.out.2.2.2.2.2.2.2.2.1 (hne.out 8 (by decide) e), fun e => (by obtain ⟨z0, z1, y⟩ := hI.out.2.2.2.2.2.2.2.2.2.1 (hne.out 9 (by decide) e); exact ⟨getD_set_true z0, getD_set_true z1, y⟩), hB, (by obtain ⟨cs, y1, y2, y3⟩ := hM; exact ⟨cs, y1, y2, y3.imp_left getD_set_true⟩)⟩
    · cases ho
      have d1 := hd ⟨1, .data⟩ (by simp) rfl
      obtain rfl := hI.out.2.1 d1
      refine wpOp_step rfl (fun K hK => ?_)
      go_simp
      go_at_call 102
      refine (rowOf_any _ _ _ _ y1 y2 y3).mono ?_
      rintro e w3 ⟨rfl, hb3⟩
      refine hK _ _ ⟨by simpa using hz, v35, .agg #[.int .i64 a.u, .int .i64 a.v, .int .i64 a.x], .int .i64 (rowN a.u a.v a.x), v38, v39, v40, v41, v42, v43, rfl, ?_⟩
      exact ⟨fun e => hI.out.1 (hne.out 0 (by decide) e), fun e => hI.out.2.1 (hne.out 1 (by decide) e), fun _ => ⟨rfl, getD_set_true d1⟩, fun e => hI.out.2.2.2.1 (hne.out 3 (by decide) e), fun e => hI.out.2.2.2.2.1 (hne.out 4 (by decide) e), fun e => (by obtain ⟨y, z0⟩ := hI.out.2.2.2.2.2.1 (hne.out 5 (by decide) e); exact ⟨y, getD_set_true z0⟩), fun e => (by obtain ⟨y, z0, z1⟩ := hI.out.2.2.2.2.2.2.1 (hne.out 6 (by decide) e); exact ⟨y, getD_set_true z0, getD_set_true z1⟩), fun e => (by obtain ⟨y, z0, z1⟩ := hI.out.2.2.2.2.2.2.2.1 (hne.out 7 (by decide) e); exact ⟨y, getD_set_true z0, getD_set_true z1⟩), fun e => hI.out.2.2.2.2.2.2.2.2.1 (hne.out 8 (by decide) e), fun e => (by obtain ⟨z0, z1, y⟩ := hI.out.2.2.2.2.2.2.2.2.2.1 (hne.out 9 (by decide) e); exact ⟨getD_set_true z0, getD_set_true z1, (Kp6.below hb3) _ _ _ y⟩), hB.trans (hb3.mono hB.size), (by obtain ⟨cs, y1, y2, y3⟩ := hM; exact ⟨cs, (Kp6.below hb3) _ _ _ y1, y2, y3.imp_left getD_set_true⟩)⟩
    · cases ho
      refine wpOp_step rfl (fun K hK => ?_)
      go_simp
      refine hK _ _ ⟨by simpa using hz, v35, v36, v37, .int .i64 3, v39, v40, v41, v42, v43, rfl, ?_⟩
      exact ⟨fun e => hI.out.1 (hne.out 0 (by decide) e), fun e => hI.out.2.1 (hne.out 1 (by decide) e), fun e => (by obtain ⟨y, z0⟩ := hI.out.2.2.1 (hne.out 2 (by decide) e); exact ⟨y, getD_set_true z0⟩), fun _ => rfl, fun e => hI.out.2.2.2.2.1 (hne.out 4 (by decide) e), fun e => (by obtain ⟨y, z0⟩ := hI.out.2.2.2.2.2.1 (hne.out 5 (by decide) e); exact ⟨y, getD_set_true z0⟩), fun e => (by obtain ⟨y, z0, z1⟩ := hI.out.2.2.2.2.2.2.1 (hne.out 6 (by decide) e); exact ⟨y, getD_set_true z0, getD_set_true z1⟩), fun e => (by obtain ⟨y, z0, z1⟩ := hI.out.2.2.2.2.2.2.2.1 (hne.out 7 (by decide) e); exact ⟨y, getD_set_true z0, getD_set_true z1⟩), fun e => hI.out.2.2.2.2.2.2.2.2.1 (hne.out 8 (by decide) e), fun e => (by obtain ⟨z0, z1, y⟩ := hI.out.2.2.2.2.2.2.2.2.2.1 (hne.out 9 (by decide) e); exact ⟨getD_set_true z0, getD_set_true z1, y⟩), hB, (by obtain ⟨cs, y1, y2, y3⟩ := hM; exact ⟨cs, y1, y2, y3.imp_left getD_set_true⟩)⟩
    · cases ho
      have hA : Has wx w.heap.size 63 #[.int .i64 a.k, .int .i64 a.a, .int .i64 a.b, .int .i64 a.c, .int .i64 a.u, .int .i64 a.v, .int .i64 a.x] := (by obtain ⟨cs, y1, y2, y3⟩ := hM; exact y3.elim (fun z => absurd ((hI.out.2.2.2.2.2.2.2.2.2.1 z).2.1) (by rw [h0f]; decide)) (fun z => by rw [← z]; exact y1))
      have hAc := hA.cell
      refine wpOp_step rfl (fun K hK => ?_)
      go_simp
      refine hK _ _ ⟨by simpa using hz, v35, v36, v37, v38, .agg #[.int .i64 a.k, .int .i64 a.a, .int .i64 a.b, .int .i64 a.c, .int .i64 a.u, .int .i64 a.v, .int .i64 a.x], v40, v41, v42, v43, rfl, ?_⟩
      exact ⟨fun e => hI.out.1 (hne.out 0 (by decide) e), fun e => hI.out.2.1 (hne.out 1 (by decide) e), fun e => (by obtain ⟨y, z0⟩ := hI.out.2.2.1 (hne.out 2 (by decide) e); exact ⟨y, getD_set_true z0⟩), fun e => hI.out.2.2.2.1 (hne.out 3 (by decide) e), fun _ => rfl, fun e => (by obtain ⟨y, z0⟩ := hI.out.2.2.2.2.2.1 (hne.out 5 (by decide) e); exact ⟨y, getD_set_true z0⟩), fun e => (by obtain ⟨y, z0, z1⟩ := hI.out.2.2.2.2.2.2.1 (hne.out 6 (by decide) e); exact ⟨y, getD_set_true z0, getD_set_true z1⟩), fun e => (by obtain ⟨y, z0, z1⟩ := hI.out.2.2.2.2.2.2.2.1 (hne.out 7 (by decide) e); exact ⟨y, getD_set_true z0, getD_set_true z1⟩), fun e => hI.out.2.2.2.2.2.2.2.2.1 (hne.out 8 (by decide) e), fun e => (by obtain ⟨z0, z1, y⟩ := hI.out.2.2.2.2.2.2.2.2.2.1 (hne.out 9 (by decide) e); exact ⟨getD_set_true z0, getD_set_true z1, y⟩), hB, (by obtain ⟨cs, y1, y2, y3⟩ := hM; exact ⟨cs, y1, y2, y3.imp_left getD_set_true⟩)⟩
    · cases ho
      have d3 := hd ⟨3, .data⟩ (by simp) rfl
      have d4 := hd ⟨4, .data⟩ (by simp) rfl
      obtain rfl := hI.out.2.2.2.1 d3
      obtain rfl := hI.out.2.2.2.2.1 d4
      refine wpOp_step rfl (fun K hK => ?_)
      go_simp
      go_at_call 68
      refine (cFa.out _).mono ?_
      rintro e w3 ⟨rfl, hb3⟩
      refine hK _ _ ⟨by simpa using hz, v35, v36, v37, .int .i64 3, .agg #[.int .i64 a.k, .int .i64 a.a, .int .i64 a.b, .int .i64 a.c, .int .i64 a.u, .int .i64 a.v, .int .i64 a.x], .int .i64 gc, v41, v42, v43, rfl, ?_⟩
      exact ⟨fun e => hI.out.1 (hne.out 0 (by decide) e), fun e => hI.out.2.1 (hne.out 1 (by decide) e), fun e => (by obtain ⟨y, z0⟩ := hI.out.2.2.1 (hne.out 2 (by decide) e); exact ⟨y, getD_set_true z0⟩), fun e => hI.out.2.2.2.1 (hne.out 3 (by decide) e), fun e => hI.out.2.2.2.2.1 (hne.out 4 (by decide) e), fun _ => ⟨rfl, getD_set_true d4⟩, fun e => (by obtain ⟨y, z0, z1⟩ := hI.out.2.2.2.2.2.2.1 (hne.out 6 (by decide) e); exact ⟨y, getD_set_true z0, getD_set_true z1⟩), fun e => (by obtain ⟨y, z0, z1⟩ := hI.out.2.2.2.2.2.2.2.1 (hne.out 7 (by decide) e); exact ⟨y, getD_set_true z0, getD_set_true z1⟩), fun e => hI.out.2.2.2.2.2.2.2.2.1 (hne.out 8 (by decide) e), fun e => (by obtain ⟨z0, z1, y⟩ := hI.out.2.2.2.2.2.2.2.2.2.1 (hne.out 9 (by decide) e); exact ⟨getD_set_true z0, getD_set_true z1, (Kp6.below hb3) _ _ _ y⟩), hB.trans (hb3.mono hB.size), (by obtain ⟨cs, y1, y2, y3⟩ := hM; exact ⟨cs, (Kp6.below hb3) _ _ _ y1, y2, y3.imp_left getD_set_true⟩)⟩
    · cases ho
      have d2 := hd ⟨2, .data⟩ (by simp) rfl
      have d5 := hd ⟨5, .data⟩ (by simp) rfl
      have z1 := (hI.out.2.2.1 d2).2
      have z4 := (hI.out.2.2.2.2.2.1 d5).2
      obtain rfl := (hI.out.2.2.1 d2).1
      obtain rfl := (hI.out.2.2.2.2.2.1 d5).1
      refine wpOp_step rfl (fun K hK => ?_)
      go_simp
      try rw [hq1]
      try rw [hq4]
      try rw [hq3]
      refine hK _ _ ⟨by simpa using hz, v35, v36, .int .i64 (rowN a.u a.v a.x), v38, v39, .int .i64 gc, .int .i64 (rowN p q r), v42, v43, rfl, ?_⟩
      exact ⟨fun e => hI.out.1 (hne.out 0 (by decide) e), fun e => hI.out.2.1 (hne.out 1 (by decide) e), fun e => (by obtain ⟨y, z0⟩ := hI.out.2.2.1 (hne.out 2 (by decide) e); exact ⟨y, getD_set_true z0⟩), fun e => hI.out.2.2.2.1 (hne.out 3 (by decide) e), fun e => hI.out.2.2.2.2.1 (hne.out 4 (by decide) e), fun e => (by obtain ⟨y, z0⟩ := hI.out.2.2.2.2.2.1 (hne.out 5 (by decide) e); exact ⟨y, getD_set_true z0⟩), fun _ => ⟨rfl, getD_set_true z1, getD_set_true z4⟩, fun e => (by obtain ⟨y, z0, z1⟩ := hI.out.2.2.2.2.2.2.2.1 (hne.out 7 (by decide) e); exact ⟨y, getD_set_true z0, getD_set_true z1⟩), fun e => hI.out.2.2.2.2.2.2.2.2.1 (hne.out 8 (by decide) e), fun e => (by obtain ⟨z0, z1, y⟩ := hI.out.2.2.2.2.2.2.2.2.2.1 (hne.out 9 (by decide) e); exact ⟨getD_set_true z0, getD_set_true z1, y⟩), hB, (by obtain ⟨cs, y1, y2, y3⟩ := hM; exact ⟨cs, y1, y2, y3.imp_left getD_set_true⟩)⟩
    · cases ho
      have d6 := hd ⟨6, .data⟩ (by simp) rfl
      have z1 := (hI.out.2.2.2.2.2.2.1 d6).2.1
      have z4 := (hI.out.2.2.2.2.2.2.1 d6).2.2
      obtain rfl := (hI.out.2.2.2.2.2.2.1 d6).1
      refine wpOp_step rfl (fun K hK => ?_)
      go_simp
      go_at_call 103
      refine (cM.out _).mono ?_
      rintro e w3 ⟨rfl, hb3⟩
      refine hK _ _ ⟨by simpa using hz, v35, v36, v37, v38, v39, v40, .int .i64 (rowN p q r), .agg #[.int .i64 p, .int .i64 q, .int .i64 r], v43, rfl, ?_⟩
      exact ⟨fun e => hI.out.1 (hne.out 0 (by decide) e), fun e => hI.out.2.1 (hne.out 1 (by decide) e), fun e => (by obtain ⟨y, z0⟩ := hI.out.2.2.1 (hne.out 2 (by decide) e); exact ⟨y, getD_set_true z0⟩), fun e => hI.out.2.2.2.1 (hne.out 3 (by decide) e), fun e => hI.out.2.2.2.2.1 (hne.out 4 (by decide) e), fun e => (by obtain ⟨y, z0⟩ := hI.out.2.2.2.2.2.1 (hne.out 5 (by decide) e); exact ⟨y, getD_set_true z0⟩), fun e => (by obtain ⟨y, z0, z1⟩ := hI.out.2.2.2.2.2.2.1 (hne.out 6 (by decide) e); exact ⟨y, getD_set_true z0, getD_set_true z1⟩), fun _ => ⟨rfl, getD_set_true z1, getD_set_true z4⟩, fun e => hI.out.2.2.2.2.2.2.2.2.1 (hne.out 8 (by decide) e), fun e => (by obtain ⟨z0, z1, y⟩ := hI.out.2.2.2.2.2.2.2.2.2.1 (hne.out 9 (by decide) e); exact ⟨getD_set_true z0, getD_set_true z1, (Kp6.below hb3) _ _ _ y⟩), hB.trans (hb3.mono hB.size), (by obtain ⟨cs, y1, y2, y3⟩ := hM; exact ⟨cs, (Kp6.below hb3) _ _ _ y1, y2, y3.imp_left getD_set_true⟩)⟩
    · cases ho
      refine wpOp_step rfl (fun K hK => ?_)
      go_simp
      refine hK _ _ ⟨by simpa using hz, v35, v36, v37, v38, v39, v40, v41, v42, .pointer (some ⟨w.heap.size, 4, none⟩), rfl, ?_⟩
      exact ⟨fun e => hI.out.1 (hne.out 0 (by decide) e), fun e => hI.out.2.1 (hne.out 1 (by decide) e), fun e => (by obtain ⟨y, z0⟩ := hI.out.2.2.1 (hne.out 2 (by decide) e); exact ⟨y, getD_set_true z0⟩), fun e => hI.out.2.2.2.1 (hne.out 3 (by decide) e), fun e => hI.out.2.2.2.2.1 (hne.out 4 (by decide) e), fun e => (by obtain ⟨y, z0⟩ := hI.out.2.2.2.2.2.1 (hne.out 5 (by decide) e); exact ⟨y, getD_set_true z0⟩), fun e => (by obtain ⟨y, z0, z1⟩ := hI.out.2.2.2.2.2.2.1 (hne.out 6 (by decide) e); exact ⟨y, getD_set_true z0, getD_set_true z1⟩), fun e => (by obtain ⟨y, z0, z1⟩ := hI.out.2.2.2.2.2.2.2.1 (hne.out 7 (by decide) e); exact ⟨y, getD_set_true z0, getD_set_true z1⟩), fun _ => rfl, fun e => (by obtain ⟨z0, z1, y⟩ := hI.out.2.2.2.2.2.2.2.2.2.1 (hne.out 9 (by decide) e); exact ⟨getD_set_true z0, getD_set_true z1, y⟩), hB, (by obtain ⟨cs, y1, y2, y3⟩ := hM; exact ⟨cs, y1, y2, y3.imp_left getD_set_true⟩)⟩
    · cases ho
      have d8 := hd ⟨8, .data⟩ (by simp) rfl
      have d7 := hd ⟨7, .data⟩ (by simp) rfl
      have z1 := (hI.out.2.2.2.2.2.2.2.1 d7).2.1
      have z4 := (hI.out.2.2.2.2.2.2.2.1 d7).2.2
      obtain rfl := (hI.out.2.2.2.2.2.2.2.1 d7).1
      obtain rfl := hI.out.2.2.2.2.2.2.2.2.1 d8
      have hA : Has wx w.heap.size 63 #[.int .i64 a.k, .int .i64 a.a, .int .i64 a.b, .int .i64 a.c, .int .i64 a.u, .int .i64 a.v, .int .i64 a.x] := (by obtain ⟨cs, y1, y2, y3⟩ := hM; exact y3.elim (fun z => absurd z (by rw [h0f]; decide)) (fun z => by rw [← z]; exact y1))
      have hAc := hA.cell
      have hAf := hA.frozen
      have hp := Lib.hid (((hA.put 4 (.int .i64 p)).put 5 (.int .i64 q)).put 6 (.int .i64 r))
      have hb7 := Lib.hid (((hB.setCell (p := ⟨w.heap.size, 4, none⟩) (Nat.le_refl _) (.int .i64 p)).setCell (p := ⟨w.heap.size, 5, none⟩) (Nat.le_refl _) (.int .i64 q)).setCell (p := ⟨w.heap.size, 6, none⟩) (Nat.le_refl _) (.int .i64 r))
      refine wpOp_step rfl (fun K hK => ?_)
      go_simp
      refine hK _ _ ⟨by simpa using hz, v35, v36, v37, v38, v39, v40, v41, .agg #[.int .i64 p, .int .i64 q, .int .i64 r], .pointer (some ⟨w.heap.size, 4, none⟩), rfl, ?_⟩
      exact ⟨fun e => hI.out.1 (hne.out 0 (by decide) e), fun e => hI.out.2.1 (hne.out 1 (by decide) e), fun e => (by obtain ⟨y, z0⟩ := hI.out.2.2.1 (hne.out 2 (by decide) e); exact ⟨y, getD_set_true z0⟩), fun e => hI.out.2.2.2.1 (hne.out 3 (by decide) e), fun e => hI.out.2.2.2.2.1 (hne.out 4 (by decide) e), fun e => (by obtain ⟨y, z0⟩ := hI.out.2.2.2.2.2.1 (hne.out 5 (by decide) e); exact ⟨y, getD_set_true z0⟩), fun e => (by obtain ⟨y, z0, z1⟩ := hI.out.2.2.2.2.2.2.1 (hne.out 6 (by decide) e); exact ⟨y, getD_set_true z0, getD_set_true z1⟩), fun e => (by obtain ⟨y, z0, z1⟩ := hI.out.2.2.2.2.2.2.2.1 (hne.out 7 (by decide) e); exact ⟨y, getD_set_true z0, getD_set_true z1⟩), fun e => hI.out.2.2.2.2.2.2.2.2.1 (hne.out 8 (by decide) e), fun _ => ⟨getD_set_true z1, getD_set_true z4, by simpa using hp.out⟩, hb7.out, ⟨_, hp.out, by simp, .inl (getD_set_self (by omega))⟩⟩
  case he =>
    rintro listed aq wx ⟨hz, v35, v36, v37, v38, v39, v40, v41, v42, v43, rfl, hI⟩ hr
    have hall := ready_done hz (by kernel_rfl) hr
    have hG := Lib.hid ((hI.2.2.2.2.2.2.2.2.2.1 (hall 9 (by decide))).2.2)
    have hB7 := Lib.hid (show Below w.heap.size w wx from hI.2.2.2.2.2.2.2.2.2.2.1)
    clear hI hall hr hz
    have gC := hG.out.cell
    have hwx : w.heap.size < wx.heap.size := hG.out.lt
    have hOw : (wx.alloc (.cells #[.int .i64 a.k, .int .i64 a.a, .int .i64 a.b, .int .i64 a.c, .int .i64 p, .int .i64 q, .int .i64 r] 63)).ownsRow wx.heap.size 63 7 (.slice (some ⟨wx.heap.size, 0, none⟩) 1 1) 1 (flat [(⟨a.k, a.a, a.b, a.c, p, q, r⟩ : St)]) := ⟨rfl, .inr ⟨wx.heap.size, 1, _, rfl, Nat.le_refl _, Has.new _ _ _, Nat.le_refl _, by unfold maxLen; decide, rfl, rfl⟩⟩
    have hBq : Below w.heap.size w (wx.alloc (.cells #[.int .i64 a.k, .int .i64 a.a, .int .i64 a.b, .int .i64 a.c, .int .i64 p, .int .i64 q, .int .i64 r] 63)) := hB7.out.alloc hB7.out.size _
    go_wp2_with (at_builtin; refine wpList_append_own _ rfl (.tmp 45) (.tmp 46) 23 rfl wx.heap.size 63 i0 _ 7 56 Try.underlying23 hi0 hz0 hz1' hz2' rfl (by decide) (.slice (some ⟨wx.heap.size, 0, none⟩) 1 1) 1 (flat [(⟨a.k, a.a, a.b, a.c, p, q, r⟩ : St)]) rfl (by exact hOw) ad 0 (cap - 1) (flat []) rfl rfl (fun j u hu => by simp [flat] at hu) (flat_one _) (by unfold maxLen; decide) (by decide) (by simp) ?_; intro v' w4 hown4 hgrow4 _)
    obtain ⟨A5, c5, hv5, hl5, hm5⟩ := owns_form hown4
    subst hv5
    have hO5 : Own w4 wx.heap.size (.slice A5 1 c5) [(⟨a.k, a.a, a.b, a.c, p, q, r⟩ : St)] := hown4
    have hF := Lib.hid hO5.lst
    have hB9 := Lib.hid (hBq.grown hgrow4 (by simp; omega) (fun k hk => by
      have h1 : wx.heap.size = k := by simpa [Value.ownBlock] using hk
      omega))
    clear hown4 hgrow4 hO5 hOw hBq
    go_wp2_with fail
    go_ret
    exact ⟨A5, c5, rfl, hl5, hm5, hF.out, hB9.out⟩
end Go.Proofs.Ytkggejmamhakaaa
