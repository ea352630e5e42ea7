/- Parts of the proof: Q3. -/
import Derived.Test.YtkggejmamhakaaaZBB
import Derived.Test.YtkggejmamhakaaaZBJ
namespace Go.Proofs.Ytkggejmamhakaaa
set_option maxRecDepth 100000
set_option linter.unusedVariables false
open Go.RowKit
set_option maxHeartbeats 2000000 in
theorem l6Ok_2n (A : Option Addr) (n cap k : Nat) (ps : List St) (a b : St) (w : World) (h : Lst w w.heap.size A n ps) (hn : n ≤ 1048576) (ha : ps[k]? = some a) (hoa : a.ok = true ∧ a.k < 6) (s0 : ¬ 0 ≤ a.sets) (hb : ps[k + 1]? = some b) (hobb : b.ok = true ∧ b.k < 6) :
    Calls Try.prog 60 #[.slice A n cap, .int .i64 2, .int .i64 (k : Int)] w fun e w' => e = .returned (.bool (fits 2 a (some b))) ∧ Below w.heap.size w w' := by
  have hk : k < n := by have := (List.getElem?_eq_some_iff.1 ha).1; have := h.1; omega
  obtain ⟨g, off, s0, rfl, hg, hs0, hat⟩ := h.at_ hk
  obtain rfl : a = s0 := by rw [ha] at hs0; injection hs0
  obtain ⟨c0, c1, c2, c3, c4, c5, c6⟩ := hat.open_
  have hk0 : (0 : Int) ≤ (k : Int) := by omega
  have hk1 : (k : Int) < (n : Int) := by omega
  have hwa := ok_wsm hoa.1 hoa.2
  have h1 := Has.new w 63 #[.int .i64 a.k, .int .i64 a.a, .int .i64 a.b, .int .i64 a.c, .int .i64 a.u, .int .i64 a.v, .int .i64 a.x]
  have hh1 := Lib.hid h1
  have hB := Lib.hid (show Below w.heap.size w (w.alloc (.cells #[.int .i64 a.k, .int .i64 a.a, .int .i64 a.b, .int .i64 a.c, .int .i64 a.u, .int .i64 a.v, .int .i64 a.x] 63)) from (Below.refl _ _).alloc (Nat.le_refl _) _)
  have hk' : k + 1 < n := by have := (List.getElem?_eq_some_iff.1 hb).1; have := h.1; omega
  obtain ⟨g', off', s1, e, _, hs1, hat1⟩ := h.at_ hk'
  obtain ⟨rfl, rfl⟩ : g = g' ∧ off = off' := by injection e with e; injection e with e1 e2; exact ⟨e1, e2⟩
  obtain rfl : b = s1 := by rw [hb] at hs1; injection hs1
  obtain ⟨d0, d1, d2, d3, d4, d5, d6⟩ := hat1.open_
  have hwb := ok_wsm hobb.1 hobb.2
  have ge : ((k : Int) + 1 == (n : Int)) = false := by simp; omega
  have hk2 : (k : Int) + 1 < (n : Int) := by omega
  have h1' := h1.alloc (.cells #[.int .i64 b.k, .int .i64 b.a, .int .i64 b.b, .int .i64 b.c, .int .i64 b.u, .int .i64 b.v, .int .i64 b.x] 63)
  have h2 := (Has.newAt (w := w.alloc (.cells #[.int .i64 a.k, .int .i64 a.a, .int .i64 a.b, .int .i64 a.c, .int .i64 a.u, .int .i64 a.v, .int .i64 a.x] 63)) (n := w.heap.size + 1) (t := 63) (cs := #[.int .i64 b.k, .int .i64 b.a, .int .i64 b.b, .int .i64 b.c, .int .i64 b.u, .int .i64 b.v, .int .i64 b.x]) (by simp))
  have hB2 := Lib.hid (show Below w.heap.size w ((w.alloc (.cells #[.int .i64 a.k, .int .i64 a.a, .int .i64 a.b, .int .i64 a.c, .int .i64 a.u, .int .i64 a.v, .int .i64 a.x] 63)).alloc (.cells #[.int .i64 b.k, .int .i64 b.a, .int .i64 b.b, .int .i64 b.c, .int .i64 b.u, .int .i64 b.v, .int .i64 b.x] 63)) from ((Below.refl _ _).alloc (Nat.le_refl _) _).alloc (by simp) _)
  have cA := Lib.hid (fun wx => l6Apart_any a b wx hoa.1 hobb.1)
  have cPr := Lib.hid (fun wx => l6Product_any a b wx hwa hwb)
  have r0 := Lib.hid (fits0 (a := a) (b := b) hoa.2 hobb.2)
  have r1 := Lib.hid (fits1 (a := a) (b := b))
  have r2 := Lib.hid (fits2 hoa.1 hoa.2 hobb.1 hobb.2)
  have r4 := Lib.hid (fits4 hoa.1 hoa.2 hobb.1 hobb.2)
  have hbA := a_bd hoa.1 hoa.2
  have hbS := sets_bd a hoa.1
  have hbR := reads_bd b
  have e1 := h1'.cell
  have e2 := h2.cell
  have hz2 : ((w.alloc (.cells #[.int .i64 a.k, .int .i64 a.a, .int .i64 a.b, .int .i64 a.c, .int .i64 a.u, .int .i64 a.v, .int .i64 a.x] 63)).alloc (.cells #[.int .i64 b.k, .int .i64 b.a, .int .i64 b.b, .int .i64 b.c, .int .i64 b.u, .int .i64 b.v, .int .i64 b.x] 63)).heap.size = w.heap.size + 2 := by simp
  have hzz := Lib.hid hz2
  have hh2 := Lib.hid h2
  have hh1' := Lib.hid h1'
  clear h hat hs0 ha hb hs1 hat1 e h1 h1' h2 hz2 hwa hwb hobb hoa
  have cSa : Hid (∀ wx : World, Calls Try.prog 93 #[.agg #[.int .i64 a.k, .int .i64 a.a, .int .i64 a.b, .int .i64 a.c, .int .i64 a.u, .int .i64 a.v, .int .i64 a.x]] wx fun e w' => e = .returned (.int .i64 a.sets) ∧ Below wx.heap.size wx w') := Lib.hid (fun wx => specStmtSets_any a.k a.a a.b a.c a.u a.v a.x wx)
  have cSb : Hid (∀ wx : World, Calls Try.prog 93 #[.agg #[.int .i64 b.k, .int .i64 b.a, .int .i64 b.b, .int .i64 b.c, .int .i64 b.u, .int .i64 b.v, .int .i64 b.x]] wx fun e w' => e = .returned (.int .i64 b.sets) ∧ Below wx.heap.size wx w') := Lib.hid (fun wx => specStmtSets_any b.k b.a b.b b.c b.u b.v b.x wx)
  have cRb : Hid (∀ wx : World, Calls Try.prog 94 #[.agg #[.int .i64 b.k, .int .i64 b.a, .int .i64 b.b, .int .i64 b.c, .int .i64 b.u, .int .i64 b.v, .int .i64 b.x]] wx fun e w' => e = .returned (.int .i64 b.reads) ∧ Below wx.heap.size wx w') := Lib.hid (fun wx => specStmtReads_any b.k b.a b.b b.c b.u b.v b.x wx)
  clear r0 r1 cA cPr
  have hS0 := hbS.1
  have hS1 := hbS.2
  have hR0 := hbR.1
  have hR1 := hbR.2
  clear hbS hbR
  have hX : fits 2 a (some b) = (decide (0 ≤ a.sets) && (b.sets == a.sets) && ((b.reads / 2 ^ a.sets.toNat).tmod 2 == 0)) := r2.out
  clear r2 r4
  generalize a.sets = sa at *
  generalize b.sets = sb at *
  generalize b.reads = rb at *
  have hs0 : decide (0 ≤ sa) = false := decide_eq_false s0
  have hR := Lib.hid (show fits 2 a (some b) = false by rw [hX, hs0, Bool.false_and, Bool.false_and])
  clear hX
  go_enter Try.func60, Try.ntmps60
  go_wp2_with fail
  generalize ((w.alloc (.cells #[.int .i64 a.k, .int .i64 a.a, .int .i64 a.b, .int .i64 a.c, .int .i64 a.u, .int .i64 a.v, .int .i64 a.x] 63)).alloc (.cells #[.int .i64 b.k, .int .i64 b.a, .int .i64 b.b, .int .i64 b.c, .int .i64 b.u, .int .i64 b.v, .int .i64 b.x] 63)) = W0 at hh1' hh2 hB2 hzz e1 e2 ⊢
  clear e1 e2
  refine wp_region_any (by kernel_rfl) ?_
  change wpAny _ _ _ _ _ _ _ (World.drew _)
  refine wpAny_inv (I := fun listed aq wx => listed.size = 20 ∧ ∃ v83 v84 v85 v86 v87 v88 v89 v90 v91 v92 v93 v94 v95 v96 v97 v98 v99 v100 v101 v6 : Value, aq = { tmps := #[Value.slice (some { block := g, off := off }) n cap, Value.int IntKind.i64 2, Value.int IntKind.i64 ↑k, undef, undef, undef, v6, Value.pointer (some { block := w.heap.size, off := 0 }), Value.pointer (some { block := w.heap.size + 1, off := 0 }), undef, undef, undef, Value.slice (some { block := g, off := off }) n cap, Value.int IntKind.i64 ↑k, Value.pointer (some { block := g, off := off + k * 7 }), Value.agg #[Value.int IntKind.i64 a.k, Value.int IntKind.i64 a.a, Value.int IntKind.i64 a.b, Value.int IntKind.i64 a.c, Value.int IntKind.i64 a.u, Value.int IntKind.i64 a.v, Value.int IntKind.i64 a.x], Value.int IntKind.i64 2, Value.bool false, undef, undef, undef, undef, undef, undef, undef, undef, undef, Value.int IntKind.i64 ↑k, Value.int IntKind.i64 (↑k + 1), Value.slice (some { block := g, off := off }) n cap, Value.int IntKind.i64 ↑n, Value.bool false, Value.slice (some { block := g, off := off }) n cap, Value.int IntKind.i64 ↑k, Value.int IntKind.i64 (↑k + 1), Value.pointer (some { block := g, off := off + (k + 1) * 7 }), Value.agg #[Value.int IntKind.i64 b.k, Value.int IntKind.i64 b.a, Value.int IntKind.i64 b.b, Value.int IntKind.i64 b.c, Value.int IntKind.i64 b.u, Value.int IntKind.i64 b.v, Value.int IntKind.i64 b.x], Value.int IntKind.i64 2, Value.bool false, undef, undef, undef, Value.int IntKind.i64 2, Value.bool false, undef, undef, undef, undef, undef, undef, undef, undef, undef, undef, undef, undef, undef, undef, undef, undef, undef, undef, undef, undef, undef, undef, undef, undef, undef, undef, undef, undef, undef, undef, undef, undef, undef, undef, undef, undef, undef, Value.int IntKind.i64 2, Value.bool true, v83, v84, v85, v86, v87, v88, v89, v90, v91, v92, v93, v94, v95, v96, v97, v98, v99, v100, v101, undef, undef, undef, undef, undef, undef, undef, undef, undef, undef, undef, undef, undef, undef, undef, undef, undef, undef, undef, undef, undef, undef, undef, undef, undef, undef, undef, undef, undef, undef, undef, undef, undef, undef], defers := [] } ∧ (listed.getD 0 false = true → v83 = .agg #[.int .i64 a.k, .int .i64 a.a, .int .i64 a.b, .int .i64 a.c, .int .i64 a.u, .int .i64 a.v, .int .i64 a.x]) ∧ (listed.getD 1 false = true → v84 = .int .i64 (sa)) ∧ (listed.getD 2 false = true → v85 = .bool false) ∧ (listed.getD 3 false = true → v86 = .bool false) ∧ (listed.getD 4 false = true → v87 = undef) ∧ (listed.getD 5 false = true → v88 = undef) ∧ (listed.getD 6 false = true → v89 = undef) ∧ (listed.getD 7 false = true → v90 = undef) ∧ (listed.getD 8 false = true → v91 = undef) ∧ (listed.getD 9 false = true → v92 = .bool false) ∧ (listed.getD 10 false = true → v93 = .bool false) ∧ (listed.getD 11 false = true → v94 = undef) ∧ (listed.getD 12 false = true → v95 = undef) ∧ (listed.getD 13 false = true → v96 = undef) ∧ (listed.getD 14 false = true → v97 = undef) ∧ (listed.getD 15 false = true → v98 = undef) ∧ (listed.getD 16 false = true → v99 = undef) ∧ (listed.getD 17 false = true → v100 = undef) ∧ (listed.getD 18 false = true → v101 = .bool false) ∧ (listed.getD 19 false = true → v6 = .bool false) ∧ Below W0.heap.size W0 wx) ?hs ?he _ _ _ _ ?st (by decide)
  case st =>
    refine ⟨by simp, undef, undef, undef, undef, undef, undef, undef, undef, undef, undef, undef, undef, undef, undef, undef, undef, undef, undef, undef, .bool false, rfl, ?_, ?_, ?_, ?_, ?_, ?_, ?_, ?_, ?_, ?_, ?_, ?_, ?_, ?_, ?_, ?_, ?_, ?_, ?_, ?_, (Below.refl _ _).drew⟩ <;> (intro e; exact absurd e (by decide))
  case hs =>
    rintro listed aq wx ⟨hz, v83, v84, v85, v86, v87, v88, v89, v90, v91, v92, v93, v94, v95, v96, v97, v98, v99, v100, v101, v6, rfl, hII⟩ i hi
    obtain ⟨h0, o, ho, hd⟩ := mem_ready.1 hi
    have hin : i < 20 := by
      have := (Array.getElem?_eq_some_iff.1 ho).1
      simpa using this
    have K0 := Lib.hid hII.1
    have K1 := Lib.hid hII.2.1
    have K2 := Lib.hid hII.2.2.1
    have K3 := Lib.hid hII.2.2.2.1
    have K4 := Lib.hid hII.2.2.2.2.1
    have K5 := Lib.hid hII.2.2.2.2.2.1
    have K6 := Lib.hid hII.2.2.2.2.2.2.1
    have K7 := Lib.hid hII.2.2.2.2.2.2.2.1
    have K8 := Lib.hid hII.2.2.2.2.2.2.2.2.1
    have K9 := Lib.hid hII.2.2.2.2.2.2.2.2.2.1
    have K10 := Lib.hid hII.2.2.2.2.2.2.2.2.2.2.1
    have K11 := Lib.hid hII.2.2.2.2.2.2.2.2.2.2.2.1
    have K12 := Lib.hid hII.2.2.2.2.2.2.2.2.2.2.2.2.1
    have K13 := Lib.hid hII.2.2.2.2.2.2.2.2.2.2.2.2.2.1
    have K14 := Lib.hid hII.2.2.2.2.2.2.2.2.2.2.2.2.2.2.1
    have K15 := Lib.hid hII.2.2.2.2.2.2.2.2.2.2.2.2.2.2.2.1
    have K16 := Lib.hid hII.2.2.2.2.2.2.2.2.2.2.2.2.2.2.2.2.1
    have K17 := Lib.hid hII.2.2.2.2.2.2.2.2.2.2.2.2.2.2.2.2.2.1
    have K18 := Lib.hid hII.2.2.2.2.2.2.2.2.2.2.2.2.2.2.2.2.2.2.1
    have K19 := Lib.hid hII.2.2.2.2.2.2.2.2.2.2.2.2.2.2.2.2.2.2.2.1
    have hne := Lib.hid (fun k (hk : i ≠ k) => @listed_ne listed i k hk)
    have hB : Below W0.heap.size W0 wx := hII.2.2.2.2.2.2.2.2.2.2.2.2.2.2.2.2.2.2.2.2
    have h0f : listed.getD i false = false := by rw [Array.getD_eq_getD_getElem?, getD_false h0]; rfl
    have hx1 : Has wx w.heap.size 63 #[.int .i64 a.k, .int .i64 a.a, .int .i64 a.b, .int .i64 a.c, .int .i64 a.u, .int .i64 a.v, .int .i64 a.x] := hh1'.out.kept hB
    have hx2 : Has wx (w.heap.size + 1) 63 #[.int .i64 b.k, .int .i64 b.a, .int .i64 b.b, .int .i64 b.c, .int .i64 b.u, .int .i64 b.v, .int .i64 b.x] := hh2.out.kept hB
    clear hII hi h0
    rcases (by omega : i = 0 ∨ i = 1 ∨ i = 2 ∨ i = 3 ∨ i = 4 ∨ i = 5 ∨ i = 6 ∨ i = 7 ∨ i = 8 ∨ i = 9 ∨ i = 10 ∨ i = 11 ∨ i = 12 ∨ i = 13 ∨ i = 14 ∨ i = 15 ∨ i = 16 ∨ i = 17 ∨ i = 18 ∨ i = 19) with rfl | rfl | rfl | rfl | rfl | rfl | rfl | rfl | rfl | rfl | rfl | rfl | rfl | rfl | rfl | rfl | rfl | rfl | rfl | rfl
    · cases ho
      have hx1c := hx1.cell
      refine wpOp_step rfl (fun K hK => ?_)
      go_simp
      refine hK _ _ ⟨by simpa using hz, .agg #[.int .i64 a.k, .int .i64 a.a, .int .i64 a.b, .int .i64 a.c, .int .i64 a.u, .int .i64 a.v, .int .i64 a.x], v84, v85, v86, v87, v88, v89, v90, v91, v92, v93, v94, v95, v96, v97, v98, v99, v100, v101, v6, rfl, ?_⟩
      exact ⟨fun _ => rfl, kn hne K1, kn hne K2, kn hne K3, kn hne K4, kn hne K5, kn hne K6, kn hne K7, kn hne K8, kn hne K9, kn hne K10, kn hne K11, kn hne K12, kn hne K13, kn hne K14, kn hne K15, kn hne K16, kn hne K17, kn hne K18, kn hne K19, hB⟩
    · cases ho
      have d0 := hd ⟨0, .data⟩ (by simp) rfl
      obtain rfl := K0.out d0
      refine wpOp_step rfl (fun K hK => ?_)
      go_simp
      go_at_call 93
      refine (cSa.out _).mono ?_
      rintro e w3 ⟨rfl, hb3⟩
      refine hK _ _ ⟨by simpa using hz, .agg #[.int .i64 a.k, .int .i64 a.a, .int .i64 a.b, .int .i64 a.c, .int .i64 a.u, .int .i64 a.v, .int .i64 a.x], .int .i64 (sa), v85, v86, v87, v88, v89, v90, v91, v92, v93, v94, v95, v96, v97, v98, v99, v100, v101, v6, rfl, ?_⟩
      exact ⟨kn hne K0, fun _ => rfl, kn hne K2, kn hne K3, kn hne K4, kn hne K5, kn hne K6, kn hne K7, kn hne K8, kn hne K9, kn hne K10, kn hne K11, kn hne K12, kn hne K13, kn hne K14, kn hne K15, kn hne K16, kn hne K17, kn hne K18, kn hne K19, hB.trans (hb3.mono hB.size)⟩
    · cases ho
      have d1 := hd ⟨1, .data⟩ (by simp) rfl
      obtain rfl := K1.out d1
      refine wpOp_step rfl (fun K hK => ?_)
      go_simp
      try rw [hs0]
      refine hK _ _ ⟨by simpa using hz, v83, .int .i64 (sa), .bool false, v86, v87, v88, v89, v90, v91, v92, v93, v94, v95, v96, v97, v98, v99, v100, v101, v6, rfl, ?_⟩
      exact ⟨kn hne K0, kn hne K1, fun _ => rfl, kn hne K3, kn hne K4, kn hne K5, kn hne K6, kn hne K7, kn hne K8, kn hne K9, kn hne K10, kn hne K11, kn hne K12, kn hne K13, kn hne K14, kn hne K15, kn hne K16, kn hne K17, kn hne K18, kn hne K19, hB⟩
    · cases ho
      have d2 := hd ⟨2, .data⟩ (by simp) rfl
      obtain rfl := K2.out d2
      refine wpOp_step rfl (fun K hK => ?_)
      go_simp
      refine hK _ _ ⟨by simpa using hz, v83, v84, .bool false, .bool false, v87, v88, v89, v90, v91, v92, v93, v94, v95, v96, v97, v98, v99, v100, v101, v6, rfl, ?_⟩
      exact ⟨kn hne K0, kn hne K1, kn hne K2, fun _ => rfl, kn hne K4, kn hne K5, kn hne K6, kn hne K7, kn hne K8, kn hne K9, kn hne K10, kn hne K11, kn hne K12, kn hne K13, kn hne K14, kn hne K15, kn hne K16, kn hne K17, kn hne K18, kn hne K19, hB⟩
    · cases ho
      have d3 := hd ⟨3, .guard⟩ (by simp) rfl
      obtain rfl := K3.out d3
      refine wpOp_step rfl (fun K hK => ?_)
      go_simp
      refine hK _ _ ⟨by simpa using hz, v83, v84, v85, .bool false, undef, v88, v89, v90, v91, v92, v93, v94, v95, v96, v97, v98, v99, v100, v101, v6, rfl, ?_⟩
      exact ⟨kn hne K0, kn hne K1, kn hne K2, kn hne K3, fun _ => rfl, kn hne K5, kn hne K6, kn hne K7, kn hne K8, kn hne K9, kn hne K10, kn hne K11, kn hne K12, kn hne K13, kn hne K14, kn hne K15, kn hne K16, kn hne K17, kn hne K18, kn hne K19, hB⟩
    · cases ho
      have d3 := hd ⟨3, .guard⟩ (by simp) rfl
      obtain rfl := K3.out d3
      refine wpOp_step rfl (fun K hK => ?_)
      go_simp
      refine hK _ _ ⟨by simpa using hz, v83, v84, v85, .bool false, v87, undef, v89, v90, v91, v92, v93, v94, v95, v96, v97, v98, v99, v100, v101, v6, rfl, ?_⟩
      exact ⟨kn hne K0, kn hne K1, kn hne K2, kn hne K3, kn hne K4, fun _ => rfl, kn hne K6, kn hne K7, kn hne K8, kn hne K9, kn hne K10, kn hne K11, kn hne K12, kn hne K13, kn hne K14, kn hne K15, kn hne K16, kn hne K17, kn hne K18, kn hne K19, hB⟩
    · cases ho
      have d3 := hd ⟨3, .guard⟩ (by simp) rfl
      obtain rfl := K3.out d3
      refine wpOp_step rfl (fun K hK => ?_)
      go_simp
      refine hK _ _ ⟨by simpa using hz, v83, v84, v85, .bool false, v87, v88, undef, v90, v91, v92, v93, v94, v95, v96, v97, v98, v99, v100, v101, v6, rfl, ?_⟩
      exact ⟨kn hne K0, kn hne K1, kn hne K2, kn hne K3, kn hne K4, kn hne K5, fun _ => rfl, kn hne K7, kn hne K8, kn hne K9, kn hne K10, kn hne K11, kn hne K12, kn hne K13, kn hne K14, kn hne K15, kn hne K16, kn hne K17, kn hne K18, kn hne K19, hB⟩
    · cases ho
      have d3 := hd ⟨3, .guard⟩ (by simp) rfl
      obtain rfl := K3.out d3
      refine wpOp_step rfl (fun K hK => ?_)
      go_simp
      refine hK _ _ ⟨by simpa using hz, v83, v84, v85, .bool false, v87, v88, v89, undef, v91, v92, v93, v94, v95, v96, v97, v98, v99, v100, v101, v6, rfl, ?_⟩
      exact ⟨kn hne K0, kn hne K1, kn hne K2, kn hne K3, kn hne K4, kn hne K5, kn hne K6, fun _ => rfl, kn hne K8, kn hne K9, kn hne K10, kn hne K11, kn hne K12, kn hne K13, kn hne K14, kn hne K15, kn hne K16, kn hne K17, kn hne K18, kn hne K19, hB⟩
    · cases ho
      have d3 := hd ⟨3, .guard⟩ (by simp) rfl
      obtain rfl := K3.out d3
      refine wpOp_step rfl (fun K hK => ?_)
      go_simp
      refine hK _ _ ⟨by simpa using hz, v83, v84, v85, .bool false, v87, v88, v89, v90, undef, v92, v93, v94, v95, v96, v97, v98, v99, v100, v101, v6, rfl, ?_⟩
      exact ⟨kn hne K0, kn hne K1, kn hne K2, kn hne K3, kn hne K4, kn hne K5, kn hne K6, kn hne K7, fun _ => rfl, kn hne K9, kn hne K10, kn hne K11, kn hne K12, kn hne K13, kn hne K14, kn hne K15, kn hne K16, kn hne K17, kn hne K18, kn hne K19, hB⟩
    · cases ho
      have d3 := hd ⟨3, .data⟩ (by simp) rfl
      have d8 := hd ⟨8, .data⟩ (by simp) rfl
      obtain rfl := K3.out d3
      obtain rfl := K8.out d8
      refine wpOp_step rfl (fun K hK => ?_)
      go_simp
      refine hK _ _ ⟨by simpa using hz, v83, v84, v85, .bool false, v87, v88, v89, v90, undef, .bool false, v93, v94, v95, v96, v97, v98, v99, v100, v101, v6, rfl, ?_⟩
      exact ⟨kn hne K0, kn hne K1, kn hne K2, kn hne K3, kn hne K4, kn hne K5, kn hne K6, kn hne K7, kn hne K8, fun _ => rfl, kn hne K10, kn hne K11, kn hne K12, kn hne K13, kn hne K14, kn hne K15, kn hne K16, kn hne K17, kn hne K18, kn hne K19, hB⟩
    · cases ho
      have d9 := hd ⟨9, .data⟩ (by simp) rfl
      obtain rfl := K9.out d9
      refine wpOp_step rfl (fun K hK => ?_)
      go_simp
      refine hK _ _ ⟨by simpa using hz, v83, v84, v85, v86, v87, v88, v89, v90, v91, .bool false, .bool false, v94, v95, v96, v97, v98, v99, v100, v101, v6, rfl, ?_⟩
      exact ⟨kn hne K0, kn hne K1, kn hne K2, kn hne K3, kn hne K4, kn hne K5, kn hne K6, kn hne K7, kn hne K8, kn hne K9, fun _ => rfl, kn hne K11, kn hne K12, kn hne K13, kn hne K14, kn hne K15, kn hne K16, kn hne K17, kn hne K18, kn hne K19, hB⟩
    · cases ho
      have d10 := hd ⟨10, .guard⟩ (by simp) rfl
      obtain rfl := K10.out d10
      refine wpOp_step rfl (fun K hK => ?_)
      go_simp
      refine hK _ _ ⟨by simpa using hz, v83, v84, v85, v86, v87, v88, v89, v90, v91, v92, .bool false, undef, v95, v96, v97, v98, v99, v100, v101, v6, rfl, ?_⟩
      exact ⟨kn hne K0, kn hne K1, kn hne K2, kn hne K3, kn hne K4, kn hne K5, kn hne K6, kn hne K7, kn hne K8, kn hne K9, kn hne K10, fun _ => rfl, kn hne K12, kn hne K13, kn hne K14, kn hne K15, kn hne K16, kn hne K17, kn hne K18, kn hne K19, hB⟩
    · cases ho
      have d10 := hd ⟨10, .guard⟩ (by simp) rfl
      obtain rfl := K10.out d10
      refine wpOp_step rfl (fun K hK => ?_)
      go_simp
      refine hK _ _ ⟨by simpa using hz, v83, v84, v85, v86, v87, v88, v89, v90, v91, v92, .bool false, v94, undef, v96, v97, v98, v99, v100, v101, v6, rfl, ?_⟩
      exact ⟨kn hne K0, kn hne K1, kn hne K2, kn hne K3, kn hne K4, kn hne K5, kn hne K6, kn hne K7, kn hne K8, kn hne K9, kn hne K10, kn hne K11, fun _ => rfl, kn hne K13, kn hne K14, kn hne K15, kn hne K16, kn hne K17, kn hne K18, kn hne K19, hB⟩
    · cases ho
      have d10 := hd ⟨10, .guard⟩ (by simp) rfl
      obtain rfl := K10.out d10
      refine wpOp_step rfl (fun K hK => ?_)
      go_simp
      refine hK _ _ ⟨by simpa using hz, v83, v84, v85, v86, v87, v88, v89, v90, v91, v92, .bool false, v94, v95, undef, v97, v98, v99, v100, v101, v6, rfl, ?_⟩
      exact ⟨kn hne K0, kn hne K1, kn hne K2, kn hne K3, kn hne K4, kn hne K5, kn hne K6, kn hne K7, kn hne K8, kn hne K9, kn hne K10, kn hne K11, kn hne K12, fun _ => rfl, kn hne K14, kn hne K15, kn hne K16, kn hne K17, kn hne K18, kn hne K19, hB⟩
    · cases ho
      have d10 := hd ⟨10, .guard⟩ (by simp) rfl
      obtain rfl := K10.out d10
      refine wpOp_step rfl (fun K hK => ?_)
      go_simp
      refine hK _ _ ⟨by simpa using hz, v83, v84, v85, v86, v87, v88, v89, v90, v91, v92, .bool false, v94, v95, v96, undef, v98, v99, v100, v101, v6, rfl, ?_⟩
      exact ⟨kn hne K0, kn hne K1, kn hne K2, kn hne K3, kn hne K4, kn hne K5, kn hne K6, kn hne K7, kn hne K8, kn hne K9, kn hne K10, kn hne K11, kn hne K12, kn hne K13, fun _ => rfl, kn hne K15, kn hne K16, kn hne K17, kn hne K18, kn hne K19, hB⟩
    · cases ho
      have d10 := hd ⟨10, .guard⟩ (by simp) rfl
      obtain rfl := K10.out d10
      refine wpOp_step rfl (fun K hK => ?_)
      go_simp
      refine hK _ _ ⟨by simpa using hz, v83, v84, v85, v86, v87, v88, v89, v90, v91, v92, .bool false, v94, v95, v96, v97, undef, v99, v100, v101, v6, rfl, ?_⟩
      exact ⟨kn hne K0, kn hne K1, kn hne K2, kn hne K3, kn hne K4, kn hne K5, kn hne K6, kn hne K7, kn hne K8, kn hne K9, kn hne K10, kn hne K11, kn hne K12, kn hne K13, kn hne K14, fun _ => rfl, kn hne K16, kn hne K17, kn hne K18, kn hne K19, hB⟩
    · cases ho
      have d10 := hd ⟨10, .guard⟩ (by simp) rfl
      obtain rfl := K10.out d10
      refine wpOp_step rfl (fun K hK => ?_)
      go_simp
      refine hK _ _ ⟨by simpa using hz, v83, v84, v85, v86, v87, v88, v89, v90, v91, v92, .bool false, v94, v95, v96, v97, v98, undef, v100, v101, v6, rfl, ?_⟩
      exact ⟨kn hne K0, kn hne K1, kn hne K2, kn hne K3, kn hne K4, kn hne K5, kn hne K6, kn hne K7, kn hne K8, kn hne K9, kn hne K10, kn hne K11, kn hne K12, kn hne K13, kn hne K14, kn hne K15, fun _ => rfl, kn hne K17, kn hne K18, kn hne K19, hB⟩
    · cases ho
      have d10 := hd ⟨10, .guard⟩ (by simp) rfl
      obtain rfl := K10.out d10
      refine wpOp_step rfl (fun K hK => ?_)
      go_simp
      refine hK _ _ ⟨by simpa using hz, v83, v84, v85, v86, v87, v88, v89, v90, v91, v92, .bool false, v94, v95, v96, v97, v98, v99, undef, v101, v6, rfl, ?_⟩
      exact ⟨kn hne K0, kn hne K1, kn hne K2, kn hne K3, kn hne K4, kn hne K5, kn hne K6, kn hne K7, kn hne K8, kn hne K9, kn hne K10, kn hne K11, kn hne K12, kn hne K13, kn hne K14, kn hne K15, kn hne K16, fun _ => rfl, kn hne K18, kn hne K19, hB⟩
    · cases ho
      have d10 := hd ⟨10, .data⟩ (by simp) rfl
      have d17 := hd ⟨17, .data⟩ (by simp) rfl
      obtain rfl := K10.out d10
      obtain rfl := K17.out d17
      refine wpOp_step rfl (fun K hK => ?_)
      go_simp
      refine hK _ _ ⟨by simpa using hz, v83, v84, v85, v86, v87, v88, v89, v90, v91, v92, .bool false, v94, v95, v96, v97, v98, v99, undef, .bool false, v6, rfl, ?_⟩
      exact ⟨kn hne K0, kn hne K1, kn hne K2, kn hne K3, kn hne K4, kn hne K5, kn hne K6, kn hne K7, kn hne K8, kn hne K9, kn hne K10, kn hne K11, kn hne K12, kn hne K13, kn hne K14, kn hne K15, kn hne K16, kn hne K17, fun _ => rfl, kn hne K19, hB⟩
    · cases ho
      have d18 := hd ⟨18, .data⟩ (by simp) rfl
      obtain rfl := K18.out d18
      refine wpOp_step rfl (fun K hK => ?_)
      go_simp
      refine hK _ _ ⟨by simpa using hz, v83, v84, v85, v86, v87, v88, v89, v90, v91, v92, v93, v94, v95, v96, v97, v98, v99, v100, .bool false, .bool false, rfl, ?_⟩
      exact ⟨kn hne K0, kn hne K1, kn hne K2, kn hne K3, kn hne K4, kn hne K5, kn hne K6, kn hne K7, kn hne K8, kn hne K9, kn hne K10, kn hne K11, kn hne K12, kn hne K13, kn hne K14, kn hne K15, kn hne K16, kn hne K17, kn hne K18, fun _ => rfl, hB⟩
  case he =>
    rintro listed aq wx ⟨hz, v83, v84, v85, v86, v87, v88, v89, v90, v91, v92, v93, v94, v95, v96, v97, v98, v99, v100, v101, v6, rfl, hI⟩ hr
    have hall := ready_done hz (by kernel_rfl) hr
    obtain rfl := hI.2.2.2.2.2.2.2.2.2.2.2.2.2.2.2.2.2.2.2.1 (hall 19 (by decide))
    have hB7 := Lib.hid (hB2.out.trans ((show Below W0.heap.size W0 wx from hI.2.2.2.2.2.2.2.2.2.2.2.2.2.2.2.2.2.2.2.2).mono (by have := hzz.out; omega)))
    clear hI hall hr hz
    go_wp2_with fail
    go_ret
    exact ⟨ret_bool hR.out, hB7.out⟩
set_option maxHeartbeats 2000000 in
theorem l6Ok_2f (A : Option Addr) (n cap k : Nat) (ps : List St) (a b : St) (w : World) (h : Lst w w.heap.size A n ps) (hn : n ≤ 1048576) (ha : ps[k]? = some a) (hoa : a.ok = true ∧ a.k < 6) (s0 : 0 ≤ a.sets) (s1 : (b.sets == a.sets) = false) (hb : ps[k + 1]? = some b) (hobb : b.ok = true ∧ b.k < 6) :
    Calls Try.prog 60 #[.slice A n cap, .int .i64 2, .int .i64 (k : Int)] w fun e w' => e = .returned (.bool (fits 2 a (some b))) ∧ Below w.heap.size w w' := by
  have hk : k < n := by have := (List.getElem?_eq_some_iff.1 ha).1; have := h.1; omega
  obtain ⟨g, off, s0, rfl, hg, hs0, hat⟩ := h.at_ hk
  obtain rfl : a = s0 := by rw [ha] at hs0; injection hs0
  obtain ⟨c0, c1, c2, c3, c4, c5, c6⟩ := hat.open_
  have hk0 : (0 : Int) ≤ (k : Int) := by omega
  have hk1 : (k : Int) < (n : Int) := by omega
  have hwa := ok_wsm hoa.1 hoa.2
  have h1 := Has.new w 63 #[.int .i64 a.k, .int .i64 a.a, .int .i64 a.b, .int .i64 a.c, .int .i64 a.u, .int .i64 a.v, .int .i64 a.x]
  have hh1 := Lib.hid h1
  have hB := Lib.hid (show Below w.heap.size w (w.alloc (.cells #[.int .i64 a.k, .int .i64 a.a, .int .i64 a.b, .int .i64 a.c, .int .i64 a.u, .int .i64 a.v, .int .i64 a.x] 63)) from (Below.refl _ _).alloc (Nat.le_refl _) _)
  have hk' : k + 1 < n := by have := (List.getElem?_eq_some_iff.1 hb).1; have := h.1; omega
  obtain ⟨g', off', s1, e, _, hs1, hat1⟩ := h.at_ hk'
  obtain ⟨rfl, rfl⟩ : g = g' ∧ off = off' := by injection e with e; injection e with e1 e2; exact ⟨e1, e2⟩
  obtain rfl : b = s1 := by rw [hb] at hs1; injection hs1
  obtain ⟨d0, d1, d2, d3, d4, d5, d6⟩ := hat1.open_
  have hwb := ok_wsm hobb.1 hobb.2
  have ge : ((k : Int) + 1 == (n : Int)) = false := by simp; omega
  have hk2 : (k : Int) + 1 < (n : Int) := by omega
  have h1' := h1.alloc (.cells #[.int .i64 b.k, .int .i64 b.a, .int .i64 b.b, .int .i64 b.c, .int .i64 b.u, .int .i64 b.v, .int .i64 b.x] 63)
  have h2 := (Has.newAt (w := w.alloc (.cells #[.int .i64 a.k, .int .i64 a.a, .int .i64 a.b, .int .i64 a.c, .int .i64 a.u, .int .i64 a.v, .int .i64 a.x] 63)) (n := w.heap.size + 1) (t := 63) (cs := #[.int .i64 b.k, .int .i64 b.a, .int .i64 b.b, .int .i64 b.c, .int .i64 b.u, .int .i64 b.v, .int .i64 b.x]) (by simp))
  have hB2 := Lib.hid (show Below w.heap.size w ((w.alloc (.cells #[.int .i64 a.k, .int .i64 a.a, .int .i64 a.b, .int .i64 a.c, .int .i64 a.u, .int .i64 a.v, .int .i64 a.x] 63)).alloc (.cells #[.int .i64 b.k, .int .i64 b.a, .int .i64 b.b, .int .i64 b.c, .int .i64 b.u, .int .i64 b.v, .int .i64 b.x] 63)) from ((Below.refl _ _).alloc (Nat.le_refl _) _).alloc (by simp) _)
  have cA := Lib.hid (fun wx => l6Apart_any a b wx hoa.1 hobb.1)
  have cPr := Lib.hid (fun wx => l6Product_any a b wx hwa hwb)
  have r0 := Lib.hid (fits0 (a := a) (b := b) hoa.2 hobb.2)
  have r1 := Lib.hid (fits1 (a := a) (b := b))
  have r2 := Lib.hid (fits2 hoa.1 hoa.2 hobb.1 hobb.2)
  have r4 := Lib.hid (fits4 hoa.1 hoa.2 hobb.1 hobb.2)
  have hbA := a_bd hoa.1 hoa.2
  have hbS := sets_bd a hoa.1
  have hbR := reads_bd b
  have e1 := h1'.cell
  have e2 := h2.cell
  have hz2 : ((w.alloc (.cells #[.int .i64 a.k, .int .i64 a.a, .int .i64 a.b, .int .i64 a.c, .int .i64 a.u, .int .i64 a.v, .int .i64 a.x] 63)).alloc (.cells #[.int .i64 b.k, .int .i64 b.a, .int .i64 b.b, .int .i64 b.c, .int .i64 b.u, .int .i64 b.v, .int .i64 b.x] 63)).heap.size = w.heap.size + 2 := by simp
  have hzz := Lib.hid hz2
  have hh2 := Lib.hid h2
  have hh1' := Lib.hid h1'
  clear h hat hs0 ha hb hs1 hat1 e h1 h1' h2 hz2 hwa hwb hobb hoa
  have cSa : Hid (∀ wx : World, Calls Try.prog 93 #[.agg #[.int .i64 a.k, .int .i64 a.a, .int .i64 a.b, .int .i64 a.c, .int .i64 a.u, .int .i64 a.v, .int .i64 a.x]] wx fun e w' => e = .returned (.int .i64 a.sets) ∧ Below wx.heap.size wx w') := Lib.hid (fun wx => specStmtSets_any a.k a.a a.b a.c a.u a.v a.x wx)
  have cSb : Hid (∀ wx : World, Calls Try.prog 93 #[.agg #[.int .i64 b.k, .int .i64 b.a, .int .i64 b.b, .int .i64 b.c, .int .i64 b.u, .int .i64 b.v, .int .i64 b.x]] wx fun e w' => e = .returned (.int .i64 b.sets) ∧ Below wx.heap.size wx w') := Lib.hid (fun wx => specStmtSets_any b.k b.a b.b b.c b.u b.v b.x wx)
  have cRb : Hid (∀ wx : World, Calls Try.prog 94 #[.agg #[.int .i64 b.k, .int .i64 b.a, .int .i64 b.b, .int .i64 b.c, .int .i64 b.u, .int .i64 b.v, .int .i64 b.x]] wx fun e w' => e = .returned (.int .i64 b.reads) ∧ Below wx.heap.size wx w') := Lib.hid (fun wx => specStmtReads_any b.k b.a b.b b.c b.u b.v b.x wx)
  clear r0 r1 cA cPr
  have hS0 := hbS.1
  have hS1 := hbS.2
  have hR0 := hbR.1
  have hR1 := hbR.2
  clear hbS hbR
  have hX : fits 2 a (some b) = (decide (0 ≤ a.sets) && (b.sets == a.sets) && ((b.reads / 2 ^ a.sets.toNat).tmod 2 == 0)) := r2.out
  clear r2 r4
  generalize a.sets = sa at *
  generalize b.sets = sb at *
  generalize b.reads = rb at *
  have hs0 : decide (0 ≤ sa) = true := decide_eq_true s0
  have hR := Lib.hid (show fits 2 a (some b) = false by rw [hX, s1, Bool.and_false, Bool.false_and])
  clear hX
  go_enter Try.func60, Try.ntmps60
  go_wp2_with fail
  generalize ((w.alloc (.cells #[.int .i64 a.k, .int .i64 a.a, .int .i64 a.b, .int .i64 a.c, .int .i64 a.u, .int .i64 a.v, .int .i64 a.x] 63)).alloc (.cells #[.int .i64 b.k, .int .i64 b.a, .int .i64 b.b, .int .i64 b.c, .int .i64 b.u, .int .i64 b.v, .int .i64 b.x] 63)) = W0 at hh1' hh2 hB2 hzz e1 e2 ⊢
  clear e1 e2
  refine wp_region_any (by kernel_rfl) ?_
  change wpAny _ _ _ _ _ _ _ (World.drew _)
  refine wpAny_inv (I := fun listed aq wx => listed.size = 20 ∧ ∃ v83 v84 v85 v86 v87 v88 v89 v90 v91 v92 v93 v94 v95 v96 v97 v98 v99 v100 v101 v6 : Value, aq = { tmps := #[Value.slice (some { block := g, off := off }) n cap, Value.int IntKind.i64 2, Value.int IntKind.i64 ↑k, undef, undef, undef, v6, Value.pointer (some { block := w.heap.size, off := 0 }), Value.pointer (some { block := w.heap.size + 1, off := 0 }), undef, undef, undef, Value.slice (some { block := g, off := off }) n cap, Value.int IntKind.i64 ↑k, Value.pointer (some { block := g, off := off + k * 7 }), Value.agg #[Value.int IntKind.i64 a.k, Value.int IntKind.i64 a.a, Value.int IntKind.i64 a.b, Value.int IntKind.i64 a.c, Value.int IntKind.i64 a.u, Value.int IntKind.i64 a.v, Value.int IntKind.i64 a.x], Value.int IntKind.i64 2, Value.bool false, undef, undef, undef, undef, undef, undef, undef, undef, undef, Value.int IntKind.i64 ↑k, Value.int IntKind.i64 (↑k + 1), Value.slice (some { block := g, off := off }) n cap, Value.int IntKind.i64 ↑n, Value.bool false, Value.slice (some { block := g, off := off }) n cap, Value.int IntKind.i64 ↑k, Value.int IntKind.i64 (↑k + 1), Value.pointer (some { block := g, off := off + (k + 1) * 7 }), Value.agg #[Value.int IntKind.i64 b.k, Value.int IntKind.i64 b.a, Value.int IntKind.i64 b.b, Value.int IntKind.i64 b.c, Value.int IntKind.i64 b.u, Value.int IntKind.i64 b.v, Value.int IntKind.i64 b.x], Value.int IntKind.i64 2, Value.bool false, undef, undef, undef, Value.int IntKind.i64 2, Value.bool false, undef, undef, undef, undef, undef, undef, undef, undef, undef, undef, undef, undef, undef, undef, undef, undef, undef, undef, undef, undef, undef, undef, undef, undef, undef, undef, undef, undef, undef, undef, undef, undef, undef, undef, undef, undef, undef, Value.int IntKind.i64 2, Value.bool true, v83, v84, v85, v86, v87, v88, v89, v90, v91, v92, v93, v94, v95, v96, v97, v98, v99, v100, v101, undef, undef, undef, undef, undef, undef, undef, undef, undef, undef, undef, undef, undef, undef, undef, undef, undef, undef, undef, undef, undef, undef, undef, undef, undef, undef, undef, undef, undef, undef, undef, undef, undef, undef], defers := [] } ∧ (listed.getD 0 false = true → v83 = .agg #[.int .i64 a.k, .int .i64 a.a, .int .i64 a.b, .int .i64 a.c, .int .i64 a.u, .int .i64 a.v, .int .i64 a.x]) ∧ (listed.getD 1 false = true → v84 = .int .i64 (sa)) ∧ (listed.getD 2 false = true → v85 = .bool true) ∧ (listed.getD 3 false = true → v86 = .bool true) ∧ (listed.getD 4 false = true → v87 = .agg #[.int .i64 b.k, .int .i64 b.a, .int .i64 b.b, .int .i64 b.c, .int .i64 b.u, .int .i64 b.v, .int .i64 b.x]) ∧ (listed.getD 5 false = true → v88 = .int .i64 (sb)) ∧ (listed.getD 6 false = true → v89 = .agg #[.int .i64 a.k, .int .i64 a.a, .int .i64 a.b, .int .i64 a.c, .int .i64 a.u, .int .i64 a.v, .int .i64 a.x]) ∧ (listed.getD 7 false = true → v90 = .int .i64 (sa)) ∧ (listed.getD 8 false = true → v91 = .bool false) ∧ (listed.getD 9 false = true → v92 = .bool false) ∧ (listed.getD 10 false = true → v93 = .bool false) ∧ (listed.getD 11 false = true → v94 = undef) ∧ (listed.getD 12 false = true → v95 = undef) ∧ (listed.getD 13 false = true → v96 = undef) ∧ (listed.getD 14 false = true → v97 = undef) ∧ (listed.getD 15 false = true → v98 = undef) ∧ (listed.getD 16 false = true → v99 = undef) ∧ (listed.getD 17 false = true → v100 = undef) ∧ (listed.getD 18 false = true → v101 = .bool false) ∧ (listed.getD 19 false = true → v6 = .bool false) ∧ Below W0.heap.size W0 wx) ?hs ?he _ _ _ _ ?st (by decide)
  case st =>
    refine ⟨by simp, undef, undef, undef, undef, undef, undef, undef, undef, undef, undef, undef, undef, undef, undef, undef, undef, undef, undef, undef, .bool false, rfl, ?_, ?_, ?_, ?_, ?_, ?_, ?_, ?_, ?_, ?_, ?_, ?_, ?_, ?_, ?_, ?_, ?_, ?_, ?_, ?_, (Below.refl _ _).drew⟩ <;> (intro e; exact absurd e (by decide))
  case hs =>
    rintro listed aq wx ⟨hz, v83, v84, v85, v86, v87, v88, v89, v90, v91, v92, v93, v94, v95, v96, v97, v98, v99, v100, v101, v6, rfl, hII⟩ i hi
    obtain ⟨h0, o, ho, hd⟩ := mem_ready.1 hi
    have hin : i < 20 := by
      have := (Array.getElem?_eq_some_iff.1 ho).1
      simpa using this
    have K0 := Lib.hid hII.1
    have K1 := Lib.hid hII.2.1
    have K2 := Lib.hid hII.2.2.1
    have K3 := Lib.hid hII.2.2.2.1
    have K4 := Lib.hid hII.2.2.2.2.1
    have K5 := Lib.hid hII.2.2.2.2.2.1
    have K6 := Lib.hid hII.2.2.2.2.2.2.1
    have K7 := Lib.hid hII.2.2.2.2.2.2.2.1
    have K8 := Lib.hid hII.2.2.2.2.2.2.2.2.1
    have K9 := Lib.hid hII.2.2.2.2.2.2.2.2.2.1
    have K10 := Lib.hid hII.2.2.2.2.2.2.2.2.2.2.1
    have K11 := Lib.hid hII.2.2.2.2.2.2.2.2.2.2.2.1
    have K12 := Lib.hid hII.2.2.2.2.2.2.2.2.2.2.2.2.1
    have K13 := Lib.hid hII.2.2.2.2.2.2.2.2.2.2.2.2.2.1
    have K14 := Lib.hid hII.2.2.2.2.2.2.2.2.2.2.2.2.2.2.1
    have K15 := Lib.hid hII.2.2.2.2.2.2.2.2.2.2.2.2.2.2.2.1
    have K16 := Lib.hid hII.2.2.2.2.2.2.2.2.2.2.2.2.2.2.2.2.1
    have K17 := Lib.hid hII.2.2.2.2.2.2.2.2.2.2.2.2.2.2.2.2.2.1
    have K18 := Lib.hid hII.2.2.2.2.2.2.2.2.2.2.2.2.2.2.2.2.2.2.1
    have K19 := Lib.hid hII.2.2.2.2.2.2.2.2.2.2.2.2.2.2.2.2.2.2.2.1
    have hne := Lib.hid (fun k (hk : i ≠ k) => @listed_ne listed i k hk)
    have hB : Below W0.heap.size W0 wx := hII.2.2.2.2.2.2.2.2.2.2.2.2.2.2.2.2.2.2.2.2
    have h0f : listed.getD i false = false := by rw [Array.getD_eq_getD_getElem?, getD_false h0]; rfl
    have hx1 : Has wx w.heap.size 63 #[.int .i64 a.k, .int .i64 a.a, .int .i64 a.b, .int .i64 a.c, .int .i64 a.u, .int .i64 a.v, .int .i64 a.x] := hh1'.out.kept hB
    have hx2 : Has wx (w.heap.size + 1) 63 #[.int .i64 b.k, .int .i64 b.a, .int .i64 b.b, .int .i64 b.c, .int .i64 b.u, .int .i64 b.v, .int .i64 b.x] := hh2.out.kept hB
    clear hII hi h0
    rcases (by omega : i = 0 ∨ i = 1 ∨ i = 2 ∨ i = 3 ∨ i = 4 ∨ i = 5 ∨ i = 6 ∨ i = 7 ∨ i = 8 ∨ i = 9 ∨ i = 10 ∨ i = 11 ∨ i = 12 ∨ i = 13 ∨ i = 14 ∨ i = 15 ∨ i = 16 ∨ i = 17 ∨ i = 18 ∨ i = 19) with rfl | rfl | rfl | rfl | rfl | rfl | rfl | rfl | rfl | rfl | rfl | rfl | rfl | rfl | rfl | rfl | rfl | rfl | rfl | rfl
    · cases ho
      have hx1c := hx1.cell
      refine wpOp_step rfl (fun K hK => ?_)
      go_simp
      refine hK _ _ ⟨by simpa using hz, .agg #[.int .i64 a.k, .int .i64 a.a, .int .i64 a.b, .int .i64 a.c, .int .i64 a.u, .int .i64 a.v, .int .i64 a.x], v84, v85, v86, v87, v88, v89, v90, v91, v92, v93, v94, v95, v96, v97, v98, v99, v100, v101, v6, rfl, ?_⟩
      exact ⟨fun _ => rfl, kn hne K1, kn hne K2, kn hne K3, kn hne K4, kn hne K5, kn hne K6, kn hne K7, kn hne K8, kn hne K9, kn hne K10, kn hne K11, kn hne K12, kn hne K13, kn hne K14, kn hne K15, kn hne K16, kn hne K17, kn hne K18, kn hne K19, hB⟩
    · cases ho
      have d0 := hd ⟨0, .data⟩ (by simp) rfl
      obtain rfl := K0.out d0
      refine wpOp_step rfl (fun K hK => ?_)
      go_simp
      go_at_call 93
      refine (cSa.out _).mono ?_
      rintro e w3 ⟨rfl, hb3⟩
      refine hK _ _ ⟨by simpa using hz, .agg #[.int .i64 a.k, .int .i64 a.a, .int .i64 a.b, .int .i64 a.c, .int .i64 a.u, .int .i64 a.v, .int .i64 a.x], .int .i64 (sa), v85, v86, v87, v88, v89, v90, v91, v92, v93, v94, v95, v96, v97, v98, v99, v100, v101, v6, rfl, ?_⟩
      exact ⟨kn hne K0, fun _ => rfl, kn hne K2, kn hne K3, kn hne K4, kn hne K5, kn hne K6, kn hne K7, kn hne K8, kn hne K9, kn hne K10, kn hne K11, kn hne K12, kn hne K13, kn hne K14, kn hne K15, kn hne K16, kn hne K17, kn hne K18, kn hne K19, hB.trans (hb3.mono hB.size)⟩
    · cases ho
      have d1 := hd ⟨1, .data⟩ (by simp) rfl
      obtain rfl := K1.out d1
      refine wpOp_step rfl (fun K hK => ?_)
      go_simp
      try rw [hs0]
      refine hK _ _ ⟨by simpa using hz, v83, .int .i64 (sa), .bool true, v86, v87, v88, v89, v90, v91, v92, v93, v94, v95, v96, v97, v98, v99, v100, v101, v6, rfl, ?_⟩
      exact ⟨kn hne K0, kn hne K1, fun _ => rfl, kn hne K3, kn hne K4, kn hne K5, kn hne K6, kn hne K7, kn hne K8, kn hne K9, kn hne K10, kn hne K11, kn hne K12, kn hne K13, kn hne K14, kn hne K15, kn hne K16, kn hne K17, kn hne K18, kn hne K19, hB⟩
    · cases ho
      have d2 := hd ⟨2, .data⟩ (by simp) rfl
      obtain rfl := K2.out d2
      refine wpOp_step rfl (fun K hK => ?_)
      go_simp
      refine hK _ _ ⟨by simpa using hz, v83, v84, .bool true, .bool true, v87, v88, v89, v90, v91, v92, v93, v94, v95, v96, v97, v98, v99, v100, v101, v6, rfl, ?_⟩
      exact ⟨kn hne K0, kn hne K1, kn hne K2, fun _ => rfl, kn hne K4, kn hne K5, kn hne K6, kn hne K7, kn hne K8, kn hne K9, kn hne K10, kn hne K11, kn hne K12, kn hne K13, kn hne K14, kn hne K15, kn hne K16, kn hne K17, kn hne K18, kn hne K19, hB⟩
    · cases ho
      have d3 := hd ⟨3, .guard⟩ (by simp) rfl
      obtain rfl := K3.out d3
      have hx2c := hx2.cell
      refine wpOp_step rfl (fun K hK => ?_)
      go_simp
      refine hK _ _ ⟨by simpa using hz, v83, v84, v85, .bool true, .agg #[.int .i64 b.k, .int .i64 b.a, .int .i64 b.b, .int .i64 b.c, .int .i64 b.u, .int .i64 b.v, .int .i64 b.x], v88, v89, v90, v91, v92, v93, v94, v95, v96, v97, v98, v99, v100, v101, v6, rfl, ?_⟩
      exact ⟨kn hne K0, kn hne K1, kn hne K2, kn hne K3, fun _ => rfl, kn hne K5, kn hne K6, kn hne K7, kn hne K8, kn hne K9, kn hne K10, kn hne K11, kn hne K12, kn hne K13, kn hne K14, kn hne K15, kn hne K16, kn hne K17, kn hne K18, kn hne K19, hB⟩
    · cases ho
      have d3 := hd ⟨3, .guard⟩ (by simp) rfl
      have d4 := hd ⟨4, .data⟩ (by simp) rfl
      obtain rfl := K3.out d3
      obtain rfl := K4.out d4
      refine wpOp_step rfl (fun K hK => ?_)
      go_simp
      go_at_call 93
      refine (cSb.out _).mono ?_
      rintro e w3 ⟨rfl, hb3⟩
      refine hK _ _ ⟨by simpa using hz, v83, v84, v85, .bool true, .agg #[.int .i64 b.k, .int .i64 b.a, .int .i64 b.b, .int .i64 b.c, .int .i64 b.u, .int .i64 b.v, .int .i64 b.x], .int .i64 (sb), v89, v90, v91, v92, v93, v94, v95, v96, v97, v98, v99, v100, v101, v6, rfl, ?_⟩
      exact ⟨kn hne K0, kn hne K1, kn hne K2, kn hne K3, kn hne K4, fun _ => rfl, kn hne K6, kn hne K7, kn hne K8, kn hne K9, kn hne K10, kn hne K11, kn hne K12, kn hne K13, kn hne K14, kn hne K15, kn hne K16, kn hne K17, kn hne K18, kn hne K19, hB.trans (hb3.mono hB.size)⟩
    · cases ho
      have d3 := hd ⟨3, .guard⟩ (by simp) rfl
      obtain rfl := K3.out d3
      have hx1c := hx1.cell
      refine wpOp_step rfl (fun K hK => ?_)
      go_simp
      refine hK _ _ ⟨by simpa using hz, v83, v84, v85, .bool true, v87, v88, .agg #[.int .i64 a.k, .int .i64 a.a, .int .i64 a.b, .int .i64 a.c, .int .i64 a.u, .int .i64 a.v, .int .i64 a.x], v90, v91, v92, v93, v94, v95, v96, v97, v98, v99, v100, v101, v6, rfl, ?_⟩
      exact ⟨kn hne K0, kn hne K1, kn hne K2, kn hne K3, kn hne K4, kn hne K5, fun _ => rfl, kn hne K7, kn hne K8, kn hne K9, kn hne K10, kn hne K11, kn hne K12, kn hne K13, kn hne K14, kn hne K15, kn hne K16, kn hne K17, kn hne K18, kn hne K19, hB⟩
    · cases ho
      have d3 := hd ⟨3, .guard⟩ (by simp) rfl
      have d6 := hd ⟨6, .data⟩ (by simp) rfl
      obtain rfl := K3.out d3
      obtain rfl := K6.out d6
      refine wpOp_step rfl (fun K hK => ?_)
      go_simp
      go_at_call 93
      refine (cSa.out _).mono ?_
      rintro e w3 ⟨rfl, hb3⟩
      refine hK _ _ ⟨by simpa using hz, v83, v84, v85, .bool true, v87, v88, .agg #[.int .i64 a.k, .int .i64 a.a, .int .i64 a.b, .int .i64 a.c, .int .i64 a.u, .int .i64 a.v, .int .i64 a.x], .int .i64 (sa), v91, v92, v93, v94, v95, v96, v97, v98, v99, v100, v101, v6, rfl, ?_⟩
      exact ⟨kn hne K0, kn hne K1, kn hne K2, kn hne K3, kn hne K4, kn hne K5, kn hne K6, fun _ => rfl, kn hne K8, kn hne K9, kn hne K10, kn hne K11, kn hne K12, kn hne K13, kn hne K14, kn hne K15, kn hne K16, kn hne K17, kn hne K18, kn hne K19, hB.trans (hb3.mono hB.size)⟩
    · cases ho
      have d3 := hd ⟨3, .guard⟩ (by simp) rfl
      have d5 := hd ⟨5, .data⟩ (by simp) rfl
      have d7 := hd ⟨7, .data⟩ (by simp) rfl
      obtain rfl := K3.out d3
      obtain rfl := K5.out d5
      obtain rfl := K7.out d7
      refine wpOp_step rfl (fun K hK => ?_)
      go_simp
      try rw [s1]
      refine hK _ _ ⟨by simpa using hz, v83, v84, v85, .bool true, v87, .int .i64 (sb), v89, .int .i64 (sa), .bool false, v92, v93, v94, v95, v96, v97, v98, v99, v100, v101, v6, rfl, ?_⟩
      exact ⟨kn hne K0, kn hne K1, kn hne K2, kn hne K3, kn hne K4, kn hne K5, kn hne K6, kn hne K7, fun _ => rfl, kn hne K9, kn hne K10, kn hne K11, kn hne K12, kn hne K13, kn hne K14, kn hne K15, kn hne K16, kn hne K17, kn hne K18, kn hne K19, hB⟩
    · cases ho
      have d3 := hd ⟨3, .data⟩ (by simp) rfl
      have d8 := hd ⟨8, .data⟩ (by simp) rfl
      obtain rfl := K3.out d3
      obtain rfl := K8.out d8
      refine wpOp_step rfl (fun K hK => ?_)
      go_simp
      refine hK _ _ ⟨by simpa using hz, v83, v84, v85, .bool true, v87, v88, v89, v90, .bool false, .bool false, v93, v94, v95, v96, v97, v98, v99, v100, v101, v6, rfl, ?_⟩
      exact ⟨kn hne K0, kn hne K1, kn hne K2, kn hne K3, kn hne K4, kn hne K5, kn hne K6, kn hne K7, kn hne K8, fun _ => rfl, kn hne K10, kn hne K11, kn hne K12, kn hne K13, kn hne K14, kn hne K15, kn hne K16, kn hne K17, kn hne K18, kn hne K19, hB⟩
    · cases ho
      have d9 := hd ⟨9, .data⟩ (by simp) rfl
      obtain rfl := K9.out d9
      refine wpOp_step rfl (fun K hK => ?_)
      go_simp
      refine hK _ _ ⟨by simpa using hz, v83, v84, v85, v86, v87, v88, v89, v90, v91, .bool false, .bool false, v94, v95, v96, v97, v98, v99, v100, v101, v6, rfl, ?_⟩
      exact ⟨kn hne K0, kn hne K1, kn hne K2, kn hne K3, kn hne K4, kn hne K5, kn hne K6, kn hne K7, kn hne K8, kn hne K9, fun _ => rfl, kn hne K11, kn hne K12, kn hne K13, kn hne K14, kn hne K15, kn hne K16, kn hne K17, kn hne K18, kn hne K19, hB⟩
    · cases ho
      have d10 := hd ⟨10, .guard⟩ (by simp) rfl
      obtain rfl := K10.out d10
      refine wpOp_step rfl (fun K hK => ?_)
      go_simp
      refine hK _ _ ⟨by simpa using hz, v83, v84, v85, v86, v87, v88, v89, v90, v91, v92, .bool false, undef, v95, v96, v97, v98, v99, v100, v101, v6, rfl, ?_⟩
      exact ⟨kn hne K0, kn hne K1, kn hne K2, kn hne K3, kn hne K4, kn hne K5, kn hne K6, kn hne K7, kn hne K8, kn hne K9, kn hne K10, fun _ => rfl, kn hne K12, kn hne K13, kn hne K14, kn hne K15, kn hne K16, kn hne K17, kn hne K18, kn hne K19, hB⟩
    · cases ho
      have d10 := hd ⟨10, .guard⟩ (by simp) rfl
      obtain rfl := K10.out d10
      refine wpOp_step rfl (fun K hK => ?_)
      go_simp
      refine hK _ _ ⟨by simpa using hz, v83, v84, v85, v86, v87, v88, v89, v90, v91, v92, .bool false, v94, undef, v96, v97, v98, v99, v100, v101, v6, rfl, ?_⟩
      exact ⟨kn hne K0, kn hne K1, kn hne K2, kn hne K3, kn hne K4, kn hne K5, kn hne K6, kn hne K7, kn hne K8, kn hne K9, kn hne K10, kn hne K11, fun _ => rfl, kn hne K13, kn hne K14, kn hne K15, kn hne K16, kn hne K17, kn hne K18, kn hne K19, hB⟩
    · cases ho
      have d10 := hd ⟨10, .guard⟩ (by simp) rfl
      obtain rfl := K10.out d10
      refine wpOp_step rfl (fun K hK => ?_)
      go_simp
      refine hK _ _ ⟨by simpa using hz, v83, v84, v85, v86, v87, v88, v89, v90, v91, v92, .bool false, v94, v95, undef, v97, v98, v99, v100, v101, v6, rfl, ?_⟩
      exact ⟨kn hne K0, kn hne K1, kn hne K2, kn hne K3, kn hne K4, kn hne K5, kn hne K6, kn hne K7, kn hne K8, kn hne K9, kn hne K10, kn hne K11, kn hne K12, fun _ => rfl, kn hne K14, kn hne K15, kn hne K16, kn hne K17, kn hne K18, kn hne K19, hB⟩
    · cases ho
      have d10 := hd ⟨10, .guard⟩ (by simp) rfl
      obtain rfl := K10.out d10
      refine wpOp_step rfl (fun K hK => ?_)
      go_simp
      refine hK _ _ ⟨by simpa using hz, v83, v84, v85, v86, v87, v88, v89, v90, v91, v92, .bool false, v94, v95, v96, undef, v98, v99, v100, v101, v6, rfl, ?_⟩
      exact ⟨kn hne K0, kn hne K1, kn hne K2, kn hne K3, kn hne K4, kn hne K5, kn hne K6, kn hne K7, kn hne K8, kn hne K9, kn hne K10, kn hne K11, kn hne K12, kn hne K13, fun _ => rfl, kn hne K15, kn hne K16, kn hne K17, kn hne K18, kn hne K19, hB⟩
    · cases ho
      have d10 := hd ⟨10, .guard⟩ (by simp) rfl
      obtain rfl := K10.out d10
      refine wpOp_step rfl (fun K hK => ?_)
      go_simp
      refine hK _ _ ⟨by simpa using hz, v83, v84, v85, v86, v87, v88, v89, v90, v91, v92, .bool false, v94, v95, v96, v97, undef, v99, v100, v101, v6, rfl, ?_⟩
      exact ⟨kn hne K0, kn hne K1, kn hne K2, kn hne K3, kn hne K4, kn hne K5, kn hne K6, kn hne K7, kn hne K8, kn hne K9, kn hne K10, kn hne K11, kn hne K12, kn hne K13, kn hne K14, fun _ => rfl, kn hne K16, kn hne K17, kn hne K18, kn hne K19, hB⟩
    · cases ho
      have d10 := hd ⟨10, .guard⟩ (by simp) rfl
      obtain rfl := K10.out d10
      refine wpOp_step rfl (fun K hK => ?_)
      go_simp
      refine hK _ _ ⟨by simpa using hz, v83, v84, v85, v86, v87, v88, v89, v90, v91, v92, .bool false, v94, v95, v96, v97, v98, undef, v100, v101, v6, rfl, ?_⟩
      exact ⟨kn hne K0, kn hne K1, kn hne K2, kn hne K3, kn hne K4, kn hne K5, kn hne K6, kn hne K7, kn hne K8, kn hne K9, kn hne K10, kn hne K11, kn hne K12, kn hne K13, kn hne K14, kn hne K15, fun _ => rfl, kn hne K17, kn hne K18, kn hne K19, hB⟩
    · cases ho
      have d10 := hd ⟨10, .guard⟩ (by simp) rfl
      obtain rfl := K10.out d10
      refine wpOp_step rfl (fun K hK => ?_)
      go_simp
      refine hK _ _ ⟨by simpa using hz, v83, v84, v85, v86, v87, v88, v89, v90, v91, v92, .bool false, v94, v95, v96, v97, v98, v99, undef, v101, v6, rfl, ?_⟩
      exact ⟨kn hne K0, kn hne K1, kn hne K2, kn hne K3, kn hne K4, kn hne K5, kn hne K6, kn hne K7, kn hne K8, kn hne K9, kn hne K10, kn hne K11, kn hne K12, kn hne K13, kn hne K14, kn hne K15, kn hne K16, fun _ => rfl, kn hne K18, kn hne K19, hB⟩
    · cases ho
      have d10 := hd ⟨10, .data⟩ (by simp) rfl
      have d17 := hd ⟨17, .data⟩ (by simp) rfl
      obtain rfl := K10.out d10
      obtain rfl := K17.out d17
      refine wpOp_step rfl (fun K hK => ?_)
      go_simp
      refine hK _ _ ⟨by simpa using hz, v83, v84, v85, v86, v87, v88, v89, v90, v91, v92, .bool false, v94, v95, v96, v97, v98, v99, undef, .bool false, v6, rfl, ?_⟩
      exact ⟨kn hne K0, kn hne K1, kn hne K2, kn hne K3, kn hne K4, kn hne K5, kn hne K6, kn hne K7, kn hne K8, kn hne K9, kn hne K10, kn hne K11, kn hne K12, kn hne K13, kn hne K14, kn hne K15, kn hne K16, kn hne K17, fun _ => rfl, kn hne K19, hB⟩
    · cases ho
      have d18 := hd ⟨18, .data⟩ (by simp) rfl
      obtain rfl := K18.out d18
      refine wpOp_step rfl (fun K hK => ?_)
      go_simp
      refine hK _ _ ⟨by simpa using hz, v83, v84, v85, v86, v87, v88, v89, v90, v91, v92, v93, v94, v95, v96, v97, v98, v99, v100, .bool false, .bool false, rfl, ?_⟩
      exact ⟨kn hne K0, kn hne K1, kn hne K2, kn hne K3, kn hne K4, kn hne K5, kn hne K6, kn hne K7, kn hne K8, kn hne K9, kn hne K10, kn hne K11, kn hne K12, kn hne K13, kn hne K14, kn hne K15, kn hne K16, kn hne K17, kn hne K18, fun _ => rfl, hB⟩
  case he =>
    rintro listed aq wx ⟨hz, v83, v84, v85, v86, v87, v88, v89, v90, v91, v92, v93, v94, v95, v96, v97, v98, v99, v100, v101, v6, rfl, hI⟩ hr
    have hall := ready_done hz (by kernel_rfl) hr
    obtain rfl := hI.2.2.2.2.2.2.2.2.2.2.2.2.2.2.2.2.2.2.2.1 (hall 19 (by decide))
    have hB7 := Lib.hid (hB2.out.trans ((show Below W0.heap.size W0 wx from hI.2.2.2.2.2.2.2.2.2.2.2.2.2.2.2.2.2.2.2.2).mono (by have := hzz.out; omega)))
    clear hI hall hr hz
    go_wp2_with fail
    go_ret
    exact ⟨ret_bool hR.out, hB7.out⟩
end Go.Proofs.Ytkggejmamhakaaa
