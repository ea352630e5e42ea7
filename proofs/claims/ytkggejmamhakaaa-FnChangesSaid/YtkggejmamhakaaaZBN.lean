/- Parts of the proof: Q7. -/
import Derived.Test.YtkggejmamhakaaaZBB
import Derived.Test.YtkggejmamhakaaaZBJ
namespace Go.Proofs.Ytkggejmamhakaaa
set_option maxRecDepth 100000
set_option linter.unusedVariables false
open Go.RowKit
set_option maxHeartbeats 16000000 in
theorem l6Ok_45 (A : Option Addr) (n cap k : Nat) (ps : List St) (a b : St) (w : World) (h : Lst w w.heap.size A n ps) (hn : n ≤ 1048576) (ha : ps[k]? = some a) (hoa : a.ok = true ∧ a.k < 6) (q0 : (a.k == 0) = true) (q1 : a.b < 0) (q2 : ((b.reads / 2 ^ a.a.toNat).tmod 2 == 1) = true) (q3 : (b.k == 3) = false) (q4 : (b.k == 5) = true) (hb : ps[k + 1]? = some b) (hobb : b.ok = true ∧ b.k < 6) :
    Calls Try.prog 60 #[.slice A n cap, .int .i64 4, .int .i64 (k : Int)] w fun e w' => e = .returned (.bool (fits 4 a (some b))) ∧ Below w.heap.size w w' := by
  have hk : k < n := by have := (List.getElem?_eq_some_iff.1 ha).1; have := h.1; omega
  obtain ⟨g, off, s0, rfl, hg, hs0, hat⟩ := h.at_ hk
  obtain rfl : a = s0 := by rw [ha] at hs0; injection hs0
  obtain ⟨c0, c1, c2, c3, c4, c5, c6⟩ := hat.open_
  have hk0 : (0 : Int) ≤ (k : Int) := by omega
  have hk1 : (k : Int) < (n : Int) := by omega
  have hwa := ok_wsm hoa.1 hoa.2
  have h1 := Has.new w 63 #[.int .i64 a.k, .int .i64 a.a, .int .i64 a.b, .int .i64 a.c, .int .i64 a.u, .int .i64 a.v, .int .i64 a.x]
  have hh1 := Lib.hid h1
  have hB := Lib.hid (show Below w.heap.size w (w.alloc (.cells #[.int .i64 a.k, .int .i64 a.a, .int .i64 a.b, .int .i64 a.c, .int .i64 a.u, .int .i64 a.v, .int .i64 a.x] 63)) from (Below.refl _ _).alloc (Nat.le_refl _) _)
  have hk' : k + 1 < n := by have := (List.getElem?_eq_some_iff.1 hb).1; have := h.1; omega
  obtain ⟨g', off', s1, e, _, hs1, hat1⟩ := h.at_ hk'
  obtain ⟨rfl, rfl⟩ : g = g' ∧ off = off' := by injection e with e; injection e with e1 e2; exact ⟨e1, e2⟩
  obtain rfl : b = s1 := by rw [hb] at hs1; injection hs1
  obtain ⟨d0, d1, d2, d3, d4, d5, d6⟩ := hat1.open_
  have hwb := ok_wsm hobb.1 hobb.2
  have ge : ((k : Int) + 1 == (n : Int)) = false := by simp; omega
  have hk2 : (k : Int) + 1 < (n : Int) := by omega
  have h1' := h1.alloc (.cells #[.int .i64 b.k, .int .i64 b.a, .int .i64 b.b, .int .i64 b.c, .int .i64 b.u, .int .i64 b.v, .int .i64 b.x] 63)
  have h2 := (Has.newAt (w := w.alloc (.cells #[.int .i64 a.k, .int .i64 a.a, .int .i64 a.b, .int .i64 a.c, .int .i64 a.u, .int .i64 a.v, .int .i64 a.x] 63)) (n := w.heap.size + 1) (t := 63) (cs := #[.int .i64 b.k, .int .i64 b.a, .int .i64 b.b, .int .i64 b.c, .int .i64 b.u, .int .i64 b.v, .int .i64 b.x]) (by simp))
  have hB2 := Lib.hid (show Below w.heap.size w ((w.alloc (.cells #[.int .i64 a.k, .int .i64 a.a, .int .i64 a.b, .int .i64 a.c, .int .i64 a.u, .int .i64 a.v, .int .i64 a.x] 63)).alloc (.cells #[.int .i64 b.k, .int .i64 b.a, .int .i64 b.b, .int .i64 b.c, .int .i64 b.u, .int .i64 b.v, .int .i64 b.x] 63)) from ((Below.refl _ _).alloc (Nat.le_refl _) _).alloc (by simp) _)
  have cA := Lib.hid (fun wx => l6Apart_any a b wx hoa.1 hobb.1)
  have cPr := Lib.hid (fun wx => l6Product_any a b wx hwa hwb)
  have r0 := Lib.hid (fits0 (a := a) (b := b) hoa.2 hobb.2)
  have r1 := Lib.hid (fits1 (a := a) (b := b))
  have r2 := Lib.hid (fits2 hoa.1 hoa.2 hobb.1 hobb.2)
  have r4 := Lib.hid (fits4 hoa.1 hoa.2 hobb.1 hobb.2)
  have hbA := a_bd hoa.1 hoa.2
  have hbS := sets_bd a hoa.1
  have hbR := reads_bd b
  have e1 := h1'.cell
  have e2 := h2.cell
  have hz2 : ((w.alloc (.cells #[.int .i64 a.k, .int .i64 a.a, .int .i64 a.b, .int .i64 a.c, .int .i64 a.u, .int .i64 a.v, .int .i64 a.x] 63)).alloc (.cells #[.int .i64 b.k, .int .i64 b.a, .int .i64 b.b, .int .i64 b.c, .int .i64 b.u, .int .i64 b.v, .int .i64 b.x] 63)).heap.size = w.heap.size + 2 := by simp
  have hzz := Lib.hid hz2
  have hh2 := Lib.hid h2
  have hh1' := Lib.hid h1'
  clear h hat hs0 ha hb hs1 hat1 e h1 h1' h2 hz2 hwa hwb hobb hoa
  have cSa : Hid (∀ wx : World, Calls Try.prog 93 #[.agg #[.int .i64 a.k, .int .i64 a.a, .int .i64 a.b, .int .i64 a.c, .int .i64 a.u, .int .i64 a.v, .int .i64 a.x]] wx fun e w' => e = .returned (.int .i64 a.sets) ∧ Below wx.heap.size wx w') := Lib.hid (fun wx => specStmtSets_any a.k a.a a.b a.c a.u a.v a.x wx)
  have cSb : Hid (∀ wx : World, Calls Try.prog 93 #[.agg #[.int .i64 b.k, .int .i64 b.a, .int .i64 b.b, .int .i64 b.c, .int .i64 b.u, .int .i64 b.v, .int .i64 b.x]] wx fun e w' => e = .returned (.int .i64 b.sets) ∧ Below wx.heap.size wx w') := Lib.hid (fun wx => specStmtSets_any b.k b.a b.b b.c b.u b.v b.x wx)
  have cRb : Hid (∀ wx : World, Calls Try.prog 94 #[.agg #[.int .i64 b.k, .int .i64 b.a, .int .i64 b.b, .int .i64 b.c, .int .i64 b.u, .int .i64 b.v, .int .i64 b.x]] wx fun e w' => e = .returned (.int .i64 b.reads) ∧ Below wx.heap.size wx w') := Lib.hid (fun wx => specStmtReads_any b.k b.a b.b b.c b.u b.v b.x wx)
  clear r0 r1 cA cPr cSa cSb
  have hS0 := hbS.1
  have hS1 := hbS.2
  have hR0 := hbR.1
  have hR1 := hbR.2
  clear hbS hbR
  have hX : fits 4 a (some b) = ((a.k == 0) && decide (a.b < 0) && ((b.reads / 2 ^ a.a.toNat).tmod 2 == 1) && ((b.k == 3) || (b.k == 5)) && (b.b == a.a)) := r4.out
  have hbA0 := hbA.1
  have hbA1 := hbA.2
  clear r2 r4 hbA
  generalize b.reads = rb at *
  have hq1 : decide (a.b < 0) = true := decide_eq_true q1
  have hR := Lib.hid (show fits 4 a (some b) = (b.b == a.a) by rw [hX, q0, hq1, q2, q3, q4]; rfl)
  clear hX
  go_enter Try.func60, Try.ntmps60
  go_wp2_with fail
  generalize ((w.alloc (.cells #[.int .i64 a.k, .int .i64 a.a, .int .i64 a.b, .int .i64 a.c, .int .i64 a.u, .int .i64 a.v, .int .i64 a.x] 63)).alloc (.cells #[.int .i64 b.k, .int .i64 b.a, .int .i64 b.b, .int .i64 b.c, .int .i64 b.u, .int .i64 b.v, .int .i64 b.x] 63)) = W0 at hh1' hh2 hB2 hzz e1 e2 ⊢
  clear e1 e2
  refine wp_region_any (by kernel_rfl) ?_
  change wpAny _ _ _ _ _ _ _ (World.drew _)
  refine wpAny_inv (I := fun listed aq wx => listed.size = 35 ∧ ∃ v102 v103 v104 v105 v106 v107 v108 v109 v110 v111 v112 v113 v114 v115 v116 v117 v118 v119 v120 v121 v122 v123 v124 v125 v126 v127 v128 v129 v130 v131 v132 v133 v134 v135 v6 : Value, aq = { tmps := #[Value.slice (some { block := g, off := off }) n cap, Value.int IntKind.i64 4, Value.int IntKind.i64 ↑k, undef, undef, undef, v6, Value.pointer (some { block := w.heap.size, off := 0 }), Value.pointer (some { block := w.heap.size + 1, off := 0 }), undef, undef, undef, Value.slice (some { block := g, off := off }) n cap, Value.int IntKind.i64 ↑k, Value.pointer (some { block := g, off := off + k * 7 }), Value.agg #[Value.int IntKind.i64 a.k, Value.int IntKind.i64 a.a, Value.int IntKind.i64 a.b, Value.int IntKind.i64 a.c, Value.int IntKind.i64 a.u, Value.int IntKind.i64 a.v, Value.int IntKind.i64 a.x], Value.int IntKind.i64 4, Value.bool false, undef, undef, undef, undef, undef, undef, undef, undef, undef, Value.int IntKind.i64 ↑k, Value.int IntKind.i64 (↑k + 1), Value.slice (some { block := g, off := off }) n cap, Value.int IntKind.i64 ↑n, Value.bool false, Value.slice (some { block := g, off := off }) n cap, Value.int IntKind.i64 ↑k, Value.int IntKind.i64 (↑k + 1), Value.pointer (some { block := g, off := off + (k + 1) * 7 }), Value.agg #[Value.int IntKind.i64 b.k, Value.int IntKind.i64 b.a, Value.int IntKind.i64 b.b, Value.int IntKind.i64 b.c, Value.int IntKind.i64 b.u, Value.int IntKind.i64 b.v, Value.int IntKind.i64 b.x], Value.int IntKind.i64 4, Value.bool false, undef, undef, undef, Value.int IntKind.i64 4, Value.bool false, undef, undef, undef, undef, undef, undef, undef, undef, undef, undef, undef, undef, undef, undef, undef, undef, undef, undef, undef, undef, undef, undef, undef, undef, undef, undef, undef, undef, undef, undef, undef, undef, undef, undef, undef, undef, undef, Value.int IntKind.i64 4, Value.bool false, undef, undef, undef, undef, undef, undef, undef, undef, undef, undef, undef, undef, undef, undef, undef, undef, undef, undef, undef, v102, v103, v104, v105, v106, v107, v108, v109, v110, v111, v112, v113, v114, v115, v116, v117, v118, v119, v120, v121, v122, v123, v124, v125, v126, v127, v128, v129, v130, v131, v132, v133, v134, v135], defers := [] } ∧ (listed.getD 0 false = true → v102 = .pointer (some ⟨w.heap.size, 0, none⟩)) ∧ (listed.getD 1 false = true → v103 = .int .i64 (a.k)) ∧ (listed.getD 2 false = true → v104 = .bool true) ∧ (listed.getD 3 false = true → v105 = .bool true) ∧ (listed.getD 4 false = true → v106 = .pointer (some ⟨w.heap.size, 2, none⟩)) ∧ (listed.getD 5 false = true → v107 = .int .i64 (a.b)) ∧ (listed.getD 6 false = true → v108 = .bool true) ∧ (listed.getD 7 false = true → v109 = .bool true) ∧ (listed.getD 8 false = true → v110 = .bool true) ∧ (listed.getD 9 false = true → v111 = .agg #[.int .i64 b.k, .int .i64 b.a, .int .i64 b.b, .int .i64 b.c, .int .i64 b.u, .int .i64 b.v, .int .i64 b.x]) ∧ (listed.getD 10 false = true → v112 = .int .i64 (rb)) ∧ (listed.getD 11 false = true → v113 = .pointer (some ⟨w.heap.size, 1, none⟩)) ∧ (listed.getD 12 false = true → v114 = .int .i64 (a.a)) ∧ (listed.getD 13 false = true → v115 = .int .i64 (rb / 2 ^ a.a.toNat)) ∧ (listed.getD 14 false = true → v116 = .int .i64 ((rb / 2 ^ a.a.toNat).tmod 2)) ∧ (listed.getD 15 false = true → v117 = .bool true) ∧ (listed.getD 16 false = true → v118 = .bool true) ∧ (listed.getD 17 false = true → v119 = .bool true) ∧ (listed.getD 18 false = true → v120 = .pointer (some ⟨w.heap.size + 1, 0, none⟩)) ∧ (listed.getD 19 false = true → v121 = .int .i64 (b.k)) ∧ (listed.getD 20 false = true → v122 = .bool false) ∧ (listed.getD 21 false = true → v123 = .bool false) ∧ (listed.getD 22 false = true → v124 = .pointer (some ⟨w.heap.size + 1, 0, none⟩)) ∧ (listed.getD 23 false = true → v125 = .int .i64 (b.k)) ∧ (listed.getD 24 false = true → v126 = .bool true) ∧ (listed.getD 25 false = true → v127 = .bool true) ∧ (listed.getD 26 false = true → v128 = .bool true) ∧ (listed.getD 27 false = true → v129 = .bool true) ∧ (listed.getD 28 false = true → v130 = .pointer (some ⟨w.heap.size + 1, 2, none⟩)) ∧ (listed.getD 29 false = true → v131 = .int .i64 (b.b)) ∧ (listed.getD 30 false = true → v132 = .pointer (some ⟨w.heap.size, 1, none⟩)) ∧ (listed.getD 31 false = true → v133 = .int .i64 (a.a)) ∧ (listed.getD 32 false = true → v134 = .bool (b.b == a.a)) ∧ (listed.getD 33 false = true → v135 = .bool (b.b == a.a)) ∧ (listed.getD 34 false = true → v6 = .bool (b.b == a.a)) ∧ Below W0.heap.size W0 wx) ?hs ?he _ _ _ _ ?st (by decide)
  case st =>
    refine ⟨by simp, undef, undef, undef, undef, undef, undef, undef, undef, undef, undef, undef, undef, undef, undef, undef, undef, undef, undef, undef, undef, undef, undef, undef, undef, undef, undef, undef, undef, undef, undef, undef, undef, undef, undef, .bool false, rfl, ?_, ?_, ?_, ?_, ?_, ?_, ?_, ?_, ?_, ?_, ?_, ?_, ?_, ?_, ?_, ?_, ?_, ?_, ?_, ?_, ?_, ?_, ?_, ?_, ?_, ?_, ?_, ?_, ?_, ?_, ?_, ?_, ?_, ?_, ?_, (Below.refl _ _).drew⟩ <;> (intro e; exact absurd e (by decide))
  case hs =>
    rintro listed aq wx ⟨hz, v102, v103, v104, v105, v106, v107, v108, v109, v110, v111, v112, v113, v114, v115, v116, v117, v118, v119, v120, v121, v122, v123, v124, v125, v126, v127, v128, v129, v130, v131, v132, v133, v134, v135, v6, rfl, hII⟩ i hi
    obtain ⟨h0, o, ho, hd⟩ := mem_ready.1 hi
    have hin : i < 35 := by
      have := (Array.getElem?_eq_some_iff.1 ho).1
      simpa using this
    have K0 := Lib.hid hII.1
    have K1 := Lib.hid hII.2.1
    have K2 := Lib.hid hII.2.2.1
    have K3 := Lib.hid hII.2.2.2.1
    have K4 := Lib.hid hII.2.2.2.2.1
    have K5 := Lib.hid hII.2.2.2.2.2.1
    have K6 := Lib.hid hII.2.2.2.2.2.2.1
    have K7 := Lib.hid hII.2.2.2.2.2.2.2.1
    have K8 := Lib.hid hII.2.2.2.2.2.2.2.2.1
    have K9 := Lib.hid hII.2.2.2.2.2.2.2.2.2.1
    have K10 := Lib.hid hII.2.2.2.2.2.2.2.2.2.2.1
    have K11 := Lib.hid hII.2.2.2.2.2.2.2.2.2.2.2.1
    have K12 := Lib.hid hII.2.2.2.2.2.2.2.2.2.2.2.2.1
    have K13 := Lib.hid hII.2.2.2.2.2.2.2.2.2.2.2.2.2.1
    have K14 := Lib.hid hII.2.2.2.2.2.2.2.2.2.2.2.2.2.2.1
    have K15 := Lib.hid hII.2.2.2.2.2.2.2.2.2.2.2.2.2.2.2.1
    have K16 := Lib.hid hII.2.2.2.2.2.2.2.2.2.2.2.2.2.2.2.2.1
    have K17 := Lib.hid hII.2.2.2.2.2.2.2.2.2.2.2.2.2.2.2.2.2.1
    have K18 := Lib.hid hII.2.2.2.2.2.2.2.2.2.2.2.2.2.2.2.2.2.2.1
    have K19 := Lib.hid hII.2.2.2.2.2.2.2.2.2.2.2.2.2.2.2.2.2.2.2.1
    have K20 := Lib.hid hII.2.2.2.2.2.2.2.2.2.2.2.2.2.2.2.2.2.2.2.2.1
    have K21 := Lib.hid hII.2.2.2.2.2.2.2.2.2.2.2.2.2.2.2.2.2.2.2.2.2.1
    have K22 := Lib.hid hII.2.2.2.2.2.2.2.2.2.2.2.2.2.2.2.2.2.2.2.2.2.2.1
    have K23 := Lib.hid hII.2.2.2.2.2.2.2.2.2.2.2.2.2.2.2.2.2.2.2.2.2.2.2.1
    have K24 := Lib.hid hII.2.2.2.2.2.2.2.2.2.2.2.2.2.2.2.2.2.2.2.2.2.2.2.2.1
    have K25 := Lib.hid hII.2.2.2.2.2.2.2.2.2.2.2.2.2.2.2.2.2.2.2.2.2.2.2.2.2.1
    have K26 := Lib.hid hII.2.2.2.2.2.2.2.2.2.2.2.2.2.2.2.2.2.2.2.2.2.2.2.2.2.2.1
    have K27 := Lib.hid hII.2.2.2.2.2.2.2.2.2.2.2.2.2.2.2.2.2.2.2.2.2.2.2.2.2.2.2.1
    have K28 := Lib.hid hII.2.2.2.2.2.2.2.2.2.2.2.2.2.2.2.2.2.2.2.2.2.2.2.2.2.2.2.2.1
    have K29 := Lib.hid hII.2.2.2.2.2.2.2.2.2.2.2.2.2.2.2.2.2.2.2.2.2.2.2.2.2.2.2.2.2.1
    have K30 := Lib.hid hII.2.2.2.2.2.2.2.2.2.2.2.2.2.2.2.2.2.2.2.2.2.2.2.2.2.2.2.2.2.2.1
    have K31 := Lib.hid hII.2.2.2.2.2.2.2.2.2.2.2.2.2.2.2.2.2.2.2.2.2.2.2.2.2.2.2.2.2.2.2.1
    have K32 := Lib.hid hII.2.2.2.2.2.2.2.2.2.2.2.2.2.2.2.2.2.2.2.2.2.2.2.2.2.2.2.2.2.2.2.2.1
    have K33 := Lib.hid hII.2.2.2.2.2.2.2.2.2.2.2.2.2.2.2.2.2.2.2.2.2.2.2.2.2.2.2.2.2.2.2.2.2.1
    have K34 := Lib.hid hII.2.2.2.2.2.2.2.2.2.2.2.2.2.2.2.2.2.2.2.2.2.2.2.2.2.2.2.2.2.2.2.2.2.2.1
    have hne := Lib.hid (fun k (hk : i ≠ k) => @listed_ne listed i k hk)
    have hB : Below W0.heap.size W0 wx := hII.2.2.2.2.2.2.2.2.2.2.2.2.2.2.2.2.2.2.2.2.2.2.2.2.2.2.2.2.2.2.2.2.2.2.2
    have h0f : listed.getD i false = false := by rw [Array.getD_eq_getD_getElem?, getD_false h0]; rfl
    have hx1 : Has wx w.heap.size 63 #[.int .i64 a.k, .int .i64 a.a, .int .i64 a.b, .int .i64 a.c, .int .i64 a.u, .int .i64 a.v, .int .i64 a.x] := hh1'.out.kept hB
    have hx2 : Has wx (w.heap.size + 1) 63 #[.int .i64 b.k, .int .i64 b.a, .int .i64 b.b, .int .i64 b.c, .int .i64 b.u, .int .i64 b.v, .int .i64 b.x] := hh2.out.kept hB
    clear hII hi h0
    rcases (by omega : i = 0 ∨ i = 1 ∨ i = 2 ∨ i = 3 ∨ i = 4 ∨ i = 5 ∨ i = 6 ∨ i = 7 ∨ i = 8 ∨ i = 9 ∨ i = 10 ∨ i = 11 ∨ i = 12 ∨ i = 13 ∨ i = 14 ∨ i = 15 ∨ i = 16 ∨ i = 17 ∨ i = 18 ∨ i = 19 ∨ i = 20 ∨ i = 21 ∨ i = 22 ∨ i = 23 ∨ i = 24 ∨ i = 25 ∨ i = 26 ∨ i = 27 ∨ i = 28 ∨ i = 29 ∨ i = 30 ∨ i = 31 ∨ i = 32 ∨ i = 33 ∨ i = 34) with rfl | rfl | rfl | rfl | rfl | rfl | rfl | rfl | rfl | rfl | rfl | rfl | rfl | rfl | rfl | rfl | rfl | rfl | rfl | rfl | rfl | rfl | rfl | rfl | rfl | rfl | rfl | rfl | rfl | rfl | rfl | rfl | rfl | rfl | rfl
    · cases ho
      refine wpOp_step rfl (fun K hK => ?_)
      go_simp
      refine hK _ _ ⟨by simpa using hz, .pointer (some ⟨w.heap.size, 0, none⟩), v103, v104, v105, v106, v107, v108, v109, v110, v111, v112, v113, v114, v115, v116, v117, v118, v119, v120, v121, v122, v123, v124, v125, v126, v127, v128, v129, v130, v131, v132, v133, v134, v135, v6, rfl, ?_⟩
      exact ⟨fun _ => rfl, kn hne K1, kn hne K2, kn hne K3, kn hne K4, kn hne K5, kn hne K6, kn hne K7, kn hne K8, kn hne K9, kn hne K10, kn hne K11, kn hne K12, kn hne K13, kn hne K14, kn hne K15, kn hne K16, kn hne K17, kn hne K18, kn hne K19, kn hne K20, kn hne K21, kn hne K22, kn hne K23, kn hne K24, kn hne K25, kn hne K26, kn hne K27, kn hne K28, kn hne K29, kn hne K30, kn hne K31, kn hne K32, kn hne K33, kn hne K34, hB⟩
    · cases ho
      have d0 := hd ⟨0, .data⟩ (by simp) rfl
      obtain rfl := K0.out d0
      have hx1c := hx1.cell
      refine wpOp_step rfl (fun K hK => ?_)
      go_simp
      refine hK _ _ ⟨by simpa using hz, .pointer (some ⟨w.heap.size, 0, none⟩), .int .i64 (a.k), v104, v105, v106, v107, v108, v109, v110, v111, v112, v113, v114, v115, v116, v117, v118, v119, v120, v121, v122, v123, v124, v125, v126, v127, v128, v129, v130, v131, v132, v133, v134, v135, v6, rfl, ?_⟩
      exact ⟨kn hne K0, fun _ => rfl, kn hne K2, kn hne K3, kn hne K4, kn hne K5, kn hne K6, kn hne K7, kn hne K8, kn hne K9, kn hne K10, kn hne K11, kn hne K12, kn hne K13, kn hne K14, kn hne K15, kn hne K16, kn hne K17, kn hne K18, kn hne K19, kn hne K20, kn hne K21, kn hne K22, kn hne K23, kn hne K24, kn hne K25, kn hne K26, kn hne K27, kn hne K28, kn hne K29, kn hne K30, kn hne K31, kn hne K32, kn hne K33, kn hne K34, hB⟩
    · cases ho
      have d1 := hd ⟨1, .data⟩ (by simp) rfl
      obtain rfl := K1.out d1
      refine wpOp_step rfl (fun K hK => ?_)
      go_simp
      try rw [q0]
      refine hK _ _ ⟨by simpa using hz, v102, .int .i64 (a.k), .bool true, v105, v106, v107, v108, v109, v110, v111, v112, v113, v114, v115, v116, v117, v118, v119, v120, v121, v122, v123, v124, v125, v126, v127, v128, v129, v130, v131, v132, v133, v134, v135, v6, rfl, ?_⟩
      exact ⟨kn hne K0, kn hne K1, fun _ => rfl, kn hne K3, kn hne K4, kn hne K5, kn hne K6, kn hne K7, kn hne K8, kn hne K9, kn hne K10, kn hne K11, kn hne K12, kn hne K13, kn hne K14, kn hne K15, kn hne K16, kn hne K17, kn hne K18, kn hne K19, kn hne K20, kn hne K21, kn hne K22, kn hne K23, kn hne K24, kn hne K25, kn hne K26, kn hne K27, kn hne K28, kn hne K29, kn hne K30, kn hne K31, kn hne K32, kn hne K33, kn hne K34, hB⟩
    · cases ho
      have d2 := hd ⟨2, .data⟩ (by simp) rfl
      obtain rfl := K2.out d2
      refine wpOp_step rfl (fun K hK => ?_)
      go_simp
      refine hK _ _ ⟨by simpa using hz, v102, v103, .bool true, .bool true, v106, v107, v108, v109, v110, v111, v112, v113, v114, v115, v116, v117, v118, v119, v120, v121, v122, v123, v124, v125, v126, v127, v128, v129, v130, v131, v132, v133, v134, v135, v6, rfl, ?_⟩
      exact ⟨kn hne K0, kn hne K1, kn hne K2, fun _ => rfl, kn hne K4, kn hne K5, kn hne K6, kn hne K7, kn hne K8, kn hne K9, kn hne K10, kn hne K11, kn hne K12, kn hne K13, kn hne K14, kn hne K15, kn hne K16, kn hne K17, kn hne K18, kn hne K19, kn hne K20, kn hne K21, kn hne K22, kn hne K23, kn hne K24, kn hne K25, kn hne K26, kn hne K27, kn hne K28, kn hne K29, kn hne K30, kn hne K31, kn hne K32, kn hne K33, kn hne K34, hB⟩
    · cases ho
      have d3 := hd ⟨3, .guard⟩ (by simp) rfl
      obtain rfl := K3.out d3
      refine wpOp_step rfl (fun K hK => ?_)
      go_simp
      refine hK _ _ ⟨by simpa using hz, v102, v103, v104, .bool true, .pointer (some ⟨w.heap.size, 2, none⟩), v107, v108, v109, v110, v111, v112, v113, v114, v115, v116, v117, v118, v119, v120, v121, v122, v123, v124, v125, v126, v127, v128, v129, v130, v131, v132, v133, v134, v135, v6, rfl, ?_⟩
      exact ⟨kn hne K0, kn hne K1, kn hne K2, kn hne K3, fun _ => rfl, kn hne K5, kn hne K6, kn hne K7, kn hne K8, kn hne K9, kn hne K10, kn hne K11, kn hne K12, kn hne K13, kn hne K14, kn hne K15, kn hne K16, kn hne K17, kn hne K18, kn hne K19, kn hne K20, kn hne K21, kn hne K22, kn hne K23, kn hne K24, kn hne K25, kn hne K26, kn hne K27, kn hne K28, kn hne K29, kn hne K30, kn hne K31, kn hne K32, kn hne K33, kn hne K34, hB⟩
    · cases ho
      have d3 := hd ⟨3, .guard⟩ (by simp) rfl
      have d4 := hd ⟨4, .data⟩ (by simp) rfl
      obtain rfl := K3.out d3
      obtain rfl := K4.out d4
      have hx1c := hx1.cell
      refine wpOp_step rfl (fun K hK => ?_)
      go_simp
      refine hK _ _ ⟨by simpa using hz, v102, v103, v104, .bool true, .pointer (some ⟨w.heap.size, 2, none⟩), .int .i64 (a.b), v108, v109, v110, v111, v112, v113, v114, v115, v116, v117, v118, v119, v120, v121, v122, v123, v124, v125, v126, v127, v128, v129, v130, v131, v132, v133, v134, v135, v6, rfl, ?_⟩
      exact ⟨kn hne K0, kn hne K1, kn hne K2, kn hne K3, kn hne K4, fun _ => rfl, kn hne K6, kn hne K7, kn hne K8, kn hne K9, kn hne K10, kn hne K11, kn hne K12, kn hne K13, kn hne K14, kn hne K15, kn hne K16, kn hne K17, kn hne K18, kn hne K19, kn hne K20, kn hne K21, kn hne K22, kn hne K23, kn hne K24, kn hne K25, kn hne K26, kn hne K27, kn hne K28, kn hne K29, kn hne K30, kn hne K31, kn hne K32, kn hne K33, kn hne K34, hB⟩
    · cases ho
      have d3 := hd ⟨3, .guard⟩ (by simp) rfl
      have d5 := hd ⟨5, .data⟩ (by simp) rfl
      obtain rfl := K3.out d3
      obtain rfl := K5.out d5
      refine wpOp_step rfl (fun K hK => ?_)
      go_simp
      try rw [hq1]
      refine hK _ _ ⟨by simpa using hz, v102, v103, v104, .bool true, v106, .int .i64 (a.b), .bool true, v109, v110, v111, v112, v113, v114, v115, v116, v117, v118, v119, v120, v121, v122, v123, v124, v125, v126, v127, v128, v129, v130, v131, v132, v133, v134, v135, v6, rfl, ?_⟩
      exact ⟨kn hne K0, kn hne K1, kn hne K2, kn hne K3, kn hne K4, kn hne K5, fun _ => rfl, kn hne K7, kn hne K8, kn hne K9, kn hne K10, kn hne K11, kn hne K12, kn hne K13, kn hne K14, kn hne K15, kn hne K16, kn hne K17, kn hne K18, kn hne K19, kn hne K20, kn hne K21, kn hne K22, kn hne K23, kn hne K24, kn hne K25, kn hne K26, kn hne K27, kn hne K28, kn hne K29, kn hne K30, kn hne K31, kn hne K32, kn hne K33, kn hne K34, hB⟩
    · cases ho
      have d3 := hd ⟨3, .data⟩ (by simp) rfl
      have d6 := hd ⟨6, .data⟩ (by simp) rfl
      obtain rfl := K3.out d3
      obtain rfl := K6.out d6
      refine wpOp_step rfl (fun K hK => ?_)
      go_simp
      refine hK _ _ ⟨by simpa using hz, v102, v103, v104, .bool true, v106, v107, .bool true, .bool true, v110, v111, v112, v113, v114, v115, v116, v117, v118, v119, v120, v121, v122, v123, v124, v125, v126, v127, v128, v129, v130, v131, v132, v133, v134, v135, v6, rfl, ?_⟩
      exact ⟨kn hne K0, kn hne K1, kn hne K2, kn hne K3, kn hne K4, kn hne K5, kn hne K6, fun _ => rfl, kn hne K8, kn hne K9, kn hne K10, kn hne K11, kn hne K12, kn hne K13, kn hne K14, kn hne K15, kn hne K16, kn hne K17, kn hne K18, kn hne K19, kn hne K20, kn hne K21, kn hne K22, kn hne K23, kn hne K24, kn hne K25, kn hne K26, kn hne K27, kn hne K28, kn hne K29, kn hne K30, kn hne K31, kn hne K32, kn hne K33, kn hne K34, hB⟩
    · cases ho
      have d7 := hd ⟨7, .data⟩ (by simp) rfl
      obtain rfl := K7.out d7
      refine wpOp_step rfl (fun K hK => ?_)
      go_simp
      refine hK _ _ ⟨by simpa using hz, v102, v103, v104, v105, v106, v107, v108, .bool true, .bool true, v111, v112, v113, v114, v115, v116, v117, v118, v119, v120, v121, v122, v123, v124, v125, v126, v127, v128, v129, v130, v131, v132, v133, v134, v135, v6, rfl, ?_⟩
      exact ⟨kn hne K0, kn hne K1, kn hne K2, kn hne K3, kn hne K4, kn hne K5, kn hne K6, kn hne K7, fun _ => rfl, kn hne K9, kn hne K10, kn hne K11, kn hne K12, kn hne K13, kn hne K14, kn hne K15, kn hne K16, kn hne K17, kn hne K18, kn hne K19, kn hne K20, kn hne K21, kn hne K22, kn hne K23, kn hne K24, kn hne K25, kn hne K26, kn hne K27, kn hne K28, kn hne K29, kn hne K30, kn hne K31, kn hne K32, kn hne K33, kn hne K34, hB⟩
    · cases ho
      have d8 := hd ⟨8, .guard⟩ (by simp) rfl
      obtain rfl := K8.out d8
      have hx2c := hx2.cell
      refine wpOp_step rfl (fun K hK => ?_)
      go_simp
      refine hK _ _ ⟨by simpa using hz, v102, v103, v104, v105, v106, v107, v108, v109, .bool true, .agg #[.int .i64 b.k, .int .i64 b.a, .int .i64 b.b, .int .i64 b.c, .int .i64 b.u, .int .i64 b.v, .int .i64 b.x], v112, v113, v114, v115, v116, v117, v118, v119, v120, v121, v122, v123, v124, v125, v126, v127, v128, v129, v130, v131, v132, v133, v134, v135, v6, rfl, ?_⟩
      exact ⟨kn hne K0, kn hne K1, kn hne K2, kn hne K3, kn hne K4, kn hne K5, kn hne K6, kn hne K7, kn hne K8, fun _ => rfl, kn hne K10, kn hne K11, kn hne K12, kn hne K13, kn hne K14, kn hne K15, kn hne K16, kn hne K17, kn hne K18, kn hne K19, kn hne K20, kn hne K21, kn hne K22, kn hne K23, kn hne K24, kn hne K25, kn hne K26, kn hne K27, kn hne K28, kn hne K29, kn hne K30, kn hne K31, kn hne K32, kn hne K33, kn hne K34, hB⟩
    · cases ho
      have d8 := hd ⟨8, .guard⟩ (by simp) rfl
      have d9 := hd ⟨9, .data⟩ (by simp) rfl
      obtain rfl := K8.out d8
      obtain rfl := K9.out d9
      refine wpOp_step rfl (fun K hK => ?_)
      go_simp
      go_at_call 94
      refine (cRb.out _).mono ?_
      rintro e w3 ⟨rfl, hb3⟩
      refine hK _ _ ⟨by simpa using hz, v102, v103, v104, v105, v106, v107, v108, v109, .bool true, .agg #[.int .i64 b.k, .int .i64 b.a, .int .i64 b.b, .int .i64 b.c, .int .i64 b.u, .int .i64 b.v, .int .i64 b.x], .int .i64 (rb), v113, v114, v115, v116, v117, v118, v119, v120, v121, v122, v123, v124, v125, v126, v127, v128, v129, v130, v131, v132, v133, v134, v135, v6, rfl, ?_⟩
      exact ⟨kn hne K0, kn hne K1, kn hne K2, kn hne K3, kn hne K4, kn hne K5, kn hne K6, kn hne K7, kn hne K8, kn hne K9, fun _ => rfl, kn hne K11, kn hne K12, kn hne K13, kn hne K14, kn hne K15, kn hne K16, kn hne K17, kn hne K18, kn hne K19, kn hne K20, kn hne K21, kn hne K22, kn hne K23, kn hne K24, kn hne K25, kn hne K26, kn hne K27, kn hne K28, kn hne K29, kn hne K30, kn hne K31, kn hne K32, kn hne K33, kn hne K34, hB.trans (hb3.mono hB.size)⟩
    · cases ho
      have d8 := hd ⟨8, .guard⟩ (by simp) rfl
      obtain rfl := K8.out d8
      refine wpOp_step rfl (fun K hK => ?_)
      go_simp
      refine hK _ _ ⟨by simpa using hz, v102, v103, v104, v105, v106, v107, v108, v109, .bool true, v111, v112, .pointer (some ⟨w.heap.size, 1, none⟩), v114, v115, v116, v117, v118, v119, v120, v121, v122, v123, v124, v125, v126, v127, v128, v129, v130, v131, v132, v133, v134, v135, v6, rfl, ?_⟩
      exact ⟨kn hne K0, kn hne K1, kn hne K2, kn hne K3, kn hne K4, kn hne K5, kn hne K6, kn hne K7, kn hne K8, kn hne K9, kn hne K10, fun _ => rfl, kn hne K12, kn hne K13, kn hne K14, kn hne K15, kn hne K16, kn hne K17, kn hne K18, kn hne K19, kn hne K20, kn hne K21, kn hne K22, kn hne K23, kn hne K24, kn hne K25, kn hne K26, kn hne K27, kn hne K28, kn hne K29, kn hne K30, kn hne K31, kn hne K32, kn hne K33, kn hne K34, hB⟩
    · cases ho
      have d8 := hd ⟨8, .guard⟩ (by simp) rfl
      have d11 := hd ⟨11, .data⟩ (by simp) rfl
      obtain rfl := K8.out d8
      obtain rfl := K11.out d11
      have hx1c := hx1.cell
      refine wpOp_step rfl (fun K hK => ?_)
      go_simp
      refine hK _ _ ⟨by simpa using hz, v102, v103, v104, v105, v106, v107, v108, v109, .bool true, v111, v112, .pointer (some ⟨w.heap.size, 1, none⟩), .int .i64 (a.a), v115, v116, v117, v118, v119, v120, v121, v122, v123, v124, v125, v126, v127, v128, v129, v130, v131, v132, v133, v134, v135, v6, rfl, ?_⟩
      exact ⟨kn hne K0, kn hne K1, kn hne K2, kn hne K3, kn hne K4, kn hne K5, kn hne K6, kn hne K7, kn hne K8, kn hne K9, kn hne K10, kn hne K11, fun _ => rfl, kn hne K13, kn hne K14, kn hne K15, kn hne K16, kn hne K17, kn hne K18, kn hne K19, kn hne K20, kn hne K21, kn hne K22, kn hne K23, kn hne K24, kn hne K25, kn hne K26, kn hne K27, kn hne K28, kn hne K29, kn hne K30, kn hne K31, kn hne K32, kn hne K33, kn hne K34, hB⟩
    · cases ho
      have d8 := hd ⟨8, .guard⟩ (by simp) rfl
      have d10 := hd ⟨10, .data⟩ (by simp) rfl
      have d12 := hd ⟨12, .data⟩ (by simp) rfl
      obtain rfl := K8.out d8
      obtain rfl := K10.out d10
      obtain rfl := K12.out d12
      refine wpOp_step rfl (fun K hK => ?_)
      go_simp
      refine hK _ _ ⟨by simpa using hz, v102, v103, v104, v105, v106, v107, v108, v109, .bool true, v111, .int .i64 (rb), v113, .int .i64 (a.a), .int .i64 (rb / 2 ^ a.a.toNat), v116, v117, v118, v119, v120, v121, v122, v123, v124, v125, v126, v127, v128, v129, v130, v131, v132, v133, v134, v135, v6, rfl, ?_⟩
      exact ⟨kn hne K0, kn hne K1, kn hne K2, kn hne K3, kn hne K4, kn hne K5, kn hne K6, kn hne K7, kn hne K8, kn hne K9, kn hne K10, kn hne K11, kn hne K12, fun _ => rfl, kn hne K14, kn hne K15, kn hne K16, kn hne K17, kn hne K18, kn hne K19, kn hne K20, kn hne K21, kn hne K22, kn hne K23, kn hne K24, kn hne K25, kn hne K26, kn hne K27, kn hne K28, kn hne K29, kn hne K30, kn hne K31, kn hne K32, kn hne K33, kn hne K34, hB⟩
    · cases ho
      have d8 := hd ⟨8, .guard⟩ (by simp) rfl
      have d13 := hd ⟨13, .data⟩ (by simp) rfl
      obtain rfl := K8.out d8
      obtain rfl := K13.out d13
      refine wpOp_step rfl (fun K hK => ?_)
      go_simp
      refine hK _ _ ⟨by simpa using hz, v102, v103, v104, v105, v106, v107, v108, v109, .bool true, v111, v112, v113, v114, .int .i64 (rb / 2 ^ a.a.toNat), .int .i64 ((rb / 2 ^ a.a.toNat).tmod 2), v117, v118, v119, v120, v121, v122, v123, v124, v125, v126, v127, v128, v129, v130, v131, v132, v133, v134, v135, v6, rfl, ?_⟩
      exact ⟨kn hne K0, kn hne K1, kn hne K2, kn hne K3, kn hne K4, kn hne K5, kn hne K6, kn hne K7, kn hne K8, kn hne K9, kn hne K10, kn hne K11, kn hne K12, kn hne K13, fun _ => rfl, kn hne K15, kn hne K16, kn hne K17, kn hne K18, kn hne K19, kn hne K20, kn hne K21, kn hne K22, kn hne K23, kn hne K24, kn hne K25, kn hne K26, kn hne K27, kn hne K28, kn hne K29, kn hne K30, kn hne K31, kn hne K32, kn hne K33, kn hne K34, hB⟩
    · cases ho
      have d8 := hd ⟨8, .guard⟩ (by simp) rfl
      have d14 := hd ⟨14, .data⟩ (by simp) rfl
      obtain rfl := K8.out d8
      obtain rfl := K14.out d14
      refine wpOp_step rfl (fun K hK => ?_)
      go_simp
      try rw [q2]
      refine hK _ _ ⟨by simpa using hz, v102, v103, v104, v105, v106, v107, v108, v109, .bool true, v111, v112, v113, v114, v115, .int .i64 ((rb / 2 ^ a.a.toNat).tmod 2), .bool true, v118, v119, v120, v121, v122, v123, v124, v125, v126, v127, v128, v129, v130, v131, v132, v133, v134, v135, v6, rfl, ?_⟩
      exact ⟨kn hne K0, kn hne K1, kn hne K2, kn hne K3, kn hne K4, kn hne K5, kn hne K6, kn hne K7, kn hne K8, kn hne K9, kn hne K10, kn hne K11, kn hne K12, kn hne K13, kn hne K14, fun _ => rfl, kn hne K16, kn hne K17, kn hne K18, kn hne K19, kn hne K20, kn hne K21, kn hne K22, kn hne K23, kn hne K24, kn hne K25, kn hne K26, kn hne K27, kn hne K28, kn hne K29, kn hne K30, kn hne K31, kn hne K32, kn hne K33, kn hne K34, hB⟩
    · cases ho
      have d8 := hd ⟨8, .data⟩ (by simp) rfl
      have d15 := hd ⟨15, .data⟩ (by simp) rfl
      obtain rfl := K8.out d8
      obtain rfl := K15.out d15
      refine wpOp_step rfl (fun K hK => ?_)
      go_simp
      refine hK _ _ ⟨by simpa using hz, v102, v103, v104, v105, v106, v107, v108, v109, .bool true, v111, v112, v113, v114, v115, v116, .bool true, .bool true, v119, v120, v121, v122, v123, v124, v125, v126, v127, v128, v129, v130, v131, v132, v133, v134, v135, v6, rfl, ?_⟩
      exact ⟨kn hne K0, kn hne K1, kn hne K2, kn hne K3, kn hne K4, kn hne K5, kn hne K6, kn hne K7, kn hne K8, kn hne K9, kn hne K10, kn hne K11, kn hne K12, kn hne K13, kn hne K14, kn hne K15, fun _ => rfl, kn hne K17, kn hne K18, kn hne K19, kn hne K20, kn hne K21, kn hne K22, kn hne K23, kn hne K24, kn hne K25, kn hne K26, kn hne K27, kn hne K28, kn hne K29, kn hne K30, kn hne K31, kn hne K32, kn hne K33, kn hne K34, hB⟩
    · cases ho
      have d16 := hd ⟨16, .data⟩ (by simp) rfl
      obtain rfl := K16.out d16
      refine wpOp_step rfl (fun K hK => ?_)
      go_simp
      refine hK _ _ ⟨by simpa using hz, v102, v103, v104, v105, v106, v107, v108, v109, v110, v111, v112, v113, v114, v115, v116, v117, .bool true, .bool true, v120, v121, v122, v123, v124, v125, v126, v127, v128, v129, v130, v131, v132, v133, v134, v135, v6, rfl, ?_⟩
      exact ⟨kn hne K0, kn hne K1, kn hne K2, kn hne K3, kn hne K4, kn hne K5, kn hne K6, kn hne K7, kn hne K8, kn hne K9, kn hne K10, kn hne K11, kn hne K12, kn hne K13, kn hne K14, kn hne K15, kn hne K16, fun _ => rfl, kn hne K18, kn hne K19, kn hne K20, kn hne K21, kn hne K22, kn hne K23, kn hne K24, kn hne K25, kn hne K26, kn hne K27, kn hne K28, kn hne K29, kn hne K30, kn hne K31, kn hne K32, kn hne K33, kn hne K34, hB⟩
    · cases ho
      have d17 := hd ⟨17, .guard⟩ (by simp) rfl
      obtain rfl := K17.out d17
      refine wpOp_step rfl (fun K hK => ?_)
      go_simp
      refine hK _ _ ⟨by simpa using hz, v102, v103, v104, v105, v106, v107, v108, v109, v110, v111, v112, v113, v114, v115, v116, v117, v118, .bool true, .pointer (some ⟨w.heap.size + 1, 0, none⟩), v121, v122, v123, v124, v125, v126, v127, v128, v129, v130, v131, v132, v133, v134, v135, v6, rfl, ?_⟩
      exact ⟨kn hne K0, kn hne K1, kn hne K2, kn hne K3, kn hne K4, kn hne K5, kn hne K6, kn hne K7, kn hne K8, kn hne K9, kn hne K10, kn hne K11, kn hne K12, kn hne K13, kn hne K14, kn hne K15, kn hne K16, kn hne K17, fun _ => rfl, kn hne K19, kn hne K20, kn hne K21, kn hne K22, kn hne K23, kn hne K24, kn hne K25, kn hne K26, kn hne K27, kn hne K28, kn hne K29, kn hne K30, kn hne K31, kn hne K32, kn hne K33, kn hne K34, hB⟩
    · cases ho
      have d17 := hd ⟨17, .guard⟩ (by simp) rfl
      have d18 := hd ⟨18, .data⟩ (by simp) rfl
      obtain rfl := K17.out d17
      obtain rfl := K18.out d18
      have hx2c := hx2.cell
      refine wpOp_step rfl (fun K hK => ?_)
      go_simp
      refine hK _ _ ⟨by simpa using hz, v102, v103, v104, v105, v106, v107, v108, v109, v110, v111, v112, v113, v114, v115, v116, v117, v118, .bool true, .pointer (some ⟨w.heap.size + 1, 0, none⟩), .int .i64 (b.k), v122, v123, v124, v125, v126, v127, v128, v129, v130, v131, v132, v133, v134, v135, v6, rfl, ?_⟩
      exact ⟨kn hne K0, kn hne K1, kn hne K2, kn hne K3, kn hne K4, kn hne K5, kn hne K6, kn hne K7, kn hne K8, kn hne K9, kn hne K10, kn hne K11, kn hne K12, kn hne K13, kn hne K14, kn hne K15, kn hne K16, kn hne K17, kn hne K18, fun _ => rfl, kn hne K20, kn hne K21, kn hne K22, kn hne K23, kn hne K24, kn hne K25, kn hne K26, kn hne K27, kn hne K28, kn hne K29, kn hne K30, kn hne K31, kn hne K32, kn hne K33, kn hne K34, hB⟩
    · cases ho
      have d17 := hd ⟨17, .guard⟩ (by simp) rfl
      have d19 := hd ⟨19, .data⟩ (by simp) rfl
      obtain rfl := K17.out d17
      obtain rfl := K19.out d19
      refine wpOp_step rfl (fun K hK => ?_)
      go_simp
      try rw [q3]
      refine hK _ _ ⟨by simpa using hz, v102, v103, v104, v105, v106, v107, v108, v109, v110, v111, v112, v113, v114, v115, v116, v117, v118, .bool true, v120, .int .i64 (b.k), .bool false, v123, v124, v125, v126, v127, v128, v129, v130, v131, v132, v133, v134, v135, v6, rfl, ?_⟩
      exact ⟨kn hne K0, kn hne K1, kn hne K2, kn hne K3, kn hne K4, kn hne K5, kn hne K6, kn hne K7, kn hne K8, kn hne K9, kn hne K10, kn hne K11, kn hne K12, kn hne K13, kn hne K14, kn hne K15, kn hne K16, kn hne K17, kn hne K18, kn hne K19, fun _ => rfl, kn hne K21, kn hne K22, kn hne K23, kn hne K24, kn hne K25, kn hne K26, kn hne K27, kn hne K28, kn hne K29, kn hne K30, kn hne K31, kn hne K32, kn hne K33, kn hne K34, hB⟩
    · cases ho
      have d17 := hd ⟨17, .guard⟩ (by simp) rfl
      have d20 := hd ⟨20, .data⟩ (by simp) rfl
      obtain rfl := K17.out d17
      obtain rfl := K20.out d20
      refine wpOp_step rfl (fun K hK => ?_)
      go_simp
      refine hK _ _ ⟨by simpa using hz, v102, v103, v104, v105, v106, v107, v108, v109, v110, v111, v112, v113, v114, v115, v116, v117, v118, .bool true, v120, v121, .bool false, .bool false, v124, v125, v126, v127, v128, v129, v130, v131, v132, v133, v134, v135, v6, rfl, ?_⟩
      exact ⟨kn hne K0, kn hne K1, kn hne K2, kn hne K3, kn hne K4, kn hne K5, kn hne K6, kn hne K7, kn hne K8, kn hne K9, kn hne K10, kn hne K11, kn hne K12, kn hne K13, kn hne K14, kn hne K15, kn hne K16, kn hne K17, kn hne K18, kn hne K19, kn hne K20, fun _ => rfl, kn hne K22, kn hne K23, kn hne K24, kn hne K25, kn hne K26, kn hne K27, kn hne K28, kn hne K29, kn hne K30, kn hne K31, kn hne K32, kn hne K33, kn hne K34, hB⟩
    · cases ho
      have d21 := hd ⟨21, .guard⟩ (by simp) rfl
      obtain rfl := K21.out d21
      refine wpOp_step rfl (fun K hK => ?_)
      go_simp
      refine hK _ _ ⟨by simpa using hz, v102, v103, v104, v105, v106, v107, v108, v109, v110, v111, v112, v113, v114, v115, v116, v117, v118, v119, v120, v121, v122, .bool false, .pointer (some ⟨w.heap.size + 1, 0, none⟩), v125, v126, v127, v128, v129, v130, v131, v132, v133, v134, v135, v6, rfl, ?_⟩
      exact ⟨kn hne K0, kn hne K1, kn hne K2, kn hne K3, kn hne K4, kn hne K5, kn hne K6, kn hne K7, kn hne K8, kn hne K9, kn hne K10, kn hne K11, kn hne K12, kn hne K13, kn hne K14, kn hne K15, kn hne K16, kn hne K17, kn hne K18, kn hne K19, kn hne K20, kn hne K21, fun _ => rfl, kn hne K23, kn hne K24, kn hne K25, kn hne K26, kn hne K27, kn hne K28, kn hne K29, kn hne K30, kn hne K31, kn hne K32, kn hne K33, kn hne K34, hB⟩
    · cases ho
      have d21 := hd ⟨21, .guard⟩ (by simp) rfl
      have d22 := hd ⟨22, .data⟩ (by simp) rfl
      obtain rfl := K21.out d21
      obtain rfl := K22.out d22
      have hx2c := hx2.cell
      refine wpOp_step rfl (fun K hK => ?_)
      go_simp
      refine hK _ _ ⟨by simpa using hz, v102, v103, v104, v105, v106, v107, v108, v109, v110, v111, v112, v113, v114, v115, v116, v117, v118, v119, v120, v121, v122, .bool false, .pointer (some ⟨w.heap.size + 1, 0, none⟩), .int .i64 (b.k), v126, v127, v128, v129, v130, v131, v132, v133, v134, v135, v6, rfl, ?_⟩
      exact ⟨kn hne K0, kn hne K1, kn hne K2, kn hne K3, kn hne K4, kn hne K5, kn hne K6, kn hne K7, kn hne K8, kn hne K9, kn hne K10, kn hne K11, kn hne K12, kn hne K13, kn hne K14, kn hne K15, kn hne K16, kn hne K17, kn hne K18, kn hne K19, kn hne K20, kn hne K21, kn hne K22, fun _ => rfl, kn hne K24, kn hne K25, kn hne K26, kn hne K27, kn hne K28, kn hne K29, kn hne K30, kn hne K31, kn hne K32, kn hne K33, kn hne K34, hB⟩
    · cases ho
      have d21 := hd ⟨21, .guard⟩ (by simp) rfl
      have d23 := hd ⟨23, .data⟩ (by simp) rfl
      obtain rfl := K21.out d21
      obtain rfl := K23.out d23
      refine wpOp_step rfl (fun K hK => ?_)
      go_simp
      try rw [q4]
      refine hK _ _ ⟨by simpa using hz, v102, v103, v104, v105, v106, v107, v108, v109, v110, v111, v112, v113, v114, v115, v116, v117, v118, v119, v120, v121, v122, .bool false, v124, .int .i64 (b.k), .bool true, v127, v128, v129, v130, v131, v132, v133, v134, v135, v6, rfl, ?_⟩
      exact ⟨kn hne K0, kn hne K1, kn hne K2, kn hne K3, kn hne K4, kn hne K5, kn hne K6, kn hne K7, kn hne K8, kn hne K9, kn hne K10, kn hne K11, kn hne K12, kn hne K13, kn hne K14, kn hne K15, kn hne K16, kn hne K17, kn hne K18, kn hne K19, kn hne K20, kn hne K21, kn hne K22, kn hne K23, fun _ => rfl, kn hne K25, kn hne K26, kn hne K27, kn hne K28, kn hne K29, kn hne K30, kn hne K31, kn hne K32, kn hne K33, kn hne K34, hB⟩
    · cases ho
      have d17 := hd ⟨17, .guard⟩ (by simp) rfl
      have d21 := hd ⟨21, .data⟩ (by simp) rfl
      have d24 := hd ⟨24, .data⟩ (by simp) rfl
      obtain rfl := K17.out d17
      obtain rfl := K21.out d21
      obtain rfl := K24.out d24
      refine wpOp_step rfl (fun K hK => ?_)
      go_simp
      refine hK _ _ ⟨by simpa using hz, v102, v103, v104, v105, v106, v107, v108, v109, v110, v111, v112, v113, v114, v115, v116, v117, v118, .bool true, v120, v121, v122, .bool false, v124, v125, .bool true, .bool true, v128, v129, v130, v131, v132, v133, v134, v135, v6, rfl, ?_⟩
      exact ⟨kn hne K0, kn hne K1, kn hne K2, kn hne K3, kn hne K4, kn hne K5, kn hne K6, kn hne K7, kn hne K8, kn hne K9, kn hne K10, kn hne K11, kn hne K12, kn hne K13, kn hne K14, kn hne K15, kn hne K16, kn hne K17, kn hne K18, kn hne K19, kn hne K20, kn hne K21, kn hne K22, kn hne K23, kn hne K24, fun _ => rfl, kn hne K26, kn hne K27, kn hne K28, kn hne K29, kn hne K30, kn hne K31, kn hne K32, kn hne K33, kn hne K34, hB⟩
    · cases ho
      have d17 := hd ⟨17, .data⟩ (by simp) rfl
      have d25 := hd ⟨25, .data⟩ (by simp) rfl
      obtain rfl := K17.out d17
      obtain rfl := K25.out d25
      refine wpOp_step rfl (fun K hK => ?_)
      go_simp
      refine hK _ _ ⟨by simpa using hz, v102, v103, v104, v105, v106, v107, v108, v109, v110, v111, v112, v113, v114, v115, v116, v117, v118, .bool true, v120, v121, v122, v123, v124, v125, v126, .bool true, .bool true, v129, v130, v131, v132, v133, v134, v135, v6, rfl, ?_⟩
      exact ⟨kn hne K0, kn hne K1, kn hne K2, kn hne K3, kn hne K4, kn hne K5, kn hne K6, kn hne K7, kn hne K8, kn hne K9, kn hne K10, kn hne K11, kn hne K12, kn hne K13, kn hne K14, kn hne K15, kn hne K16, kn hne K17, kn hne K18, kn hne K19, kn hne K20, kn hne K21, kn hne K22, kn hne K23, kn hne K24, kn hne K25, fun _ => rfl, kn hne K27, kn hne K28, kn hne K29, kn hne K30, kn hne K31, kn hne K32, kn hne K33, kn hne K34, hB⟩
    · cases ho
      have d26 := hd ⟨26, .data⟩ (by simp) rfl
      obtain rfl := K26.out d26
      refine wpOp_step rfl (fun K hK => ?_)
      go_simp
      refine hK _ _ ⟨by simpa using hz, v102, v103, v104, v105, v106, v107, v108, v109, v110, v111, v112, v113, v114, v115, v116, v117, v118, v119, v120, v121, v122, v123, v124, v125, v126, v127, .bool true, .bool true, v130, v131, v132, v133, v134, v135, v6, rfl, ?_⟩
      exact ⟨kn hne K0, kn hne K1, kn hne K2, kn hne K3, kn hne K4, kn hne K5, kn hne K6, kn hne K7, kn hne K8, kn hne K9, kn hne K10, kn hne K11, kn hne K12, kn hne K13, kn hne K14, kn hne K15, kn hne K16, kn hne K17, kn hne K18, kn hne K19, kn hne K20, kn hne K21, kn hne K22, kn hne K23, kn hne K24, kn hne K25, kn hne K26, fun _ => rfl, kn hne K28, kn hne K29, kn hne K30, kn hne K31, kn hne K32, kn hne K33, kn hne K34, hB⟩
    · cases ho
      have d27 := hd ⟨27, .guard⟩ (by simp) rfl
      obtain rfl := K27.out d27
      refine wpOp_step rfl (fun K hK => ?_)
      go_simp
      refine hK _ _ ⟨by simpa using hz, v102, v103, v104, v105, v106, v107, v108, v109, v110, v111, v112, v113, v114, v115, v116, v117, v118, v119, v120, v121, v122, v123, v124, v125, v126, v127, v128, .bool true, .pointer (some ⟨w.heap.size + 1, 2, none⟩), v131, v132, v133, v134, v135, v6, rfl, ?_⟩
      exact ⟨kn hne K0, kn hne K1, kn hne K2, kn hne K3, kn hne K4, kn hne K5, kn hne K6, kn hne K7, kn hne K8, kn hne K9, kn hne K10, kn hne K11, kn hne K12, kn hne K13, kn hne K14, kn hne K15, kn hne K16, kn hne K17, kn hne K18, kn hne K19, kn hne K20, kn hne K21, kn hne K22, kn hne K23, kn hne K24, kn hne K25, kn hne K26, kn hne K27, fun _ => rfl, kn hne K29, kn hne K30, kn hne K31, kn hne K32, kn hne K33, kn hne K34, hB⟩
    · cases ho
      have d27 := hd ⟨27, .guard⟩ (by simp) rfl
      have d28 := hd ⟨28, .data⟩ (by simp) rfl
      obtain rfl := K27.out d27
      obtain rfl := K28.out d28
      have hx2c := hx2.cell
      refine wpOp_step rfl (fun K hK => ?_)
      go_simp
      refine hK _ _ ⟨by simpa using hz, v102, v103, v104, v105, v106, v107, v108, v109, v110, v111, v112, v113, v114, v115, v116, v117, v118, v119, v120, v121, v122, v123, v124, v125, v126, v127, v128, .bool true, .pointer (some ⟨w.heap.size + 1, 2, none⟩), .int .i64 (b.b), v132, v133, v134, v135, v6, rfl, ?_⟩
      exact ⟨kn hne K0, kn hne K1, kn hne K2, kn hne K3, kn hne K4, kn hne K5, kn hne K6, kn hne K7, kn hne K8, kn hne K9, kn hne K10, kn hne K11, kn hne K12, kn hne K13, kn hne K14, kn hne K15, kn hne K16, kn hne K17, kn hne K18, kn hne K19, kn hne K20, kn hne K21, kn hne K22, kn hne K23, kn hne K24, kn hne K25, kn hne K26, kn hne K27, kn hne K28, fun _ => rfl, kn hne K30, kn hne K31, kn hne K32, kn hne K33, kn hne K34, hB⟩
    · cases ho
      have d27 := hd ⟨27, .guard⟩ (by simp) rfl
      obtain rfl := K27.out d27
      refine wpOp_step rfl (fun K hK => ?_)
      go_simp
      refine hK _ _ ⟨by simpa using hz, v102, v103, v104, v105, v106, v107, v108, v109, v110, v111, v112, v113, v114, v115, v116, v117, v118, v119, v120, v121, v122, v123, v124, v125, v126, v127, v128, .bool true, v130, v131, .pointer (some ⟨w.heap.size, 1, none⟩), v133, v134, v135, v6, rfl, ?_⟩
      exact ⟨kn hne K0, kn hne K1, kn hne K2, kn hne K3, kn hne K4, kn hne K5, kn hne K6, kn hne K7, kn hne K8, kn hne K9, kn hne K10, kn hne K11, kn hne K12, kn hne K13, kn hne K14, kn hne K15, kn hne K16, kn hne K17, kn hne K18, kn hne K19, kn hne K20, kn hne K21, kn hne K22, kn hne K23, kn hne K24, kn hne K25, kn hne K26, kn hne K27, kn hne K28, kn hne K29, fun _ => rfl, kn hne K31, kn hne K32, kn hne K33, kn hne K34, hB⟩
    · cases ho
      have d27 := hd ⟨27, .guard⟩ (by simp) rfl
      have d30 := hd ⟨30, .data⟩ (by simp) rfl
      obtain rfl := K27.out d27
      obtain rfl := K30.out d30
      have hx1c := hx1.cell
      refine wpOp_step rfl (fun K hK => ?_)
      go_simp
      refine hK _ _ ⟨by simpa using hz, v102, v103, v104, v105, v106, v107, v108, v109, v110, v111, v112, v113, v114, v115, v116, v117, v118, v119, v120, v121, v122, v123, v124, v125, v126, v127, v128, .bool true, v130, v131, .pointer (some ⟨w.heap.size, 1, none⟩), .int .i64 (a.a), v134, v135, v6, rfl, ?_⟩
      exact ⟨kn hne K0, kn hne K1, kn hne K2, kn hne K3, kn hne K4, kn hne K5, kn hne K6, kn hne K7, kn hne K8, kn hne K9, kn hne K10, kn hne K11, kn hne K12, kn hne K13, kn hne K14, kn hne K15, kn hne K16, kn hne K17, kn hne K18, kn hne K19, kn hne K20, kn hne K21, kn hne K22, kn hne K23, kn hne K24, kn hne K25, kn hne K26, kn hne K27, kn hne K28, kn hne K29, kn hne K30, fun _ => rfl, kn hne K32, kn hne K33, kn hne K34, hB⟩
    · cases ho
      have d27 := hd ⟨27, .guard⟩ (by simp) rfl
      have d29 := hd ⟨29, .data⟩ (by simp) rfl
      have d31 := hd ⟨31, .data⟩ (by simp) rfl
      obtain rfl := K27.out d27
      obtain rfl := K29.out d29
      obtain rfl := K31.out d31
      refine wpOp_step rfl (fun K hK => ?_)
      go_simp
      refine hK _ _ ⟨by simpa using hz, v102, v103, v104, v105, v106, v107, v108, v109, v110, v111, v112, v113, v114, v115, v116, v117, v118, v119, v120, v121, v122, v123, v124, v125, v126, v127, v128, .bool true, v130, .int .i64 (b.b), v132, .int .i64 (a.a), .bool (b.b == a.a), v135, v6, rfl, ?_⟩
      exact ⟨kn hne K0, kn hne K1, kn hne K2, kn hne K3, kn hne K4, kn hne K5, kn hne K6, kn hne K7, kn hne K8, kn hne K9, kn hne K10, kn hne K11, kn hne K12, kn hne K13, kn hne K14, kn hne K15, kn hne K16, kn hne K17, kn hne K18, kn hne K19, kn hne K20, kn hne K21, kn hne K22, kn hne K23, kn hne K24, kn hne K25, kn hne K26, kn hne K27, kn hne K28, kn hne K29, kn hne K30, kn hne K31, fun _ => rfl, kn hne K33, kn hne K34, hB⟩
    · cases ho
      have d27 := hd ⟨27, .data⟩ (by simp) rfl
      have d32 := hd ⟨32, .data⟩ (by simp) rfl
      obtain rfl := K27.out d27
      obtain rfl := K32.out d32
      refine wpOp_step rfl (fun K hK => ?_)
      go_simp
      refine hK _ _ ⟨by simpa using hz, v102, v103, v104, v105, v106, v107, v108, v109, v110, v111, v112, v113, v114, v115, v116, v117, v118, v119, v120, v121, v122, v123, v124, v125, v126, v127, v128, .bool true, v130, v131, v132, v133, .bool (b.b == a.a), .bool (b.b == a.a), v6, rfl, ?_⟩
      exact ⟨kn hne K0, kn hne K1, kn hne K2, kn hne K3, kn hne K4, kn hne K5, kn hne K6, kn hne K7, kn hne K8, kn hne K9, kn hne K10, kn hne K11, kn hne K12, kn hne K13, kn hne K14, kn hne K15, kn hne K16, kn hne K17, kn hne K18, kn hne K19, kn hne K20, kn hne K21, kn hne K22, kn hne K23, kn hne K24, kn hne K25, kn hne K26, kn hne K27, kn hne K28, kn hne K29, kn hne K30, kn hne K31, kn hne K32, fun _ => rfl, kn hne K34, hB⟩
    · cases ho
      have d33 := hd ⟨33, .data⟩ (by simp) rfl
      obtain rfl := K33.out d33
      refine wpOp_step rfl (fun K hK => ?_)
      go_simp
      refine hK _ _ ⟨by simpa using hz, v102, v103, v104, v105, v106, v107, v108, v109, v110, v111, v112, v113, v114, v115, v116, v117, v118, v119, v120, v121, v122, v123, v124, v125, v126, v127, v128, v129, v130, v131, v132, v133, v134, .bool (b.b == a.a), .bool (b.b == a.a), rfl, ?_⟩
      exact ⟨kn hne K0, kn hne K1, kn hne K2, kn hne K3, kn hne K4, kn hne K5, kn hne K6, kn hne K7, kn hne K8, kn hne K9, kn hne K10, kn hne K11, kn hne K12, kn hne K13, kn hne K14, kn hne K15, kn hne K16, kn hne K17, kn hne K18, kn hne K19, kn hne K20, kn hne K21, kn hne K22, kn hne K23, kn hne K24, kn hne K25, kn hne K26, kn hne K27, kn hne K28, kn hne K29, kn hne K30, kn hne K31, kn hne K32, kn hne K33, fun _ => rfl, hB⟩
  case he =>
    rintro listed aq wx ⟨hz, v102, v103, v104, v105, v106, v107, v108, v109, v110, v111, v112, v113, v114, v115, v116, v117, v118, v119, v120, v121, v122, v123, v124, v125, v126, v127, v128, v129, v130, v131, v132, v133, v134, v135, v6, rfl, hI⟩ hr
    have hall := ready_done hz (by kernel_rfl) hr
    obtain rfl := hI.2.2.2.2.2.2.2.2.2.2.2.2.2.2.2.2.2.2.2.2.2.2.2.2.2.2.2.2.2.2.2.2.2.2.1 (hall 34 (by decide))
    have hB7 := Lib.hid (hB2.out.trans ((show Below W0.heap.size W0 wx from hI.2.2.2.2.2.2.2.2.2.2.2.2.2.2.2.2.2.2.2.2.2.2.2.2.2.2.2.2.2.2.2.2.2.2.2).mono (by have := hzz.out; omega)))
    clear hI hall hr hz
    go_wp2_with fail
    go_ret
    exact ⟨ret_bool hR.out, hB7.out⟩
end Go.Proofs.Ytkggejmamhakaaa
