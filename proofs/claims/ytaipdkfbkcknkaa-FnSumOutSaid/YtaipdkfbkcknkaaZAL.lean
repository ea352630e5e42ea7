/- Parts of the proof: Hd. -/
import Derived.Test.YtaipdkfbkcknkaaZAK
namespace Go.Proofs.Ytaipdkfbkcknkaa
set_option maxRecDepth 100000
set_option linter.unusedVariables false
open Go.RowKit
theorem FcV.but2 {w w' : World} {base : Nat} {v1 v2 : Value} {F : Fac} {S : Nat → Prop} (h : FcV w base v1 v2 F) (hk : KeptBut w w' S) (hS : ∀ k, base ≤ k → ¬ S k) : FcV w' base v1 v2 F :=
  ⟨h.1.but hk (fun k e => hS k (World.ownsRow.lt h.1 k e).1), h.2.1.but hk (fun k e => hS k (World.ownsRow.lt h.2.1 k e).1), h.2.2⟩
/-- A drawn factor and a number. -/
def FacI (w : World) (e : Ending) (w' : World) : Prop :=
  ∃ (a1 a2 : Value) (F : Fac) (x : Int), e = .returned (.tuple #[.agg #[a1, a2], .int .i64 x]) ∧ FcV w' w.heap.size a1 a2 F ∧ F.vs.length ≤ 5 ∧ F.ns.length ≤ 82 ∧ Below w.heap.size w w'
set_option maxHeartbeats 4000000 in
theorem DrawSumOut_any (A : Option Addr) (n c : Nat) (w : World) (h : Byt w w.heap.size A n) (hn : n ≤ c) (hc : c ≤ maxLen) :
    Calls Try.prog 48 #[.slice A n c] w (FacI w) := by
  have hB0 : Below w.heap.size w (w.alloc (.cells #[.slice none 0 0, .slice none 0 0] 36)) := (Below.refl _ _).alloc (Nat.le_refl _) _
  have hx := Lib.hid (Has.new w 36 #[.slice none 0 0, .slice none 0 0])
  have hO := l40Open_any A n c _ ((h.keep hB0).more hB0.size) hn hc
  have hB := Lib.hid hB0
  have hz0 : (w.alloc (.cells #[.slice none 0 0, .slice none 0 0] 36)).heap.size = w.heap.size + 1 := by simp
  rw [hz0] at hO
  have hOh := Lib.hid hO
  clear hB0 h hc hO
  go_enter Try.func48, Try.ntmps48
  go_wp2_with fail
  generalize w.alloc (.cells #[.slice none 0 0, .slice none 0 0] 36) = W0 at hx hOh hB hz0 ⊢
  refine (hOh.out).mono ?_
  rintro e w1 ⟨rfl, ⟨n', hn', hr1⟩, hb1⟩
  have hz1 := hr1.lt
  have hb1' := hb1
  rw [← hz0] at hb1'
  have hx1 := hx.out.kept hb1'
  have hB1 := hB.out.trans (hb1'.mono hB.out.size)
  clear hOh hx hB hb1 hb1'
  go_wp2_with fail
  refine (l8Any_any (w.heap.size + 1) A n' c 0 (w.heap.size + 1) w1 hr1 (by omega) hn' (by omega)).mono ?_
  rintro e w2 ⟨a1, a2, F, p2, rfl, hV, hl1, hl2, hl3, hp2, hr2, hc2⟩
  have hz2 := hc2.size
  obtain ⟨A1, e1, rfl, _, _⟩ := hV.1.form
  obtain ⟨A2, e2, rfl, _, _⟩ := hV.2.1.form
  have hV3 := Lib.hid (hV.alloc (.cells #[.slice A1 F.vs.length e1, .slice A2 F.ns.length e2] 36))
  have hx3 := Lib.hid ((hx1.chg hc2 (by omega)).alloc (.cells #[.slice A1 F.vs.length e1, .slice A2 F.ns.length e2] 36))
  have hy3 := Lib.hid (Has.new w2 36 #[.slice A1 F.vs.length e1, .slice A2 F.ns.length e2])
  have hr3 := Lib.hid (hr2.alloc (by omega) (.cells #[.slice A1 F.vs.length e1, .slice A2 F.ns.length e2] 36))
  have hB3 := Lib.hid ((hB1.trans (hc2.below (B := w.heap.size) (by omega) (by omega))).alloc (by omega) (.cells #[.slice A1 F.vs.length e1, .slice A2 F.ns.length e2] 36))
  have hG : w.heap.size + 1 < w2.heap.size := by omega
  have hc_y := hy3.out.cell
  clear hV hx1 hB1 hr1 hr2 hc2
  by_cases h0 : 0 < F.vs.length
  · have hn1 : (0 : Int) < (F.vs.length : Int) := by omega
    go_wp2_with fail
    generalize w2.alloc (.cells #[.slice A1 F.vs.length e1, .slice A2 F.ns.length e2] 36) = W3 at hV3 hx3 hy3 hr3 hB3 hc_y ⊢
    generalize w2.heap.size = G at hy3 hG hz2 hc_y ⊢
    refine (pick_any (w.heap.size + 1) A n' c p2 (w.heap.size + 1) 6 _ hr3.out (by omega) hn' (by decide)).mono ?_
    rintro e w4 ⟨y, rfl, hy0, hy6, hr4, hc4⟩
    have hr4h := Lib.hid hr4
    have hV4 := Lib.hid (hV3.out.chg hc4 (by omega))
    have hx4 := Lib.hid (hx3.out.chg hc4 (by omega))
    have hy4 := Lib.hid (hy3.out.chg hc4 (by omega))
    have hB4 := Lib.hid (hB3.out.trans (hc4.below (B := w.heap.size) (by omega) hB3.out.size))
    clear hV3 hx3 hy3 hr3 hB3 hr4 hc4
    by_cases hy00 : 0 < y
    · obtain ⟨g1, cur1, rfl, hgb1, _, _, _, _, hat1⟩ := owns_open hV4.out.1 h0
      clear hat1 hgb1
      go_wp2_with fail
      refine wp_region_any (by kernel_rfl) ?_
      change wpAny _ _ _ _ _ _ _ (World.drew _)
      refine wpAny_tailb (n := 11) (c := 0) (I := fun listed aq wx => listed.size = 12 ∧ ∃ v19 v20 v21 v22 v23 v24 v25 v26 v27 v28 : Value, aq = { tmps := #[.slice A n c, undef, .pointer (some ⟨w.heap.size, 0, none⟩), .int .i64 0, .pointer (some ⟨w.heap.size + 1, 0, none⟩), .pointer (some ⟨G, 0, none⟩), .slice A n c, .pointer (some ⟨w.heap.size + 1, 0, none⟩), .pointer (some ⟨w.heap.size + 1, 0, none⟩), .agg #[.slice (some ⟨g1, 0, none⟩) F.vs.length e1, .slice A2 F.ns.length e2], .pointer (some ⟨G, 0, none⟩), .slice (some ⟨g1, 0, none⟩) F.vs.length e1, .int .i64 ((F.vs.length : Nat) : Int), .bool true, .bool true, .pointer (some ⟨w.heap.size + 1, 0, none⟩), .int .i64 y, .bool true, .bool true, v19, v20, v21, v22, v23, v24, v25, v26, v27, v28, undef, undef, undef], defers := [] } ∧ (listed.getD 0 false = true → v19 = .agg #[.slice (some ⟨g1, 0, none⟩) F.vs.length e1, .slice A2 F.ns.length e2]) ∧ (listed.getD 1 false = true → v20 = .pointer (some ⟨G, 0, none⟩)) ∧ (listed.getD 2 false = true → v21 = .slice (some ⟨g1, 0, none⟩) F.vs.length e1) ∧ (listed.getD 3 false = true → v22 = .pointer (some ⟨w.heap.size + 1, 0, none⟩)) ∧ (listed.getD 4 false = true → v23 = .pointer (some ⟨G, 0, none⟩)) ∧ (listed.getD 5 false = true → v24 = .slice (some ⟨g1, 0, none⟩) F.vs.length e1) ∧ (listed.getD 6 false = true → v25 = .int .i64 (F.vs.length : Int)) ∧ (listed.getD 7 false = true → (∃ k : Nat, v26 = .int .i64 (k : Int) ∧ (k : Int) < (F.vs.length : Int))) ∧ (listed.getD 8 false = true → (∃ k : Nat, v27 = .pointer (some ⟨g1, k, none⟩) ∧ k < F.vs.length)) ∧ (listed.getD 9 false = true → (∃ d : Int, v28 = .int .i64 d)) ∧ (listed.getD 10 false = true → (listed.getD 7 false = true ∧ Has wx w.heap.size 36 #[.slice (some ⟨g1, 0, none⟩) F.vs.length e1, .slice A2 F.ns.length e2])) ∧ ((listed.getD 7 false = false → Rdr wx (w.heap.size + 1) (w.heap.size + 1) A n' c (p2+1)) ∧ (listed.getD 10 false = false → Chg w4 wx (w.heap.size + 1)) ∧ KeptBut w4 wx (fun i => i = w.heap.size + 1 ∨ i = w.heap.size))) rfl (by kernel_rfl) (by kernel_rfl) (by kernel_rfl) ?hs ?hl _ _ _ ?st rfl (by decide) _ (by decide)
      case st =>
        refine ⟨rfl, undef, undef, undef, undef, undef, undef, undef, undef, undef, undef, rfl, ?_, ?_, ?_, ?_, ?_, ?_, ?_, ?_, ?_, ?_, ?_, ⟨fun _ => ⟨hr4h.out.1, hr4h.out.2.1, hr4h.out.2.2⟩, fun _ => (Chg.refl w4 (w.heap.size + 1)).drewN 1, (KeptBut.refl w4 _).drewN 1⟩⟩ <;> (intro e; exact absurd e (by decide))
      case hs =>
        rintro listed aq wx ⟨hz, v19, v20, v21, v22, v23, v24, v25, v26, v27, v28, rfl, hII⟩ i hin hi
        obtain ⟨h0, o, ho, hd⟩ := mem_ready.1 hi
        have K0 := Lib.hid hII.1
        have K1 := Lib.hid hII.2.1
        have K2 := Lib.hid hII.2.2.1
        have K3 := Lib.hid hII.2.2.2.1
        have K4 := Lib.hid hII.2.2.2.2.1
        have K5 := Lib.hid hII.2.2.2.2.2.1
        have K6 := Lib.hid hII.2.2.2.2.2.2.1
        have K7 := Lib.hid hII.2.2.2.2.2.2.2.1
        have K8 := Lib.hid hII.2.2.2.2.2.2.2.2.1
        have K9 := Lib.hid hII.2.2.2.2.2.2.2.2.2.1
        have K10 := Lib.hid hII.2.2.2.2.2.2.2.2.2.2.1
        have hB : ((listed.getD 7 false = false → Rdr wx (w.heap.size + 1) (w.heap.size + 1) A n' c (p2+1)) ∧ (listed.getD 10 false = false → Chg w4 wx (w.heap.size + 1)) ∧ KeptBut w4 wx (fun i => i = w.heap.size + 1 ∨ i = w.heap.size)) := hII.2.2.2.2.2.2.2.2.2.2.2
        have hne := Lib.hid (fun k (hk : i ≠ k) => @listed_ne listed i k hk)
        have h0f : listed.getD i false = false := by rw [Array.getD_eq_getD_getElem?, getD_false h0]; rfl
        clear hII hi h0
        rcases (by omega : i = 0 ∨ i = 1 ∨ i = 2 ∨ i = 3 ∨ i = 4 ∨ i = 5 ∨ i = 6 ∨ i = 7 ∨ i = 8 ∨ i = 9 ∨ i = 10) with rfl | rfl | rfl | rfl | rfl | rfl | rfl | rfl | rfl | rfl | rfl
        · cases ho
          have hyc := (hy4.out.but hB.2.2 (by show ¬ (G = w.heap.size + 1 ∨ G = w.heap.size); omega)).cell
          refine wpOp_step rfl (fun K hK => ?_)
          go_simp
          refine hK _ _ ⟨by simpa using hz, .agg #[.slice (some ⟨g1, 0, none⟩) F.vs.length e1, .slice A2 F.ns.length e2], v20, v21, v22, v23, v24, v25, v26, v27, v28, rfl, ?_⟩
          exact ⟨fun _ => rfl, fun e => K1.out (hne.out 1 (by decide) e), fun e => K2.out (hne.out 2 (by decide) e), fun e => K3.out (hne.out 3 (by decide) e), fun e => K4.out (hne.out 4 (by decide) e), fun e => K5.out (hne.out 5 (by decide) e), fun e => K6.out (hne.out 6 (by decide) e), fun e => K7.out (hne.out 7 (by decide) e), fun e => K8.out (hne.out 8 (by decide) e), fun e => K9.out (hne.out 9 (by decide) e), fun e => (by obtain ⟨y0, y1⟩ := K10.out (hne.out 10 (by decide) e); exact ⟨getD_set_true y0, y1⟩), ⟨fun qq => hB.1 (set_falseD qq), fun qq => hB.2.1 (set_falseD qq), hB.2.2⟩⟩
        · cases ho
          refine wpOp_step rfl (fun K hK => ?_)
          go_simp
          refine hK _ _ ⟨by simpa using hz, v19, .pointer (some ⟨G, 0, none⟩), v21, v22, v23, v24, v25, v26, v27, v28, rfl, ?_⟩
          exact ⟨fun e => K0.out (hne.out 0 (by decide) e), fun _ => rfl, fun e => K2.out (hne.out 2 (by decide) e), fun e => K3.out (hne.out 3 (by decide) e), fun e => K4.out (hne.out 4 (by decide) e), fun e => K5.out (hne.out 5 (by decide) e), fun e => K6.out (hne.out 6 (by decide) e), fun e => K7.out (hne.out 7 (by decide) e), fun e => K8.out (hne.out 8 (by decide) e), fun e => K9.out (hne.out 9 (by decide) e), fun e => (by obtain ⟨y0, y1⟩ := K10.out (hne.out 10 (by decide) e); exact ⟨getD_set_true y0, y1⟩), ⟨fun qq => hB.1 (set_falseD qq), fun qq => hB.2.1 (set_falseD qq), hB.2.2⟩⟩
        · cases ho
          have d1 := hd ⟨1, .data⟩ (by simp) rfl
          obtain rfl := K1.out d1
          have hyc := (hy4.out.but hB.2.2 (by show ¬ (G = w.heap.size + 1 ∨ G = w.heap.size); omega)).cell
          refine wpOp_step rfl (fun K hK => ?_)
          go_simp
          refine hK _ _ ⟨by simpa using hz, v19, .pointer (some ⟨G, 0, none⟩), .slice (some ⟨g1, 0, none⟩) F.vs.length e1, v22, v23, v24, v25, v26, v27, v28, rfl, ?_⟩
          exact ⟨fun e => K0.out (hne.out 0 (by decide) e), fun e => K1.out (hne.out 1 (by decide) e), fun _ => rfl, fun e => K3.out (hne.out 3 (by decide) e), fun e => K4.out (hne.out 4 (by decide) e), fun e => K5.out (hne.out 5 (by decide) e), fun e => K6.out (hne.out 6 (by decide) e), fun e => K7.out (hne.out 7 (by decide) e), fun e => K8.out (hne.out 8 (by decide) e), fun e => K9.out (hne.out 9 (by decide) e), fun e => (by obtain ⟨y0, y1⟩ := K10.out (hne.out 10 (by decide) e); exact ⟨getD_set_true y0, y1⟩), ⟨fun qq => hB.1 (set_falseD qq), fun qq => hB.2.1 (set_falseD qq), hB.2.2⟩⟩
        · cases ho
          refine wpOp_step rfl (fun K hK => ?_)
          go_simp
          refine hK _ _ ⟨by simpa using hz, v19, v20, v21, .pointer (some ⟨w.heap.size + 1, 0, none⟩), v23, v24, v25, v26, v27, v28, rfl, ?_⟩
          exact ⟨fun e => K0.out (hne.out 0 (by decide) e), fun e => K1.out (hne.out 1 (by decide) e), fun e => K2.out (hne.out 2 (by decide) e), fun _ => rfl, fun e => K4.out (hne.out 4 (by decide) e), fun e => K5.out (hne.out 5 (by decide) e), fun e => K6.out (hne.out 6 (by decide) e), fun e => K7.out (hne.out 7 (by decide) e), fun e => K8.out (hne.out 8 (by decide) e), fun e => K9.out (hne.out 9 (by decide) e), fun e => (by obtain ⟨y0, y1⟩ := K10.out (hne.out 10 (by decide) e); exact ⟨getD_set_true y0, y1⟩), ⟨fun qq => hB.1 (set_falseD qq), fun qq => hB.2.1 (set_falseD qq), hB.2.2⟩⟩
        · cases ho
          refine wpOp_step rfl (fun K hK => ?_)
          go_simp
          refine hK _ _ ⟨by simpa using hz, v19, v20, v21, v22, .pointer (some ⟨G, 0, none⟩), v24, v25, v26, v27, v28, rfl, ?_⟩
          exact ⟨fun e => K0.out (hne.out 0 (by decide) e), fun e => K1.out (hne.out 1 (by decide) e), fun e => K2.out (hne.out 2 (by decide) e), fun e => K3.out (hne.out 3 (by decide) e), fun _ => rfl, fun e => K5.out (hne.out 5 (by decide) e), fun e => K6.out (hne.out 6 (by decide) e), fun e => K7.out (hne.out 7 (by decide) e), fun e => K8.out (hne.out 8 (by decide) e), fun e => K9.out (hne.out 9 (by decide) e), fun e => (by obtain ⟨y0, y1⟩ := K10.out (hne.out 10 (by decide) e); exact ⟨getD_set_true y0, y1⟩), ⟨fun qq => hB.1 (set_falseD qq), fun qq => hB.2.1 (set_falseD qq), hB.2.2⟩⟩
        · cases ho
          have d4 := hd ⟨4, .data⟩ (by simp) rfl
          obtain rfl := K4.out d4
          have hyc := (hy4.out.but hB.2.2 (by show ¬ (G = w.heap.size + 1 ∨ G = w.heap.size); omega)).cell
          refine wpOp_step rfl (fun K hK => ?_)
          go_simp
          refine hK _ _ ⟨by simpa using hz, v19, v20, v21, v22, .pointer (some ⟨G, 0, none⟩), .slice (some ⟨g1, 0, none⟩) F.vs.length e1, v25, v26, v27, v28, rfl, ?_⟩
          exact ⟨fun e => K0.out (hne.out 0 (by decide) e), fun e => K1.out (hne.out 1 (by decide) e), fun e => K2.out (hne.out 2 (by decide) e), fun e => K3.out (hne.out 3 (by decide) e), fun e => K4.out (hne.out 4 (by decide) e), fun _ => rfl, fun e => K6.out (hne.out 6 (by decide) e), fun e => K7.out (hne.out 7 (by decide) e), fun e => K8.out (hne.out 8 (by decide) e), fun e => K9.out (hne.out 9 (by decide) e), fun e => (by obtain ⟨y0, y1⟩ := K10.out (hne.out 10 (by decide) e); exact ⟨getD_set_true y0, y1⟩), ⟨fun qq => hB.1 (set_falseD qq), fun qq => hB.2.1 (set_falseD qq), hB.2.2⟩⟩
        · cases ho
          have d5 := hd ⟨5, .data⟩ (by simp) rfl
          obtain rfl := K5.out d5
          refine wpOp_step rfl (fun K hK => ?_)
          go_simp
          refine hK _ _ ⟨by simpa using hz, v19, v20, v21, v22, v23, .slice (some ⟨g1, 0, none⟩) F.vs.length e1, .int .i64 (F.vs.length : Int), v26, v27, v28, rfl, ?_⟩
          exact ⟨fun e => K0.out (hne.out 0 (by decide) e), fun e => K1.out (hne.out 1 (by decide) e), fun e => K2.out (hne.out 2 (by decide) e), fun e => K3.out (hne.out 3 (by decide) e), fun e => K4.out (hne.out 4 (by decide) e), fun e => K5.out (hne.out 5 (by decide) e), fun _ => rfl, fun e => K7.out (hne.out 7 (by decide) e), fun e => K8.out (hne.out 8 (by decide) e), fun e => K9.out (hne.out 9 (by decide) e), fun e => (by obtain ⟨y0, y1⟩ := K10.out (hne.out 10 (by decide) e); exact ⟨getD_set_true y0, y1⟩), ⟨fun qq => hB.1 (set_falseD qq), fun qq => hB.2.1 (set_falseD qq), hB.2.2⟩⟩
        · cases ho
          have d3 := hd ⟨3, .data⟩ (by simp) rfl
          have d6 := hd ⟨6, .data⟩ (by simp) rfl
          obtain rfl := K3.out d3
          obtain rfl := K6.out d6
          refine wpOp_step rfl (fun K hK => ?_)
          go_simp
          go_at_call 85
          refine (pick_any (w.heap.size + 1) A n' c (p2+1) (w.heap.size + 1) (F.vs.length : Int) _ (hB.1 h0f) (by omega) hn' (by omega)).mono ?_
          rintro e w3 ⟨x, rfl, hx0, hx5, hRx, hcx⟩
          obtain ⟨k, rfl⟩ : ∃ k : Nat, x = (k : Int) := ⟨x.toNat, by omega⟩
          refine hK _ _ ⟨by simpa using hz, v19, v20, v21, .pointer (some ⟨w.heap.size + 1, 0, none⟩), v23, v24, .int .i64 (F.vs.length : Int), .int .i64 (k : Int), v27, v28, rfl, ?_⟩
          exact ⟨fun e => K0.out (hne.out 0 (by decide) e), fun e => K1.out (hne.out 1 (by decide) e), fun e => K2.out (hne.out 2 (by decide) e), fun e => K3.out (hne.out 3 (by decide) e), fun e => K4.out (hne.out 4 (by decide) e), fun e => K5.out (hne.out 5 (by decide) e), fun e => K6.out (hne.out 6 (by decide) e), fun _ => ⟨k, rfl, hx5⟩, fun e => K8.out (hne.out 8 (by decide) e), fun e => K9.out (hne.out 9 (by decide) e), fun e => absurd (K10.out (hne.out 10 (by decide) e)).1 (by rw [h0f]; decide), ⟨fun qq => absurd qq (by rw [set_self_getD (by omega)]; decide), fun qq => (hB.2.1 (set_falseD qq)).trans hcx, hB.2.2.trans (KeptBut.of_grown hcx (S := fun i => i = w.heap.size + 1 ∨ i = w.heap.size) (fun k e => Or.inl (by injection e with e; exact e.symm))) (fun _ _ h => h)⟩⟩
        · cases ho
          have d2 := hd ⟨2, .data⟩ (by simp) rfl
          have d7 := hd ⟨7, .data⟩ (by simp) rfl
          obtain rfl := K2.out d2
          obtain ⟨k, rfl, hk7⟩ := K7.out d7
          have hk0 : (0 : Int) ≤ (k : Int) := by omega
          refine wpOp_step rfl (fun K hK => ?_)
          go_simp
          refine hK _ _ ⟨by simpa using hz, v19, v20, .slice (some ⟨g1, 0, none⟩) F.vs.length e1, v22, v23, v24, v25, .int .i64 (k : Int), .pointer (some ⟨g1, k, none⟩), v28, rfl, ?_⟩
          exact ⟨fun e => K0.out (hne.out 0 (by decide) e), fun e => K1.out (hne.out 1 (by decide) e), fun e => K2.out (hne.out 2 (by decide) e), fun e => K3.out (hne.out 3 (by decide) e), fun e => K4.out (hne.out 4 (by decide) e), fun e => K5.out (hne.out 5 (by decide) e), fun e => K6.out (hne.out 6 (by decide) e), fun e => K7.out (hne.out 7 (by decide) e), fun _ => ⟨k, rfl, by omega⟩, fun e => K9.out (hne.out 9 (by decide) e), fun e => (by obtain ⟨y0, y1⟩ := K10.out (hne.out 10 (by decide) e); exact ⟨getD_set_true y0, y1⟩), ⟨fun qq => hB.1 (set_falseD qq), fun qq => hB.2.1 (set_falseD qq), hB.2.2⟩⟩
        · cases ho
          have d8 := hd ⟨8, .data⟩ (by simp) rfl
          obtain ⟨j, rfl, hj⟩ := K8.out d8
          obtain ⟨g9, o9, d, hA9, hg9, hs9, cj⟩ := (hV4.out.but2 hB.2.2 (fun k e => by show ¬ (k = w.heap.size + 1 ∨ k = w.heap.size); omega)).fac.1.at_ hj
          injection hA9 with hA9
          injection hA9 with hA9 hA8 _
          subst hA9 hA8
          rw [Nat.zero_add] at cj
          refine wpOp_step rfl (fun K hK => ?_)
          go_simp
          refine hK _ _ ⟨by simpa using hz, v19, v20, v21, v22, v23, v24, v25, v26, .pointer (some ⟨g1, j, none⟩), .int .i64 d, rfl, ?_⟩
          exact ⟨fun e => K0.out (hne.out 0 (by decide) e), fun e => K1.out (hne.out 1 (by decide) e), fun e => K2.out (hne.out 2 (by decide) e), fun e => K3.out (hne.out 3 (by decide) e), fun e => K4.out (hne.out 4 (by decide) e), fun e => K5.out (hne.out 5 (by decide) e), fun e => K6.out (hne.out 6 (by decide) e), fun e => K7.out (hne.out 7 (by decide) e), fun e => K8.out (hne.out 8 (by decide) e), fun _ => ⟨_, rfl⟩, fun e => (by obtain ⟨y0, y1⟩ := K10.out (hne.out 10 (by decide) e); exact ⟨getD_set_true y0, y1⟩), ⟨fun qq => hB.1 (set_falseD qq), fun qq => hB.2.1 (set_falseD qq), hB.2.2⟩⟩
        · cases ho
          have d7 := hd ⟨7, .chain⟩ (by simp) rfl
          have d0 := hd ⟨0, .data⟩ (by simp) rfl
          obtain rfl := K0.out d0
          have hxn := hx4.out.chg (hB.2.1 h0f) (by omega)
          have hxc := hxn.cell
          have hxf := hxn.frozen
          refine wpOp_step rfl (fun K hK => ?_)
          go_simp
          refine hK _ _ ⟨by simpa using hz, .agg #[.slice (some ⟨g1, 0, none⟩) F.vs.length e1, .slice A2 F.ns.length e2], v20, v21, v22, v23, v24, v25, v26, v27, v28, rfl, ?_⟩
          exact ⟨fun e => K0.out (hne.out 0 (by decide) e), fun e => K1.out (hne.out 1 (by decide) e), fun e => K2.out (hne.out 2 (by decide) e), fun e => K3.out (hne.out 3 (by decide) e), fun e => K4.out (hne.out 4 (by decide) e), fun e => K5.out (hne.out 5 (by decide) e), fun e => K6.out (hne.out 6 (by decide) e), fun e => K7.out (hne.out 7 (by decide) e), fun e => K8.out (hne.out 8 (by decide) e), fun e => K9.out (hne.out 9 (by decide) e), fun _ => ⟨getD_set_true d7, (hxn.put 0 (.slice (some ⟨g1, 0, none⟩) F.vs.length e1)).put 1 (.slice A2 F.ns.length e2)⟩, ⟨fun qq => absurd (set_falseD qq) (by rw [d7]; decide), fun qq => absurd qq (by rw [set_self_getD (by omega)]; decide), (hB.2.2.put (p := ⟨w.heap.size, 0, none⟩) (fun _ => Or.inr rfl) _).put (p := ⟨w.heap.size, 1, none⟩) (fun _ => Or.inr rfl) _⟩⟩
      case hl =>
        rintro listed aq wx ⟨hz, v19, v20, v21, v22, v23, v24, v25, v26, v27, v28, rfl, hII⟩ hall
        have K0 := Lib.hid hII.1
        have K1 := Lib.hid hII.2.1
        have K2 := Lib.hid hII.2.2.1
        have K3 := Lib.hid hII.2.2.2.1
        have K4 := Lib.hid hII.2.2.2.2.1
        have K5 := Lib.hid hII.2.2.2.2.2.1
        have K6 := Lib.hid hII.2.2.2.2.2.2.1
        have K7 := Lib.hid hII.2.2.2.2.2.2.2.1
        have K8 := Lib.hid hII.2.2.2.2.2.2.2.2.1
        have K9 := Lib.hid hII.2.2.2.2.2.2.2.2.2.1
        have K10 := Lib.hid hII.2.2.2.2.2.2.2.2.2.2.1
        have hB : ((listed.getD 7 false = false → Rdr wx (w.heap.size + 1) (w.heap.size + 1) A n' c (p2+1)) ∧ (listed.getD 10 false = false → Chg w4 wx (w.heap.size + 1)) ∧ KeptBut w4 wx (fun i => i = w.heap.size + 1 ∨ i = w.heap.size)) := hII.2.2.2.2.2.2.2.2.2.2.2
        clear hII
        obtain rfl := K0.out (hall 0 (by decide))
        obtain rfl := K1.out (hall 1 (by decide))
        obtain rfl := K2.out (hall 2 (by decide))
        obtain rfl := K3.out (hall 3 (by decide))
        obtain rfl := K4.out (hall 4 (by decide))
        obtain rfl := K5.out (hall 5 (by decide))
        obtain rfl := K6.out (hall 6 (by decide))
        obtain ⟨k, rfl, hk7⟩ := K7.out (hall 7 (by decide))
        obtain ⟨j, rfl, hj⟩ := K8.out (hall 8 (by decide))
        obtain ⟨d, rfl⟩ := K9.out (hall 9 (by decide))
        obtain ⟨_, hxE⟩ := K10.out (hall 10 (by decide))
        clear hall K0 K1 K2 K3 K4 K5 K6 K7 K8 K9 K10
        unfold wpSeq
        refine wpOp_step rfl (fun K0 hK0 => ?_)
        go_simp
        refine hK0 _ _ ?_
        clear hK0
        unfold wpSeq
        have hp1 := hxE.cell 0
        have hp2' := hxE.cell 1
        have hV9 := Lib.hid (hV4.out.but2 hB.2.2 (fun k e => by show ¬ (k = w.heap.size + 1 ∨ k = w.heap.size); omega))
        have hB9 := Lib.hid (below_but hB4.out hB.2.2 (fun k e => by rcases e with e | e <;> omega))
        clear hB
        go_wp2_with fail
        refine bodyPost_ret (v := .tuple #[.agg #[.slice (some ⟨g1, 0, none⟩) F.vs.length e1, .slice A2 F.ns.length e2], .int .i64 d]) (by simp [results, Try.results48, go_sem, hp1, hp2']) rfl ⟨_, _, F, _, rfl, hV9.out.le (by omega), hl1, hl2, hB9.out⟩
    · go_wp2_with fail
      refine wp_region_any (by kernel_rfl) ?_
      change wpAny _ _ _ _ _ _ _ (World.drew _)
      refine wpAny_tail (n := 3) (c := 1) (I := fun listed aq wx => listed.size = 5 ∧ ∃ v29 v30 v31 : Value, aq = { tmps := #[.slice A n c, undef, .pointer (some ⟨w.heap.size, 0, none⟩), .int .i64 0, .pointer (some ⟨w.heap.size + 1, 0, none⟩), .pointer (some ⟨G, 0, none⟩), .slice A n c, .pointer (some ⟨w.heap.size + 1, 0, none⟩), .pointer (some ⟨w.heap.size + 1, 0, none⟩), .agg #[.slice A1 F.vs.length e1, .slice A2 F.ns.length e2], .pointer (some ⟨G, 0, none⟩), .slice A1 F.vs.length e1, .int .i64 ((F.vs.length : Nat) : Int), .bool true, .bool true, .pointer (some ⟨w.heap.size + 1, 0, none⟩), .int .i64 y, .bool (decide (0 < y)), .bool (decide (0 < y)), undef, undef, undef, undef, undef, undef, undef, undef, undef, undef, v29, v30, v31], defers := [] } ∧ (listed.getD 0 false = true → v29 = .agg #[.slice A1 F.vs.length e1, .slice A2 F.ns.length e2]) ∧ (listed.getD 1 false = true → v30 = .pointer (some ⟨w.heap.size + 1, 0, none⟩)) ∧ (listed.getD 2 false = true → (∃ k : Nat, v31 = .int .i64 (k : Int) ∧ (k : Int) < 5)) ∧ ((listed.getD 2 false = false → Rdr wx (w.heap.size + 1) (w.heap.size + 1) A n' c (p2+1)) ∧ Chg w4 wx (w.heap.size + 1))) rfl (by kernel_rfl) (by kernel_rfl) (by kernel_rfl) ?hs ?hl _ _ _ ?st rfl (by decide) _ (by decide)
      case st =>
        refine ⟨rfl, undef, undef, undef, rfl, ?_, ?_, ?_, ⟨fun _ => ⟨hr4h.out.1, hr4h.out.2.1, hr4h.out.2.2⟩, (Chg.refl w4 (w.heap.size + 1)).drewN 1⟩⟩ <;> (intro e; exact absurd e (by decide))
      case hs =>
        rintro listed aq wx ⟨hz, v29, v30, v31, rfl, hII⟩ i hin hi
        obtain ⟨h0, o, ho, hd⟩ := mem_ready.1 hi
        have K0 := Lib.hid hII.1
        have K1 := Lib.hid hII.2.1
        have K2 := Lib.hid hII.2.2.1
        have hB : ((listed.getD 2 false = false → Rdr wx (w.heap.size + 1) (w.heap.size + 1) A n' c (p2+1)) ∧ Chg w4 wx (w.heap.size + 1)) := hII.2.2.2
        have hne := Lib.hid (fun k (hk : i ≠ k) => @listed_ne listed i k hk)
        have h0f : listed.getD i false = false := by rw [Array.getD_eq_getD_getElem?, getD_false h0]; rfl
        clear hII hi h0
        rcases (by omega : i = 0 ∨ i = 1 ∨ i = 2) with rfl | rfl | rfl
        · cases ho
          have hyc := (hy4.out.chg hB.2 (by omega)).cell
          refine wpOp_step rfl (fun K hK => ?_)
          go_simp
          refine hK _ _ ⟨by simpa using hz, .agg #[.slice A1 F.vs.length e1, .slice A2 F.ns.length e2], v30, v31, rfl, ?_⟩
          exact ⟨fun _ => rfl, fun e => K1.out (hne.out 1 (by decide) e), fun e => K2.out (hne.out 2 (by decide) e), ⟨fun qq => hB.1 (set_falseD qq), hB.2⟩⟩
        · cases ho
          refine wpOp_step rfl (fun K hK => ?_)
          go_simp
          refine hK _ _ ⟨by simpa using hz, v29, .pointer (some ⟨w.heap.size + 1, 0, none⟩), v31, rfl, ?_⟩
          exact ⟨fun e => K0.out (hne.out 0 (by decide) e), fun _ => rfl, fun e => K2.out (hne.out 2 (by decide) e), ⟨fun qq => hB.1 (set_falseD qq), hB.2⟩⟩
        · cases ho
          have d1 := hd ⟨1, .data⟩ (by simp) rfl
          obtain rfl := K1.out d1
          refine wpOp_step rfl (fun K hK => ?_)
          go_simp
          go_at_call 85
          refine (pick_any (w.heap.size + 1) A n' c (p2+1) (w.heap.size + 1) 5 _ (hB.1 h0f) (by omega) hn' (by omega)).mono ?_
          rintro e w3 ⟨x, rfl, hx0, hx5, hRx, hcx⟩
          obtain ⟨k, rfl⟩ : ∃ k : Nat, x = (k : Int) := ⟨x.toNat, by omega⟩
          refine hK _ _ ⟨by simpa using hz, v29, .pointer (some ⟨w.heap.size + 1, 0, none⟩), .int .i64 (k : Int), rfl, ?_⟩
          exact ⟨fun e => K0.out (hne.out 0 (by decide) e), fun e => K1.out (hne.out 1 (by decide) e), fun _ => ⟨k, rfl, hx5⟩, ⟨fun qq => absurd qq (by rw [set_self_getD (by omega)]; decide), hB.2.trans hcx⟩⟩
      case hl =>
        rintro listed aq wx ⟨hz, v29, v30, v31, rfl, hII⟩ hall
        have K0 := Lib.hid hII.1
        have K1 := Lib.hid hII.2.1
        have K2 := Lib.hid hII.2.2.1
        have hB : ((listed.getD 2 false = false → Rdr wx (w.heap.size + 1) (w.heap.size + 1) A n' c (p2+1)) ∧ Chg w4 wx (w.heap.size + 1)) := hII.2.2.2
        clear hII
        obtain rfl := K0.out (hall 0 (by decide))
        obtain rfl := K1.out (hall 1 (by decide))
        obtain ⟨k, rfl, hk2⟩ := K2.out (hall 2 (by decide))
        clear hall K0 K1 K2
        have hxn := hx4.out.chg hB.2 (by omega)
        have hxc := hxn.cell
        have hxf := hxn.frozen
        unfold wpSeq
        refine wpOp_step rfl (fun K0 hK0 => ?_)
        go_simp
        refine hK0 _ _ ?_
        clear hK0
        unfold wpSeq
        refine wpOp_step rfl (fun K1 hK1 => ?_)
        go_simp
        refine hK1 _ _ ?_
        clear hK1
        unfold wpSeq
        have hxn3 := hx4.out.chg hB.2 (by omega)
        have hp1 := ((hxn3.put 0 (.slice A1 F.vs.length e1)).put 1 (.slice A2 F.ns.length e2)).cell 0
        have hp2' := ((hxn3.put 0 (.slice A1 F.vs.length e1)).put 1 (.slice A2 F.ns.length e2)).cell 1
        have hV9 := Lib.hid ((hV4.out.chg hB.2 (by omega)).put2 hxn3 (.slice A1 F.vs.length e1) (.slice A2 F.ns.length e2))
        have hB9 := Lib.hid (((hB4.out.trans (hB.2.below (B := w.heap.size) (by omega) hB4.out.size)).setCell (p := ⟨w.heap.size, 0, none⟩) (Nat.le_refl _) (.slice A1 F.vs.length e1)).setCell (p := ⟨w.heap.size, 1, none⟩) (Nat.le_refl _) (.slice A2 F.ns.length e2))
        clear hB
        go_wp2_with fail
        refine bodyPost_ret (v := .tuple #[.agg #[.slice A1 F.vs.length e1, .slice A2 F.ns.length e2], .int .i64 (k : Int)]) (by simp [results, Try.results48, go_sem, hp1, hp2']) rfl ⟨_, _, F, _, rfl, hV9.out.le (by omega), hl1, hl2, hB9.out⟩
  · have h00 : F.vs.length = 0 := by omega
    have hn0 : ¬ ((0 : Int) < (F.vs.length : Int)) := by omega
    clear h00
    go_wp2_with fail
    generalize w2.alloc (.cells #[.slice A1 F.vs.length e1, .slice A2 F.ns.length e2] 36) = W3 at hV3 hx3 hy3 hr3 hB3 hc_y ⊢
    generalize w2.heap.size = G at hy3 hG hz2 hc_y ⊢
    refine wp_region_any (by kernel_rfl) ?_
    change wpAny _ _ _ _ _ _ _ (World.drew _)
    refine wpAny_tail (n := 3) (c := 1) (I := fun listed aq wx => listed.size = 5 ∧ ∃ v29 v30 v31 : Value, aq = { tmps := #[.slice A n c, undef, .pointer (some ⟨w.heap.size, 0, none⟩), .int .i64 0, .pointer (some ⟨w.heap.size + 1, 0, none⟩), .pointer (some ⟨G, 0, none⟩), .slice A n c, .pointer (some ⟨w.heap.size + 1, 0, none⟩), .pointer (some ⟨w.heap.size + 1, 0, none⟩), .agg #[.slice A1 F.vs.length e1, .slice A2 F.ns.length e2], .pointer (some ⟨G, 0, none⟩), .slice A1 F.vs.length e1, .int .i64 ((F.vs.length : Nat) : Int), .bool false, .bool false, undef, undef, undef, .bool false, undef, undef, undef, undef, undef, undef, undef, undef, undef, undef, v29, v30, v31], defers := [] } ∧ (listed.getD 0 false = true → v29 = .agg #[.slice A1 F.vs.length e1, .slice A2 F.ns.length e2]) ∧ (listed.getD 1 false = true → v30 = .pointer (some ⟨w.heap.size + 1, 0, none⟩)) ∧ (listed.getD 2 false = true → (∃ k : Nat, v31 = .int .i64 (k : Int) ∧ (k : Int) < 5)) ∧ ((listed.getD 2 false = false → Rdr wx (w.heap.size + 1) (w.heap.size + 1) A n' c p2) ∧ Chg W3 wx (w.heap.size + 1))) rfl (by kernel_rfl) (by kernel_rfl) (by kernel_rfl) ?hs ?hl _ _ _ ?st rfl (by decide) _ (by decide)
    case st =>
      refine ⟨rfl, undef, undef, undef, rfl, ?_, ?_, ?_, ⟨fun _ => ⟨hr3.out.1, hr3.out.2.1, hr3.out.2.2⟩, (Chg.refl W3 (w.heap.size + 1)).drewN 1⟩⟩ <;> (intro e; exact absurd e (by decide))
    case hs =>
      rintro listed aq wx ⟨hz, v29, v30, v31, rfl, hII⟩ i hin hi
      obtain ⟨h0, o, ho, hd⟩ := mem_ready.1 hi
      have K0 := Lib.hid hII.1
      have K1 := Lib.hid hII.2.1
      have K2 := Lib.hid hII.2.2.1
      have hB : ((listed.getD 2 false = false → Rdr wx (w.heap.size + 1) (w.heap.size + 1) A n' c p2) ∧ Chg W3 wx (w.heap.size + 1)) := hII.2.2.2
      have hne := Lib.hid (fun k (hk : i ≠ k) => @listed_ne listed i k hk)
      have h0f : listed.getD i false = false := by rw [Array.getD_eq_getD_getElem?, getD_false h0]; rfl
      clear hII hi h0
      rcases (by omega : i = 0 ∨ i = 1 ∨ i = 2) with rfl | rfl | rfl
      · cases ho
        have hyc := (hy3.out.chg hB.2 (by omega)).cell
        refine wpOp_step rfl (fun K hK => ?_)
        go_simp
        refine hK _ _ ⟨by simpa using hz, .agg #[.slice A1 F.vs.length e1, .slice A2 F.ns.length e2], v30, v31, rfl, ?_⟩
        exact ⟨fun _ => rfl, fun e => K1.out (hne.out 1 (by decide) e), fun e => K2.out (hne.out 2 (by decide) e), ⟨fun qq => hB.1 (set_falseD qq), hB.2⟩⟩
      · cases ho
        refine wpOp_step rfl (fun K hK => ?_)
        go_simp
        refine hK _ _ ⟨by simpa using hz, v29, .pointer (some ⟨w.heap.size + 1, 0, none⟩), v31, rfl, ?_⟩
        exact ⟨fun e => K0.out (hne.out 0 (by decide) e), fun _ => rfl, fun e => K2.out (hne.out 2 (by decide) e), ⟨fun qq => hB.1 (set_falseD qq), hB.2⟩⟩
      · cases ho
        have d1 := hd ⟨1, .data⟩ (by simp) rfl
        obtain rfl := K1.out d1
        refine wpOp_step rfl (fun K hK => ?_)
        go_simp
        go_at_call 85
        refine (pick_any (w.heap.size + 1) A n' c p2 (w.heap.size + 1) 5 _ (hB.1 h0f) (by omega) hn' (by omega)).mono ?_
        rintro e w3 ⟨x, rfl, hx0, hx5, hRx, hcx⟩
        obtain ⟨k, rfl⟩ : ∃ k : Nat, x = (k : Int) := ⟨x.toNat, by omega⟩
        refine hK _ _ ⟨by simpa using hz, v29, .pointer (some ⟨w.heap.size + 1, 0, none⟩), .int .i64 (k : Int), rfl, ?_⟩
        exact ⟨fun e => K0.out (hne.out 0 (by decide) e), fun e => K1.out (hne.out 1 (by decide) e), fun _ => ⟨k, rfl, hx5⟩, ⟨fun qq => absurd qq (by rw [set_self_getD (by omega)]; decide), hB.2.trans hcx⟩⟩
    case hl =>
      rintro listed aq wx ⟨hz, v29, v30, v31, rfl, hII⟩ hall
      have K0 := Lib.hid hII.1
      have K1 := Lib.hid hII.2.1
      have K2 := Lib.hid hII.2.2.1
      have hB : ((listed.getD 2 false = false → Rdr wx (w.heap.size + 1) (w.heap.size + 1) A n' c p2) ∧ Chg W3 wx (w.heap.size + 1)) := hII.2.2.2
      clear hII
      obtain rfl := K0.out (hall 0 (by decide))
      obtain rfl := K1.out (hall 1 (by decide))
      obtain ⟨k, rfl, hk2⟩ := K2.out (hall 2 (by decide))
      clear hall K0 K1 K2
      have hxn := hx3.out.chg hB.2 (by omega)
      have hxc := hxn.cell
      have hxf := hxn.frozen
      unfold wpSeq
      refine wpOp_step rfl (fun K0 hK0 => ?_)
      go_simp
      refine hK0 _ _ ?_
      clear hK0
      unfold wpSeq
      refine wpOp_step rfl (fun K1 hK1 => ?_)
      go_simp
      refine hK1 _ _ ?_
      clear hK1
      unfold wpSeq
      have hxn3 := hx3.out.chg hB.2 (by omega)
      have hp1 := ((hxn3.put 0 (.slice A1 F.vs.length e1)).put 1 (.slice A2 F.ns.length e2)).cell 0
      have hp2' := ((hxn3.put 0 (.slice A1 F.vs.length e1)).put 1 (.slice A2 F.ns.length e2)).cell 1
      have hV9 := Lib.hid ((hV3.out.chg hB.2 (by omega)).put2 hxn3 (.slice A1 F.vs.length e1) (.slice A2 F.ns.length e2))
      have hB9 := Lib.hid (((hB3.out.trans (hB.2.below (B := w.heap.size) (by omega) hB3.out.size)).setCell (p := ⟨w.heap.size, 0, none⟩) (Nat.le_refl _) (.slice A1 F.vs.length e1)).setCell (p := ⟨w.heap.size, 1, none⟩) (Nat.le_refl _) (.slice A2 F.ns.length e2))
      clear hB
      go_wp2_with fail
      refine bodyPost_ret (v := .tuple #[.agg #[.slice A1 F.vs.length e1, .slice A2 F.ns.length e2], .int .i64 (k : Int)]) (by simp [results, Try.results48, go_sem, hp1, hp2']) rfl ⟨_, _, F, _, rfl, hV9.out.le (by omega), hl1, hl2, hB9.out⟩
end Go.Proofs.Ytaipdkfbkcknkaa
