/- Weights with their slopes: the program's plus, times and weightOf. -/
import Derived.Test.YtbndonfpdioibaaS4
import Derived.Test.YtbndonfpdioibaaBn
namespace Go.Proofs.Ytbndonfpdioibaa
set_option maxRecDepth 100000
set_option linter.unusedVariables false
open Go.RowKit

theorem plus_any (a b c d : Int) (w : World) (h1 : IntKind.i64.wrap (a + c) = a + c) (h2 : IntKind.i64.wrap (b + d) = b + d) :
    Calls Try.prog 161 #[.agg #[.int .i64 a, .int .i64 b], .agg #[.int .i64 c, .int .i64 d]] w fun e w' => e = .returned (.agg #[.int .i64 (a + c), .int .i64 (b + d)]) ∧ Below w.heap.size w w' := by
  go_enter Try.func161, Try.ntmps161
  go_wp2_with fail
  refine bodyPost_ret (v := .agg #[.int .i64 (a + c), .int .i64 (b + d)]) (by simp [results, Try.results161, go_sem]) rfl ⟨rfl, ?_⟩
  exact (((Below.refl _ _).alloc (Nat.le_refl _) _).alloc (by simp) _).alloc (by simp; omega) _
theorem times_any (a b c d : Int) (w : World) (h1 : IntKind.i64.wrap (a * c) = a * c) (h2 : IntKind.i64.wrap (b * c) = b * c) (h3 : IntKind.i64.wrap (a * d) = a * d) (h4 : IntKind.i64.wrap (b * c + a * d) = b * c + a * d) :
    Calls Try.prog 162 #[.agg #[.int .i64 a, .int .i64 b], .agg #[.int .i64 c, .int .i64 d]] w fun e w' => e = .returned (.agg #[.int .i64 (a * c), .int .i64 (b * c + a * d)]) ∧ Below w.heap.size w w' := by
  go_enter Try.func162, Try.ntmps162
  go_wp2_with fail
  refine bodyPost_ret (v := .agg #[.int .i64 (a * c), .int .i64 (b * c + a * d)]) (by simp [results, Try.results162, go_sem]) rfl ⟨rfl, ?_⟩
  exact (((Below.refl _ _).alloc (Nat.le_refl _) _).alloc (by simp) _).alloc (by simp; omega) _
/-- What climbs: its statements, and what is asked for. -/
def Clh (w : World) (base g m : Nat) (A : Option Addr) (c : Nat) (os : List St) (a : Nat) (v : Int) (gR : Nat) : Prop :=
  Has w g 85 #[.slice A m c, .int .i64 a, .int .i64 v, .slice (some ⟨gR, 0, none⟩) (m + 1) (m + 1)] ∧ Lst w base A m os ∧ base ≤ w.heap.size
theorem Clh.below {w w' : World} {base g m c a gR : Nat} {A : Option Addr} {os : List St} {v : Int} (h : Clh w base g m A c os a v gR) (hb : Below w.heap.size w w') : Clh w' base g m A c os a v gR :=
  ⟨h.1.kept hb, h.2.1.below (hb.mono h.2.2), Nat.le_trans h.2.2 hb.size⟩
/-- The slope of one part. -/
def sl1 (s : St) (here : Bool) (v x : Int) : Int := if (here && decide (s.uses x = v)) = true then 1 else 0
set_option maxHeartbeats 2000000 in
theorem weightOf_far (w : World) (base g m c a gR i : Nat) (A : Option Addr) (os : List St) (v p x wt : Int) (h : Clh w base g m A c os a v gR) (hi : i ≠ a) :
    Calls Try.prog 163 #[.pointer (some ⟨g, 0, none⟩), .int .i64 i, .agg #[.int .i64 p, .int .i64 x, .int .i64 wt]] w fun e w' => e = .returned (.agg #[.int .i64 wt, .int .i64 0]) ∧ Below w.heap.size w w' := by
  have hne : ((i : Int) == (a : Int)) = false := by simp; omega
  have hBa := Lib.hid ((((Below.refl w.heap.size w).alloc (Nat.le_refl _) (.cells #[.int .i64 p, .int .i64 x, .int .i64 wt] 101)).alloc (by simp) (.cells #[.int .i64 0, .int .i64 0] 87)).alloc (by simp; omega) (.cells #[.int .i64 wt, .int .i64 0] 87))
  have e1 : (w.alloc (.cells #[.int .i64 p, .int .i64 x, .int .i64 wt] 101)).heap.size = w.heap.size + 1 := by simp
  have e2 : ((w.alloc (.cells #[.int .i64 p, .int .i64 x, .int .i64 wt] 101)).alloc (.cells #[.int .i64 0, .int .i64 0] 87)).heap.size = w.heap.size + 1 + 1 := by simp
  have hN5 := Lib.hid (((Has.new w 101 #[.int .i64 p, .int .i64 x, .int .i64 wt]).alloc (.cells #[.int .i64 0, .int .i64 0] 87)).alloc (.cells #[.int .i64 wt, .int .i64 0] 87))
  have hN6 := (Has.new (w.alloc (.cells #[.int .i64 p, .int .i64 x, .int .i64 wt] 101)) 87 #[.int .i64 0, .int .i64 0]).alloc (.cells #[.int .i64 wt, .int .i64 0] 87)
  have hN7 := Has.new ((w.alloc (.cells #[.int .i64 p, .int .i64 x, .int .i64 wt] 101)).alloc (.cells #[.int .i64 0, .int .i64 0] 87)) 87 #[.int .i64 wt, .int .i64 0]
  rw [e1] at hN6
  rw [e2] at hN7
  have hN6h := Lib.hid hN6
  have hN7h := Lib.hid hN7
  have hHa := Lib.hid (h.below hBa.out)
  clear e1 e2 hN6 hN7
  clear h hi
  go_enter Try.func163, Try.ntmps163
  go_wp2_with fail
  generalize ((w.alloc (.cells #[.int .i64 p, .int .i64 x, .int .i64 wt] 101)).alloc (.cells #[.int .i64 0, .int .i64 0] 87)).alloc (.cells #[.int .i64 wt, .int .i64 0] 87) = W0 at hBa hN5 hN6h hN7h hHa ⊢
  refine wp_region_any (by kernel_rfl) ?_
  change wpAny _ _ _ _ _ _ _ (World.drew _)
  refine wpAny_last (n := 22) (I := fun listed aq wx => listed.size = 23 ∧ ∃ v11 v12 v13 v14 v15 v16 v17 v18 v19 v20 v21 v22 v23 v24 v25 v26 v27 v28 v29 v30 v31 v32 : Value, aq = { tmps := #[.pointer (some ⟨g, 0, none⟩), .int .i64 ↑i, .agg #[.int .i64 p, .int .i64 x, .int .i64 wt], undef, undef, .pointer (some ⟨w.heap.size, 0, none⟩), .pointer (some ⟨w.heap.size + 1, 0, none⟩), .pointer (some ⟨w.heap.size + 1 + 1, 0, none⟩), .pointer (some ⟨w.heap.size, 2, none⟩), .int .i64 wt, .agg #[.int .i64 wt, .int .i64 0], v11, v12, v13, v14, v15, v16, v17, v18, v19, v20, v21, v22, v23, v24, v25, v26, v27, v28, v29, v30, v31, v32, undef, undef, undef], defers := [] } ∧ (listed.getD 0 false = true → v11 = .int .i64 ↑i) ∧ (listed.getD 1 false = true → v12 = .pointer (some ⟨g, 0, none⟩)) ∧ (listed.getD 2 false = true → v13 = .pointer (some ⟨g, 0, none⟩)) ∧ (listed.getD 3 false = true → v14 = .pointer (some ⟨g, 1, none⟩)) ∧ (listed.getD 4 false = true → v15 = .int .i64 ↑a) ∧ (listed.getD 5 false = true → v16 = .bool false) ∧ (listed.getD 6 false = true → v17 = .bool false) ∧ (listed.getD 7 false = true → v18 = undef) ∧ (listed.getD 8 false = true → v19 = undef) ∧ (listed.getD 9 false = true → v20 = undef) ∧ (listed.getD 10 false = true → v21 = undef) ∧ (listed.getD 11 false = true → v22 = undef) ∧ (listed.getD 12 false = true → v23 = undef) ∧ (listed.getD 13 false = true → v24 = undef) ∧ (listed.getD 14 false = true → v25 = undef) ∧ (listed.getD 15 false = true → v26 = undef) ∧ (listed.getD 16 false = true → v27 = undef) ∧ (listed.getD 17 false = true → v28 = undef) ∧ (listed.getD 18 false = true → v29 = undef) ∧ (listed.getD 19 false = true → v30 = undef) ∧ (listed.getD 20 false = true → v31 = undef) ∧ (listed.getD 21 false = true → v32 = undef) ∧ Below W0.heap.size W0 wx) rfl (by kernel_rfl) (by kernel_rfl) ?hs ?hl _ _ _ ?stq rfl (by decide) _ (by decide)
  case stq =>
    refine ⟨rfl, undef, undef, undef, undef, undef, undef, undef, undef, undef, undef, undef, undef, undef, undef, undef, undef, undef, undef, undef, undef, undef, undef, rfl, ?_, ?_, ?_, ?_, ?_, ?_, ?_, ?_, ?_, ?_, ?_, ?_, ?_, ?_, ?_, ?_, ?_, ?_, ?_, ?_, ?_, ?_, (Below.refl _ _).drew⟩ <;> (intro e; exact absurd e (by decide))
  case hs =>
    rintro listed aq wx ⟨hz, v11, v12, v13, v14, v15, v16, v17, v18, v19, v20, v21, v22, v23, v24, v25, v26, v27, v28, v29, v30, v31, v32, rfl, hII⟩ i hin hi
    obtain ⟨h0, o, ho, hd⟩ := mem_ready.1 hi
    have K0 := Lib.hid hII.1
    have K1 := Lib.hid hII.2.1
    have K2 := Lib.hid hII.2.2.1
    have K3 := Lib.hid hII.2.2.2.1
    have K4 := Lib.hid hII.2.2.2.2.1
    have K5 := Lib.hid hII.2.2.2.2.2.1
    have K6 := Lib.hid hII.2.2.2.2.2.2.1
    have K7 := Lib.hid hII.2.2.2.2.2.2.2.1
    have K8 := Lib.hid hII.2.2.2.2.2.2.2.2.1
    have K9 := Lib.hid hII.2.2.2.2.2.2.2.2.2.1
    have K10 := Lib.hid hII.2.2.2.2.2.2.2.2.2.2.1
    have K11 := Lib.hid hII.2.2.2.2.2.2.2.2.2.2.2.1
    have K12 := Lib.hid hII.2.2.2.2.2.2.2.2.2.2.2.2.1
    have K13 := Lib.hid hII.2.2.2.2.2.2.2.2.2.2.2.2.2.1
    have K14 := Lib.hid hII.2.2.2.2.2.2.2.2.2.2.2.2.2.2.1
    have K15 := Lib.hid hII.2.2.2.2.2.2.2.2.2.2.2.2.2.2.2.1
    have K16 := Lib.hid hII.2.2.2.2.2.2.2.2.2.2.2.2.2.2.2.2.1
    have K17 := Lib.hid hII.2.2.2.2.2.2.2.2.2.2.2.2.2.2.2.2.2.1
    have K18 := Lib.hid hII.2.2.2.2.2.2.2.2.2.2.2.2.2.2.2.2.2.2.1
    have K19 := Lib.hid hII.2.2.2.2.2.2.2.2.2.2.2.2.2.2.2.2.2.2.2.1
    have K20 := Lib.hid hII.2.2.2.2.2.2.2.2.2.2.2.2.2.2.2.2.2.2.2.2.1
    have K21 := Lib.hid hII.2.2.2.2.2.2.2.2.2.2.2.2.2.2.2.2.2.2.2.2.2.1
    have hB : Below W0.heap.size W0 wx := hII.2.2.2.2.2.2.2.2.2.2.2.2.2.2.2.2.2.2.2.2.2.2
    have hne := Lib.hid (fun k (hk : i ≠ k) => @listed_ne listed i k hk)
    have g9 := (hHa.out.below hB).1.cell
    have h0f : listed.getD i false = false := by rw [Array.getD_eq_getD_getElem?, getD_false h0]; rfl
    clear hII hi h0
    rcases (by omega : i = 0 ∨ i = 1 ∨ i = 2 ∨ i = 3 ∨ i = 4 ∨ i = 5 ∨ i = 6 ∨ i = 7 ∨ i = 8 ∨ i = 9 ∨ i = 10 ∨ i = 11 ∨ i = 12 ∨ i = 13 ∨ i = 14 ∨ i = 15 ∨ i = 16 ∨ i = 17 ∨ i = 18 ∨ i = 19 ∨ i = 20 ∨ i = 21) with rfl | rfl | rfl | rfl | rfl | rfl | rfl | rfl | rfl | rfl | rfl | rfl | rfl | rfl | rfl | rfl | rfl | rfl | rfl | rfl | rfl | rfl
    · cases ho
      refine wpOp_step rfl (fun K hK => ?_)
      go_simp
      refine hK _ _ ⟨by simpa using hz, .int .i64 ↑i, v12, v13, v14, v15, v16, v17, v18, v19, v20, v21, v22, v23, v24, v25, v26, v27, v28, v29, v30, v31, v32, rfl, ?_⟩
      exact ⟨fun _ => rfl, fun e => K1.out (hne.out 1 (by decide) e), fun e => K2.out (hne.out 2 (by decide) e), fun e => K3.out (hne.out 3 (by decide) e), fun e => K4.out (hne.out 4 (by decide) e), fun e => K5.out (hne.out 5 (by decide) e), fun e => K6.out (hne.out 6 (by decide) e), fun e => K7.out (hne.out 7 (by decide) e), fun e => K8.out (hne.out 8 (by decide) e), fun e => K9.out (hne.out 9 (by decide) e), fun e => K10.out (hne.out 10 (by decide) e), fun e => K11.out (hne.out 11 (by decide) e), fun e => K12.out (hne.out 12 (by decide) e), fun e => K13.out (hne.out 13 (by decide) e), fun e => K14.out (hne.out 14 (by decide) e), fun e => K15.out (hne.out 15 (by decide) e), fun e => K16.out (hne.out 16 (by decide) e), fun e => K17.out (hne.out 17 (by decide) e), fun e => K18.out (hne.out 18 (by decide) e), fun e => K19.out (hne.out 19 (by decide) e), fun e => K20.out (hne.out 20 (by decide) e), fun e => K21.out (hne.out 21 (by decide) e), hB⟩
    · cases ho
      refine wpOp_step rfl (fun K hK => ?_)
      go_simp
      refine hK _ _ ⟨by simpa using hz, v11, .pointer (some ⟨g, 0, none⟩), v13, v14, v15, v16, v17, v18, v19, v20, v21, v22, v23, v24, v25, v26, v27, v28, v29, v30, v31, v32, rfl, ?_⟩
      exact ⟨fun e => K0.out (hne.out 0 (by decide) e), fun _ => rfl, fun e => K2.out (hne.out 2 (by decide) e), fun e => K3.out (hne.out 3 (by decide) e), fun e => K4.out (hne.out 4 (by decide) e), fun e => K5.out (hne.out 5 (by decide) e), fun e => K6.out (hne.out 6 (by decide) e), fun e => K7.out (hne.out 7 (by decide) e), fun e => K8.out (hne.out 8 (by decide) e), fun e => K9.out (hne.out 9 (by decide) e), fun e => K10.out (hne.out 10 (by decide) e), fun e => K11.out (hne.out 11 (by decide) e), fun e => K12.out (hne.out 12 (by decide) e), fun e => K13.out (hne.out 13 (by decide) e), fun e => K14.out (hne.out 14 (by decide) e), fun e => K15.out (hne.out 15 (by decide) e), fun e => K16.out (hne.out 16 (by decide) e), fun e => K17.out (hne.out 17 (by decide) e), fun e => K18.out (hne.out 18 (by decide) e), fun e => K19.out (hne.out 19 (by decide) e), fun e => K20.out (hne.out 20 (by decide) e), fun e => K21.out (hne.out 21 (by decide) e), hB⟩
    · cases ho
      have d1 := hd ⟨1, .data⟩ (by simp) rfl
      obtain rfl := K1.out d1
      refine wpOp_step rfl (fun K hK => ?_)
      go_simp
      refine hK _ _ ⟨by simpa using hz, v11, .pointer (some ⟨g, 0, none⟩), .pointer (some ⟨g, 0, none⟩), v14, v15, v16, v17, v18, v19, v20, v21, v22, v23, v24, v25, v26, v27, v28, v29, v30, v31, v32, rfl, ?_⟩
      exact ⟨fun e => K0.out (hne.out 0 (by decide) e), fun e => K1.out (hne.out 1 (by decide) e), fun _ => rfl, fun e => K3.out (hne.out 3 (by decide) e), fun e => K4.out (hne.out 4 (by decide) e), fun e => K5.out (hne.out 5 (by decide) e), fun e => K6.out (hne.out 6 (by decide) e), fun e => K7.out (hne.out 7 (by decide) e), fun e => K8.out (hne.out 8 (by decide) e), fun e => K9.out (hne.out 9 (by decide) e), fun e => K10.out (hne.out 10 (by decide) e), fun e => K11.out (hne.out 11 (by decide) e), fun e => K12.out (hne.out 12 (by decide) e), fun e => K13.out (hne.out 13 (by decide) e), fun e => K14.out (hne.out 14 (by decide) e), fun e => K15.out (hne.out 15 (by decide) e), fun e => K16.out (hne.out 16 (by decide) e), fun e => K17.out (hne.out 17 (by decide) e), fun e => K18.out (hne.out 18 (by decide) e), fun e => K19.out (hne.out 19 (by decide) e), fun e => K20.out (hne.out 20 (by decide) e), fun e => K21.out (hne.out 21 (by decide) e), hB⟩
    · cases ho
      have d2 := hd ⟨2, .data⟩ (by simp) rfl
      obtain rfl := K2.out d2
      refine wpOp_step rfl (fun K hK => ?_)
      go_simp
      refine hK _ _ ⟨by simpa using hz, v11, v12, .pointer (some ⟨g, 0, none⟩), .pointer (some ⟨g, 1, none⟩), v15, v16, v17, v18, v19, v20, v21, v22, v23, v24, v25, v26, v27, v28, v29, v30, v31, v32, rfl, ?_⟩
      exact ⟨fun e => K0.out (hne.out 0 (by decide) e), fun e => K1.out (hne.out 1 (by decide) e), fun e => K2.out (hne.out 2 (by decide) e), fun _ => rfl, fun e => K4.out (hne.out 4 (by decide) e), fun e => K5.out (hne.out 5 (by decide) e), fun e => K6.out (hne.out 6 (by decide) e), fun e => K7.out (hne.out 7 (by decide) e), fun e => K8.out (hne.out 8 (by decide) e), fun e => K9.out (hne.out 9 (by decide) e), fun e => K10.out (hne.out 10 (by decide) e), fun e => K11.out (hne.out 11 (by decide) e), fun e => K12.out (hne.out 12 (by decide) e), fun e => K13.out (hne.out 13 (by decide) e), fun e => K14.out (hne.out 14 (by decide) e), fun e => K15.out (hne.out 15 (by decide) e), fun e => K16.out (hne.out 16 (by decide) e), fun e => K17.out (hne.out 17 (by decide) e), fun e => K18.out (hne.out 18 (by decide) e), fun e => K19.out (hne.out 19 (by decide) e), fun e => K20.out (hne.out 20 (by decide) e), fun e => K21.out (hne.out 21 (by decide) e), hB⟩
    · cases ho
      have d3 := hd ⟨3, .data⟩ (by simp) rfl
      obtain rfl := K3.out d3
      refine wpOp_step rfl (fun K hK => ?_)
      go_simp
      refine hK _ _ ⟨by simpa using hz, v11, v12, v13, .pointer (some ⟨g, 1, none⟩), .int .i64 ↑a, v16, v17, v18, v19, v20, v21, v22, v23, v24, v25, v26, v27, v28, v29, v30, v31, v32, rfl, ?_⟩
      exact ⟨fun e => K0.out (hne.out 0 (by decide) e), fun e => K1.out (hne.out 1 (by decide) e), fun e => K2.out (hne.out 2 (by decide) e), fun e => K3.out (hne.out 3 (by decide) e), fun _ => rfl, fun e => K5.out (hne.out 5 (by decide) e), fun e => K6.out (hne.out 6 (by decide) e), fun e => K7.out (hne.out 7 (by decide) e), fun e => K8.out (hne.out 8 (by decide) e), fun e => K9.out (hne.out 9 (by decide) e), fun e => K10.out (hne.out 10 (by decide) e), fun e => K11.out (hne.out 11 (by decide) e), fun e => K12.out (hne.out 12 (by decide) e), fun e => K13.out (hne.out 13 (by decide) e), fun e => K14.out (hne.out 14 (by decide) e), fun e => K15.out (hne.out 15 (by decide) e), fun e => K16.out (hne.out 16 (by decide) e), fun e => K17.out (hne.out 17 (by decide) e), fun e => K18.out (hne.out 18 (by decide) e), fun e => K19.out (hne.out 19 (by decide) e), fun e => K20.out (hne.out 20 (by decide) e), fun e => K21.out (hne.out 21 (by decide) e), hB⟩
    · cases ho
      have d0 := hd ⟨0, .data⟩ (by simp) rfl
      have d4 := hd ⟨4, .data⟩ (by simp) rfl
      obtain rfl := K0.out d0
      obtain rfl := K4.out d4
      refine wpOp_step rfl (fun K hK => ?_)
      go_simp
      refine hK _ _ ⟨by simpa using hz, .int .i64 ↑i, v12, v13, v14, .int .i64 ↑a, .bool false, v17, v18, v19, v20, v21, v22, v23, v24, v25, v26, v27, v28, v29, v30, v31, v32, rfl, ?_⟩
      exact ⟨fun e => K0.out (hne.out 0 (by decide) e), fun e => K1.out (hne.out 1 (by decide) e), fun e => K2.out (hne.out 2 (by decide) e), fun e => K3.out (hne.out 3 (by decide) e), fun e => K4.out (hne.out 4 (by decide) e), fun _ => rfl, fun e => K6.out (hne.out 6 (by decide) e), fun e => K7.out (hne.out 7 (by decide) e), fun e => K8.out (hne.out 8 (by decide) e), fun e => K9.out (hne.out 9 (by decide) e), fun e => K10.out (hne.out 10 (by decide) e), fun e => K11.out (hne.out 11 (by decide) e), fun e => K12.out (hne.out 12 (by decide) e), fun e => K13.out (hne.out 13 (by decide) e), fun e => K14.out (hne.out 14 (by decide) e), fun e => K15.out (hne.out 15 (by decide) e), fun e => K16.out (hne.out 16 (by decide) e), fun e => K17.out (hne.out 17 (by decide) e), fun e => K18.out (hne.out 18 (by decide) e), fun e => K19.out (hne.out 19 (by decide) e), fun e => K20.out (hne.out 20 (by decide) e), fun e => K21.out (hne.out 21 (by decide) e), hB⟩
    · cases ho
      have d5 := hd ⟨5, .data⟩ (by simp) rfl
      obtain rfl := K5.out d5
      refine wpOp_step rfl (fun K hK => ?_)
      go_simp
      refine hK _ _ ⟨by simpa using hz, v11, v12, v13, v14, v15, .bool false, .bool false, v18, v19, v20, v21, v22, v23, v24, v25, v26, v27, v28, v29, v30, v31, v32, rfl, ?_⟩
      exact ⟨fun e => K0.out (hne.out 0 (by decide) e), fun e => K1.out (hne.out 1 (by decide) e), fun e => K2.out (hne.out 2 (by decide) e), fun e => K3.out (hne.out 3 (by decide) e), fun e => K4.out (hne.out 4 (by decide) e), fun e => K5.out (hne.out 5 (by decide) e), fun _ => rfl, fun e => K7.out (hne.out 7 (by decide) e), fun e => K8.out (hne.out 8 (by decide) e), fun e => K9.out (hne.out 9 (by decide) e), fun e => K10.out (hne.out 10 (by decide) e), fun e => K11.out (hne.out 11 (by decide) e), fun e => K12.out (hne.out 12 (by decide) e), fun e => K13.out (hne.out 13 (by decide) e), fun e => K14.out (hne.out 14 (by decide) e), fun e => K15.out (hne.out 15 (by decide) e), fun e => K16.out (hne.out 16 (by decide) e), fun e => K17.out (hne.out 17 (by decide) e), fun e => K18.out (hne.out 18 (by decide) e), fun e => K19.out (hne.out 19 (by decide) e), fun e => K20.out (hne.out 20 (by decide) e), fun e => K21.out (hne.out 21 (by decide) e), hB⟩
    · cases ho
      have d6 := hd ⟨6, .guard⟩ (by simp) rfl
      obtain rfl := K6.out d6
      refine wpOp_step rfl (fun K hK => ?_)
      go_simp
      refine hK _ _ ⟨by simpa using hz, v11, v12, v13, v14, v15, v16, .bool false, undef, v19, v20, v21, v22, v23, v24, v25, v26, v27, v28, v29, v30, v31, v32, rfl, ?_⟩
      exact ⟨fun e => K0.out (hne.out 0 (by decide) e), fun e => K1.out (hne.out 1 (by decide) e), fun e => K2.out (hne.out 2 (by decide) e), fun e => K3.out (hne.out 3 (by decide) e), fun e => K4.out (hne.out 4 (by decide) e), fun e => K5.out (hne.out 5 (by decide) e), fun e => K6.out (hne.out 6 (by decide) e), fun _ => rfl, fun e => K8.out (hne.out 8 (by decide) e), fun e => K9.out (hne.out 9 (by decide) e), fun e => K10.out (hne.out 10 (by decide) e), fun e => K11.out (hne.out 11 (by decide) e), fun e => K12.out (hne.out 12 (by decide) e), fun e => K13.out (hne.out 13 (by decide) e), fun e => K14.out (hne.out 14 (by decide) e), fun e => K15.out (hne.out 15 (by decide) e), fun e => K16.out (hne.out 16 (by decide) e), fun e => K17.out (hne.out 17 (by decide) e), fun e => K18.out (hne.out 18 (by decide) e), fun e => K19.out (hne.out 19 (by decide) e), fun e => K20.out (hne.out 20 (by decide) e), fun e => K21.out (hne.out 21 (by decide) e), hB⟩
    · cases ho
      have d7 := hd ⟨7, .data⟩ (by simp) rfl
      have d6 := hd ⟨6, .guard⟩ (by simp) rfl
      obtain rfl := K7.out d7
      obtain rfl := K6.out d6
      refine wpOp_step rfl (fun K hK => ?_)
      go_simp
      refine hK _ _ ⟨by simpa using hz, v11, v12, v13, v14, v15, v16, .bool false, undef, undef, v20, v21, v22, v23, v24, v25, v26, v27, v28, v29, v30, v31, v32, rfl, ?_⟩
      exact ⟨fun e => K0.out (hne.out 0 (by decide) e), fun e => K1.out (hne.out 1 (by decide) e), fun e => K2.out (hne.out 2 (by decide) e), fun e => K3.out (hne.out 3 (by decide) e), fun e => K4.out (hne.out 4 (by decide) e), fun e => K5.out (hne.out 5 (by decide) e), fun e => K6.out (hne.out 6 (by decide) e), fun e => K7.out (hne.out 7 (by decide) e), fun _ => rfl, fun e => K9.out (hne.out 9 (by decide) e), fun e => K10.out (hne.out 10 (by decide) e), fun e => K11.out (hne.out 11 (by decide) e), fun e => K12.out (hne.out 12 (by decide) e), fun e => K13.out (hne.out 13 (by decide) e), fun e => K14.out (hne.out 14 (by decide) e), fun e => K15.out (hne.out 15 (by decide) e), fun e => K16.out (hne.out 16 (by decide) e), fun e => K17.out (hne.out 17 (by decide) e), fun e => K18.out (hne.out 18 (by decide) e), fun e => K19.out (hne.out 19 (by decide) e), fun e => K20.out (hne.out 20 (by decide) e), fun e => K21.out (hne.out 21 (by decide) e), hB⟩
    · cases ho
      have d8 := hd ⟨8, .data⟩ (by simp) rfl
      have d6 := hd ⟨6, .guard⟩ (by simp) rfl
      obtain rfl := K8.out d8
      obtain rfl := K6.out d6
      refine wpOp_step rfl (fun K hK => ?_)
      go_simp
      refine hK _ _ ⟨by simpa using hz, v11, v12, v13, v14, v15, v16, .bool false, v18, undef, undef, v21, v22, v23, v24, v25, v26, v27, v28, v29, v30, v31, v32, rfl, ?_⟩
      exact ⟨fun e => K0.out (hne.out 0 (by decide) e), fun e => K1.out (hne.out 1 (by decide) e), fun e => K2.out (hne.out 2 (by decide) e), fun e => K3.out (hne.out 3 (by decide) e), fun e => K4.out (hne.out 4 (by decide) e), fun e => K5.out (hne.out 5 (by decide) e), fun e => K6.out (hne.out 6 (by decide) e), fun e => K7.out (hne.out 7 (by decide) e), fun e => K8.out (hne.out 8 (by decide) e), fun _ => rfl, fun e => K10.out (hne.out 10 (by decide) e), fun e => K11.out (hne.out 11 (by decide) e), fun e => K12.out (hne.out 12 (by decide) e), fun e => K13.out (hne.out 13 (by decide) e), fun e => K14.out (hne.out 14 (by decide) e), fun e => K15.out (hne.out 15 (by decide) e), fun e => K16.out (hne.out 16 (by decide) e), fun e => K17.out (hne.out 17 (by decide) e), fun e => K18.out (hne.out 18 (by decide) e), fun e => K19.out (hne.out 19 (by decide) e), fun e => K20.out (hne.out 20 (by decide) e), fun e => K21.out (hne.out 21 (by decide) e), hB⟩
    · cases ho
      have d9 := hd ⟨9, .data⟩ (by simp) rfl
      have d6 := hd ⟨6, .guard⟩ (by simp) rfl
      obtain rfl := K9.out d9
      obtain rfl := K6.out d6
      refine wpOp_step rfl (fun K hK => ?_)
      go_simp
      refine hK _ _ ⟨by simpa using hz, v11, v12, v13, v14, v15, v16, .bool false, v18, v19, undef, undef, v22, v23, v24, v25, v26, v27, v28, v29, v30, v31, v32, rfl, ?_⟩
      exact ⟨fun e => K0.out (hne.out 0 (by decide) e), fun e => K1.out (hne.out 1 (by decide) e), fun e => K2.out (hne.out 2 (by decide) e), fun e => K3.out (hne.out 3 (by decide) e), fun e => K4.out (hne.out 4 (by decide) e), fun e => K5.out (hne.out 5 (by decide) e), fun e => K6.out (hne.out 6 (by decide) e), fun e => K7.out (hne.out 7 (by decide) e), fun e => K8.out (hne.out 8 (by decide) e), fun e => K9.out (hne.out 9 (by decide) e), fun _ => rfl, fun e => K11.out (hne.out 11 (by decide) e), fun e => K12.out (hne.out 12 (by decide) e), fun e => K13.out (hne.out 13 (by decide) e), fun e => K14.out (hne.out 14 (by decide) e), fun e => K15.out (hne.out 15 (by decide) e), fun e => K16.out (hne.out 16 (by decide) e), fun e => K17.out (hne.out 17 (by decide) e), fun e => K18.out (hne.out 18 (by decide) e), fun e => K19.out (hne.out 19 (by decide) e), fun e => K20.out (hne.out 20 (by decide) e), fun e => K21.out (hne.out 21 (by decide) e), hB⟩
    · cases ho
      have d6 := hd ⟨6, .guard⟩ (by simp) rfl
      obtain rfl := K6.out d6
      refine wpOp_step rfl (fun K hK => ?_)
      go_simp
      refine hK _ _ ⟨by simpa using hz, v11, v12, v13, v14, v15, v16, .bool false, v18, v19, v20, v21, undef, v23, v24, v25, v26, v27, v28, v29, v30, v31, v32, rfl, ?_⟩
      exact ⟨fun e => K0.out (hne.out 0 (by decide) e), fun e => K1.out (hne.out 1 (by decide) e), fun e => K2.out (hne.out 2 (by decide) e), fun e => K3.out (hne.out 3 (by decide) e), fun e => K4.out (hne.out 4 (by decide) e), fun e => K5.out (hne.out 5 (by decide) e), fun e => K6.out (hne.out 6 (by decide) e), fun e => K7.out (hne.out 7 (by decide) e), fun e => K8.out (hne.out 8 (by decide) e), fun e => K9.out (hne.out 9 (by decide) e), fun e => K10.out (hne.out 10 (by decide) e), fun _ => rfl, fun e => K12.out (hne.out 12 (by decide) e), fun e => K13.out (hne.out 13 (by decide) e), fun e => K14.out (hne.out 14 (by decide) e), fun e => K15.out (hne.out 15 (by decide) e), fun e => K16.out (hne.out 16 (by decide) e), fun e => K17.out (hne.out 17 (by decide) e), fun e => K18.out (hne.out 18 (by decide) e), fun e => K19.out (hne.out 19 (by decide) e), fun e => K20.out (hne.out 20 (by decide) e), fun e => K21.out (hne.out 21 (by decide) e), hB⟩
    · cases ho
      have d10 := hd ⟨10, .data⟩ (by simp) rfl
      have d11 := hd ⟨11, .data⟩ (by simp) rfl
      have d6 := hd ⟨6, .guard⟩ (by simp) rfl
      obtain rfl := K10.out d10
      obtain rfl := K11.out d11
      obtain rfl := K6.out d6
      refine wpOp_step rfl (fun K hK => ?_)
      go_simp
      refine hK _ _ ⟨by simpa using hz, v11, v12, v13, v14, v15, v16, .bool false, v18, v19, v20, undef, undef, undef, v24, v25, v26, v27, v28, v29, v30, v31, v32, rfl, ?_⟩
      exact ⟨fun e => K0.out (hne.out 0 (by decide) e), fun e => K1.out (hne.out 1 (by decide) e), fun e => K2.out (hne.out 2 (by decide) e), fun e => K3.out (hne.out 3 (by decide) e), fun e => K4.out (hne.out 4 (by decide) e), fun e => K5.out (hne.out 5 (by decide) e), fun e => K6.out (hne.out 6 (by decide) e), fun e => K7.out (hne.out 7 (by decide) e), fun e => K8.out (hne.out 8 (by decide) e), fun e => K9.out (hne.out 9 (by decide) e), fun e => K10.out (hne.out 10 (by decide) e), fun e => K11.out (hne.out 11 (by decide) e), fun _ => rfl, fun e => K13.out (hne.out 13 (by decide) e), fun e => K14.out (hne.out 14 (by decide) e), fun e => K15.out (hne.out 15 (by decide) e), fun e => K16.out (hne.out 16 (by decide) e), fun e => K17.out (hne.out 17 (by decide) e), fun e => K18.out (hne.out 18 (by decide) e), fun e => K19.out (hne.out 19 (by decide) e), fun e => K20.out (hne.out 20 (by decide) e), fun e => K21.out (hne.out 21 (by decide) e), hB⟩
    · cases ho
      have d12 := hd ⟨12, .data⟩ (by simp) rfl
      have d6 := hd ⟨6, .guard⟩ (by simp) rfl
      obtain rfl := K12.out d12
      obtain rfl := K6.out d6
      refine wpOp_step rfl (fun K hK => ?_)
      go_simp
      refine hK _ _ ⟨by simpa using hz, v11, v12, v13, v14, v15, v16, .bool false, v18, v19, v20, v21, v22, undef, undef, v25, v26, v27, v28, v29, v30, v31, v32, rfl, ?_⟩
      exact ⟨fun e => K0.out (hne.out 0 (by decide) e), fun e => K1.out (hne.out 1 (by decide) e), fun e => K2.out (hne.out 2 (by decide) e), fun e => K3.out (hne.out 3 (by decide) e), fun e => K4.out (hne.out 4 (by decide) e), fun e => K5.out (hne.out 5 (by decide) e), fun e => K6.out (hne.out 6 (by decide) e), fun e => K7.out (hne.out 7 (by decide) e), fun e => K8.out (hne.out 8 (by decide) e), fun e => K9.out (hne.out 9 (by decide) e), fun e => K10.out (hne.out 10 (by decide) e), fun e => K11.out (hne.out 11 (by decide) e), fun e => K12.out (hne.out 12 (by decide) e), fun _ => rfl, fun e => K14.out (hne.out 14 (by decide) e), fun e => K15.out (hne.out 15 (by decide) e), fun e => K16.out (hne.out 16 (by decide) e), fun e => K17.out (hne.out 17 (by decide) e), fun e => K18.out (hne.out 18 (by decide) e), fun e => K19.out (hne.out 19 (by decide) e), fun e => K20.out (hne.out 20 (by decide) e), fun e => K21.out (hne.out 21 (by decide) e), hB⟩
    · cases ho
      have d6 := hd ⟨6, .guard⟩ (by simp) rfl
      obtain rfl := K6.out d6
      refine wpOp_step rfl (fun K hK => ?_)
      go_simp
      refine hK _ _ ⟨by simpa using hz, v11, v12, v13, v14, v15, v16, .bool false, v18, v19, v20, v21, v22, v23, v24, undef, v26, v27, v28, v29, v30, v31, v32, rfl, ?_⟩
      exact ⟨fun e => K0.out (hne.out 0 (by decide) e), fun e => K1.out (hne.out 1 (by decide) e), fun e => K2.out (hne.out 2 (by decide) e), fun e => K3.out (hne.out 3 (by decide) e), fun e => K4.out (hne.out 4 (by decide) e), fun e => K5.out (hne.out 5 (by decide) e), fun e => K6.out (hne.out 6 (by decide) e), fun e => K7.out (hne.out 7 (by decide) e), fun e => K8.out (hne.out 8 (by decide) e), fun e => K9.out (hne.out 9 (by decide) e), fun e => K10.out (hne.out 10 (by decide) e), fun e => K11.out (hne.out 11 (by decide) e), fun e => K12.out (hne.out 12 (by decide) e), fun e => K13.out (hne.out 13 (by decide) e), fun _ => rfl, fun e => K15.out (hne.out 15 (by decide) e), fun e => K16.out (hne.out 16 (by decide) e), fun e => K17.out (hne.out 17 (by decide) e), fun e => K18.out (hne.out 18 (by decide) e), fun e => K19.out (hne.out 19 (by decide) e), fun e => K20.out (hne.out 20 (by decide) e), fun e => K21.out (hne.out 21 (by decide) e), hB⟩
    · cases ho
      have d14 := hd ⟨14, .data⟩ (by simp) rfl
      have d6 := hd ⟨6, .guard⟩ (by simp) rfl
      obtain rfl := K14.out d14
      obtain rfl := K6.out d6
      refine wpOp_step rfl (fun K hK => ?_)
      go_simp
      refine hK _ _ ⟨by simpa using hz, v11, v12, v13, v14, v15, v16, .bool false, v18, v19, v20, v21, v22, v23, v24, undef, undef, v27, v28, v29, v30, v31, v32, rfl, ?_⟩
      exact ⟨fun e => K0.out (hne.out 0 (by decide) e), fun e => K1.out (hne.out 1 (by decide) e), fun e => K2.out (hne.out 2 (by decide) e), fun e => K3.out (hne.out 3 (by decide) e), fun e => K4.out (hne.out 4 (by decide) e), fun e => K5.out (hne.out 5 (by decide) e), fun e => K6.out (hne.out 6 (by decide) e), fun e => K7.out (hne.out 7 (by decide) e), fun e => K8.out (hne.out 8 (by decide) e), fun e => K9.out (hne.out 9 (by decide) e), fun e => K10.out (hne.out 10 (by decide) e), fun e => K11.out (hne.out 11 (by decide) e), fun e => K12.out (hne.out 12 (by decide) e), fun e => K13.out (hne.out 13 (by decide) e), fun e => K14.out (hne.out 14 (by decide) e), fun _ => rfl, fun e => K16.out (hne.out 16 (by decide) e), fun e => K17.out (hne.out 17 (by decide) e), fun e => K18.out (hne.out 18 (by decide) e), fun e => K19.out (hne.out 19 (by decide) e), fun e => K20.out (hne.out 20 (by decide) e), fun e => K21.out (hne.out 21 (by decide) e), hB⟩
    · cases ho
      have d13 := hd ⟨13, .data⟩ (by simp) rfl
      have d15 := hd ⟨15, .data⟩ (by simp) rfl
      have d6 := hd ⟨6, .guard⟩ (by simp) rfl
      obtain rfl := K13.out d13
      obtain rfl := K15.out d15
      obtain rfl := K6.out d6
      refine wpOp_step rfl (fun K hK => ?_)
      go_simp
      refine hK _ _ ⟨by simpa using hz, v11, v12, v13, v14, v15, v16, .bool false, v18, v19, v20, v21, v22, v23, undef, v25, undef, undef, v28, v29, v30, v31, v32, rfl, ?_⟩
      exact ⟨fun e => K0.out (hne.out 0 (by decide) e), fun e => K1.out (hne.out 1 (by decide) e), fun e => K2.out (hne.out 2 (by decide) e), fun e => K3.out (hne.out 3 (by decide) e), fun e => K4.out (hne.out 4 (by decide) e), fun e => K5.out (hne.out 5 (by decide) e), fun e => K6.out (hne.out 6 (by decide) e), fun e => K7.out (hne.out 7 (by decide) e), fun e => K8.out (hne.out 8 (by decide) e), fun e => K9.out (hne.out 9 (by decide) e), fun e => K10.out (hne.out 10 (by decide) e), fun e => K11.out (hne.out 11 (by decide) e), fun e => K12.out (hne.out 12 (by decide) e), fun e => K13.out (hne.out 13 (by decide) e), fun e => K14.out (hne.out 14 (by decide) e), fun e => K15.out (hne.out 15 (by decide) e), fun _ => rfl, fun e => K17.out (hne.out 17 (by decide) e), fun e => K18.out (hne.out 18 (by decide) e), fun e => K19.out (hne.out 19 (by decide) e), fun e => K20.out (hne.out 20 (by decide) e), fun e => K21.out (hne.out 21 (by decide) e), hB⟩
    · cases ho
      have d6 := hd ⟨6, .guard⟩ (by simp) rfl
      obtain rfl := K6.out d6
      refine wpOp_step rfl (fun K hK => ?_)
      go_simp
      refine hK _ _ ⟨by simpa using hz, v11, v12, v13, v14, v15, v16, .bool false, v18, v19, v20, v21, v22, v23, v24, v25, v26, v27, undef, v29, v30, v31, v32, rfl, ?_⟩
      exact ⟨fun e => K0.out (hne.out 0 (by decide) e), fun e => K1.out (hne.out 1 (by decide) e), fun e => K2.out (hne.out 2 (by decide) e), fun e => K3.out (hne.out 3 (by decide) e), fun e => K4.out (hne.out 4 (by decide) e), fun e => K5.out (hne.out 5 (by decide) e), fun e => K6.out (hne.out 6 (by decide) e), fun e => K7.out (hne.out 7 (by decide) e), fun e => K8.out (hne.out 8 (by decide) e), fun e => K9.out (hne.out 9 (by decide) e), fun e => K10.out (hne.out 10 (by decide) e), fun e => K11.out (hne.out 11 (by decide) e), fun e => K12.out (hne.out 12 (by decide) e), fun e => K13.out (hne.out 13 (by decide) e), fun e => K14.out (hne.out 14 (by decide) e), fun e => K15.out (hne.out 15 (by decide) e), fun e => K16.out (hne.out 16 (by decide) e), fun _ => rfl, fun e => K18.out (hne.out 18 (by decide) e), fun e => K19.out (hne.out 19 (by decide) e), fun e => K20.out (hne.out 20 (by decide) e), fun e => K21.out (hne.out 21 (by decide) e), hB⟩
    · cases ho
      have d17 := hd ⟨17, .data⟩ (by simp) rfl
      have d6 := hd ⟨6, .guard⟩ (by simp) rfl
      obtain rfl := K17.out d17
      obtain rfl := K6.out d6
      refine wpOp_step rfl (fun K hK => ?_)
      go_simp
      refine hK _ _ ⟨by simpa using hz, v11, v12, v13, v14, v15, v16, .bool false, v18, v19, v20, v21, v22, v23, v24, v25, v26, v27, undef, undef, v30, v31, v32, rfl, ?_⟩
      exact ⟨fun e => K0.out (hne.out 0 (by decide) e), fun e => K1.out (hne.out 1 (by decide) e), fun e => K2.out (hne.out 2 (by decide) e), fun e => K3.out (hne.out 3 (by decide) e), fun e => K4.out (hne.out 4 (by decide) e), fun e => K5.out (hne.out 5 (by decide) e), fun e => K6.out (hne.out 6 (by decide) e), fun e => K7.out (hne.out 7 (by decide) e), fun e => K8.out (hne.out 8 (by decide) e), fun e => K9.out (hne.out 9 (by decide) e), fun e => K10.out (hne.out 10 (by decide) e), fun e => K11.out (hne.out 11 (by decide) e), fun e => K12.out (hne.out 12 (by decide) e), fun e => K13.out (hne.out 13 (by decide) e), fun e => K14.out (hne.out 14 (by decide) e), fun e => K15.out (hne.out 15 (by decide) e), fun e => K16.out (hne.out 16 (by decide) e), fun e => K17.out (hne.out 17 (by decide) e), fun _ => rfl, fun e => K19.out (hne.out 19 (by decide) e), fun e => K20.out (hne.out 20 (by decide) e), fun e => K21.out (hne.out 21 (by decide) e), hB⟩
    · cases ho
      have d18 := hd ⟨18, .data⟩ (by simp) rfl
      have d6 := hd ⟨6, .guard⟩ (by simp) rfl
      obtain rfl := K18.out d18
      obtain rfl := K6.out d6
      refine wpOp_step rfl (fun K hK => ?_)
      go_simp
      refine hK _ _ ⟨by simpa using hz, v11, v12, v13, v14, v15, v16, .bool false, v18, v19, v20, v21, v22, v23, v24, v25, v26, v27, v28, undef, undef, v31, v32, rfl, ?_⟩
      exact ⟨fun e => K0.out (hne.out 0 (by decide) e), fun e => K1.out (hne.out 1 (by decide) e), fun e => K2.out (hne.out 2 (by decide) e), fun e => K3.out (hne.out 3 (by decide) e), fun e => K4.out (hne.out 4 (by decide) e), fun e => K5.out (hne.out 5 (by decide) e), fun e => K6.out (hne.out 6 (by decide) e), fun e => K7.out (hne.out 7 (by decide) e), fun e => K8.out (hne.out 8 (by decide) e), fun e => K9.out (hne.out 9 (by decide) e), fun e => K10.out (hne.out 10 (by decide) e), fun e => K11.out (hne.out 11 (by decide) e), fun e => K12.out (hne.out 12 (by decide) e), fun e => K13.out (hne.out 13 (by decide) e), fun e => K14.out (hne.out 14 (by decide) e), fun e => K15.out (hne.out 15 (by decide) e), fun e => K16.out (hne.out 16 (by decide) e), fun e => K17.out (hne.out 17 (by decide) e), fun e => K18.out (hne.out 18 (by decide) e), fun _ => rfl, fun e => K20.out (hne.out 20 (by decide) e), fun e => K21.out (hne.out 21 (by decide) e), hB⟩
    · cases ho
      have d19 := hd ⟨19, .data⟩ (by simp) rfl
      have d6 := hd ⟨6, .guard⟩ (by simp) rfl
      obtain rfl := K19.out d19
      obtain rfl := K6.out d6
      refine wpOp_step rfl (fun K hK => ?_)
      go_simp
      refine hK _ _ ⟨by simpa using hz, v11, v12, v13, v14, v15, v16, .bool false, v18, v19, v20, v21, v22, v23, v24, v25, v26, v27, v28, v29, undef, undef, v32, rfl, ?_⟩
      exact ⟨fun e => K0.out (hne.out 0 (by decide) e), fun e => K1.out (hne.out 1 (by decide) e), fun e => K2.out (hne.out 2 (by decide) e), fun e => K3.out (hne.out 3 (by decide) e), fun e => K4.out (hne.out 4 (by decide) e), fun e => K5.out (hne.out 5 (by decide) e), fun e => K6.out (hne.out 6 (by decide) e), fun e => K7.out (hne.out 7 (by decide) e), fun e => K8.out (hne.out 8 (by decide) e), fun e => K9.out (hne.out 9 (by decide) e), fun e => K10.out (hne.out 10 (by decide) e), fun e => K11.out (hne.out 11 (by decide) e), fun e => K12.out (hne.out 12 (by decide) e), fun e => K13.out (hne.out 13 (by decide) e), fun e => K14.out (hne.out 14 (by decide) e), fun e => K15.out (hne.out 15 (by decide) e), fun e => K16.out (hne.out 16 (by decide) e), fun e => K17.out (hne.out 17 (by decide) e), fun e => K18.out (hne.out 18 (by decide) e), fun e => K19.out (hne.out 19 (by decide) e), fun _ => rfl, fun e => K21.out (hne.out 21 (by decide) e), hB⟩
    · cases ho
      have d16 := hd ⟨16, .data⟩ (by simp) rfl
      have d20 := hd ⟨20, .data⟩ (by simp) rfl
      have d6 := hd ⟨6, .guard⟩ (by simp) rfl
      obtain rfl := K16.out d16
      obtain rfl := K20.out d20
      obtain rfl := K6.out d6
      refine wpOp_step rfl (fun K hK => ?_)
      go_simp
      refine hK _ _ ⟨by simpa using hz, v11, v12, v13, v14, v15, v16, .bool false, v18, v19, v20, v21, v22, v23, v24, v25, v26, undef, v28, v29, v30, undef, undef, rfl, ?_⟩
      exact ⟨fun e => K0.out (hne.out 0 (by decide) e), fun e => K1.out (hne.out 1 (by decide) e), fun e => K2.out (hne.out 2 (by decide) e), fun e => K3.out (hne.out 3 (by decide) e), fun e => K4.out (hne.out 4 (by decide) e), fun e => K5.out (hne.out 5 (by decide) e), fun e => K6.out (hne.out 6 (by decide) e), fun e => K7.out (hne.out 7 (by decide) e), fun e => K8.out (hne.out 8 (by decide) e), fun e => K9.out (hne.out 9 (by decide) e), fun e => K10.out (hne.out 10 (by decide) e), fun e => K11.out (hne.out 11 (by decide) e), fun e => K12.out (hne.out 12 (by decide) e), fun e => K13.out (hne.out 13 (by decide) e), fun e => K14.out (hne.out 14 (by decide) e), fun e => K15.out (hne.out 15 (by decide) e), fun e => K16.out (hne.out 16 (by decide) e), fun e => K17.out (hne.out 17 (by decide) e), fun e => K18.out (hne.out 18 (by decide) e), fun e => K19.out (hne.out 19 (by decide) e), fun e => K20.out (hne.out 20 (by decide) e), fun _ => rfl, hB⟩
  case hl =>
    rintro listed aq wx ⟨hz, v11, v12, v13, v14, v15, v16, v17, v18, v19, v20, v21, v22, v23, v24, v25, v26, v27, v28, v29, v30, v31, v32, rfl, hII⟩ hall
    have K0 := Lib.hid hII.1
    have K1 := Lib.hid hII.2.1
    have K2 := Lib.hid hII.2.2.1
    have K3 := Lib.hid hII.2.2.2.1
    have K4 := Lib.hid hII.2.2.2.2.1
    have K5 := Lib.hid hII.2.2.2.2.2.1
    have K6 := Lib.hid hII.2.2.2.2.2.2.1
    have K7 := Lib.hid hII.2.2.2.2.2.2.2.1
    have K8 := Lib.hid hII.2.2.2.2.2.2.2.2.1
    have K9 := Lib.hid hII.2.2.2.2.2.2.2.2.2.1
    have K10 := Lib.hid hII.2.2.2.2.2.2.2.2.2.2.1
    have K11 := Lib.hid hII.2.2.2.2.2.2.2.2.2.2.2.1
    have K12 := Lib.hid hII.2.2.2.2.2.2.2.2.2.2.2.2.1
    have K13 := Lib.hid hII.2.2.2.2.2.2.2.2.2.2.2.2.2.1
    have K14 := Lib.hid hII.2.2.2.2.2.2.2.2.2.2.2.2.2.2.1
    have K15 := Lib.hid hII.2.2.2.2.2.2.2.2.2.2.2.2.2.2.2.1
    have K16 := Lib.hid hII.2.2.2.2.2.2.2.2.2.2.2.2.2.2.2.2.1
    have K17 := Lib.hid hII.2.2.2.2.2.2.2.2.2.2.2.2.2.2.2.2.2.1
    have K18 := Lib.hid hII.2.2.2.2.2.2.2.2.2.2.2.2.2.2.2.2.2.2.1
    have K19 := Lib.hid hII.2.2.2.2.2.2.2.2.2.2.2.2.2.2.2.2.2.2.2.1
    have K20 := Lib.hid hII.2.2.2.2.2.2.2.2.2.2.2.2.2.2.2.2.2.2.2.2.1
    have K21 := Lib.hid hII.2.2.2.2.2.2.2.2.2.2.2.2.2.2.2.2.2.2.2.2.2.1
    have hB : Below W0.heap.size W0 wx := hII.2.2.2.2.2.2.2.2.2.2.2.2.2.2.2.2.2.2.2.2.2.2
    have g9 := (hHa.out.below hB).1.cell
    clear hII
    obtain rfl := K0.out (hall 0 (by decide))
    obtain rfl := K1.out (hall 1 (by decide))
    obtain rfl := K2.out (hall 2 (by decide))
    obtain rfl := K3.out (hall 3 (by decide))
    obtain rfl := K4.out (hall 4 (by decide))
    obtain rfl := K5.out (hall 5 (by decide))
    obtain rfl := K6.out (hall 6 (by decide))
    obtain rfl := K7.out (hall 7 (by decide))
    obtain rfl := K8.out (hall 8 (by decide))
    obtain rfl := K9.out (hall 9 (by decide))
    obtain rfl := K10.out (hall 10 (by decide))
    obtain rfl := K11.out (hall 11 (by decide))
    obtain rfl := K12.out (hall 12 (by decide))
    obtain rfl := K13.out (hall 13 (by decide))
    obtain rfl := K14.out (hall 14 (by decide))
    obtain rfl := K15.out (hall 15 (by decide))
    obtain rfl := K16.out (hall 16 (by decide))
    obtain rfl := K17.out (hall 17 (by decide))
    obtain rfl := K18.out (hall 18 (by decide))
    obtain rfl := K19.out (hall 19 (by decide))
    obtain rfl := K20.out (hall 20 (by decide))
    obtain rfl := K21.out (hall 21 (by decide))
    clear hall K0 K1 K2 K3 K4 K5 K6 K7 K8 K9 K10 K11 K12 K13 K14 K15 K16 K17 K18 K19 K20 K21
    refine wpOp_step rfl (fun K0 hK0 => ?_)
    go_simp
    refine hK0 _ _ ?_
    clear hK0
    clear g9
    have c7 := (hN7h.out.kept hB).cell
    have c6 := (hN6h.out.kept hB).cell
    have f6 := (hN6h.out.kept hB).frozen
    have hr6 := Lib.hid (((hN6h.out.kept hB).put 0 (.int .i64 wt)).put 1 (.int .i64 0))
    have hb6 := Lib.hid (((hBa.out.trans (hB.mono hBa.out.size)).setCell (p := ⟨w.heap.size + 1, 0, none⟩) (by show w.heap.size ≤ w.heap.size + 1; omega) (.int .i64 wt)).setCell (p := ⟨w.heap.size + 1, 1, none⟩) (by show w.heap.size ≤ w.heap.size + 1; omega) (.int .i64 0))
    clear hB
    go_wp2_with fail
    have hpc := hr6.out.cell
    simp at hpc
    refine bodyPost_ret (v := .agg #[.int .i64 wt, .int .i64 0]) (by simp [results, Try.results163, go_sem, hpc]) rfl ⟨rfl, hb6.out⟩

set_option maxHeartbeats 2000000 in
theorem weightOf_here (w : World) (base g m c a gR : Nat) (A : Option Addr) (os : List St) (v p x wt : Int) (s : St) (h : Clh w base g m A c os a v gR) (hs : os[a]? = some s) (ha : a < m) (hok : s.ok = true) (hw : s.hasW = true) (hx : 0 ≤ x ∧ x ≤ 80) :
    Calls Try.prog 163 #[.pointer (some ⟨g, 0, none⟩), .int .i64 a, .agg #[.int .i64 p, .int .i64 x, .int .i64 wt]] w fun e w' => e = .returned (.agg #[.int .i64 wt, .int .i64 (sl1 s true v x)]) ∧ Below w.heap.size w w' := by
  have cU := Lib.hid (fun wx => usedBehind_any s x wx hok hw hx)
  obtain ⟨gs, off, s', rfl, hgs, hs', _⟩ := h.2.1.at_ ha
  obtain rfl : s' = s := Option.some.inj (hs'.symm.trans hs)
  have hq := Lib.hid (show sl1 s' true v x = if (s'.uses x == v) = true then 1 else 0 from by unfold sl1; simp)
  have ha0 : (0 : Int) ≤ (a : Int) := by omega
  have ha1 : (a : Int) < (m : Int) := by omega
  have hee : ((a : Int) == (a : Int)) = true := by simp
  have hBa := Lib.hid ((((Below.refl w.heap.size w).alloc (Nat.le_refl _) (.cells #[.int .i64 p, .int .i64 x, .int .i64 wt] 101)).alloc (by simp) (.cells #[.int .i64 0, .int .i64 0] 87)).alloc (by simp; omega) (.cells #[.int .i64 wt, .int .i64 0] 87))
  have e1 : (w.alloc (.cells #[.int .i64 p, .int .i64 x, .int .i64 wt] 101)).heap.size = w.heap.size + 1 := by simp
  have e2 : ((w.alloc (.cells #[.int .i64 p, .int .i64 x, .int .i64 wt] 101)).alloc (.cells #[.int .i64 0, .int .i64 0] 87)).heap.size = w.heap.size + 1 + 1 := by simp
  have hN5 := Lib.hid (((Has.new w 101 #[.int .i64 p, .int .i64 x, .int .i64 wt]).alloc (.cells #[.int .i64 0, .int .i64 0] 87)).alloc (.cells #[.int .i64 wt, .int .i64 0] 87))
  have hN6 := (Has.new (w.alloc (.cells #[.int .i64 p, .int .i64 x, .int .i64 wt] 101)) 87 #[.int .i64 0, .int .i64 0]).alloc (.cells #[.int .i64 wt, .int .i64 0] 87)
  have hN7 := Has.new ((w.alloc (.cells #[.int .i64 p, .int .i64 x, .int .i64 wt] 101)).alloc (.cells #[.int .i64 0, .int .i64 0] 87)) 87 #[.int .i64 wt, .int .i64 0]
  rw [e1] at hN6
  rw [e2] at hN7
  have hN6h := Lib.hid hN6
  have hN7h := Lib.hid hN7
  have hHa := Lib.hid (h.below hBa.out)
  clear e1 e2 hN6 hN7
  have hAt := Lib.hid (show ∀ wx : World, Clh wx base g m (some ⟨gs, off, none⟩) c os a v gR → StAt wx gs (off + a * 7) s' from fun wx hcl => by
    obtain ⟨gs2, off2, s2, e2, _, hs2, hat2⟩ := hcl.2.1.at_ ha
    injection e2 with e2
    injection e2 with e2 e3 _
    subst e2 e3
    obtain rfl : s2 = s' := Option.some.inj (hs2.symm.trans hs)
    exact hat2)
  clear h hs hok hw hs' hgs
  generalize hu : s'.uses x = u at cU hq
  clear hu
  generalize hub : (u == v) = b at hq
  go_enter Try.func163, Try.ntmps163
  go_wp2_with fail
  generalize ((w.alloc (.cells #[.int .i64 p, .int .i64 x, .int .i64 wt] 101)).alloc (.cells #[.int .i64 0, .int .i64 0] 87)).alloc (.cells #[.int .i64 wt, .int .i64 0] 87) = W0 at hBa hN5 hN6h hN7h hHa ⊢
  refine wp_region_any (by kernel_rfl) ?_
  change wpAny _ _ _ _ _ _ _ (World.drew _)
  refine wpAny_last (n := 22) (I := fun listed aq wx => listed.size = 23 ∧ ∃ v11 v12 v13 v14 v15 v16 v17 v18 v19 v20 v21 v22 v23 v24 v25 v26 v27 v28 v29 v30 v31 v32 : Value, aq = { tmps := #[.pointer (some ⟨g, 0, none⟩), .int .i64 ↑a, .agg #[.int .i64 p, .int .i64 x, .int .i64 wt], undef, undef, .pointer (some ⟨w.heap.size, 0, none⟩), .pointer (some ⟨w.heap.size + 1, 0, none⟩), .pointer (some ⟨w.heap.size + 1 + 1, 0, none⟩), .pointer (some ⟨w.heap.size, 2, none⟩), .int .i64 wt, .agg #[.int .i64 wt, .int .i64 0], v11, v12, v13, v14, v15, v16, v17, v18, v19, v20, v21, v22, v23, v24, v25, v26, v27, v28, v29, v30, v31, v32, undef, undef, undef], defers := [] } ∧ (listed.getD 0 false = true → v11 = .int .i64 ↑a) ∧ (listed.getD 1 false = true → v12 = .pointer (some ⟨g, 0, none⟩)) ∧ (listed.getD 2 false = true → v13 = .pointer (some ⟨g, 0, none⟩)) ∧ (listed.getD 3 false = true → v14 = .pointer (some ⟨g, 1, none⟩)) ∧ (listed.getD 4 false = true → v15 = .int .i64 ↑a) ∧ (listed.getD 5 false = true → v16 = .bool true) ∧ (listed.getD 6 false = true → v17 = .bool true) ∧ (listed.getD 7 false = true → v18 = .pointer (some ⟨g, 0, none⟩)) ∧ (listed.getD 8 false = true → v19 = .pointer (some ⟨g, 0, none⟩)) ∧ (listed.getD 9 false = true → v20 = .pointer (some ⟨g, 0, none⟩)) ∧ (listed.getD 10 false = true → v21 = .slice (some ⟨gs, off, none⟩) m c) ∧ (listed.getD 11 false = true → v22 = .int .i64 ↑a) ∧ (listed.getD 12 false = true → v23 = .pointer (some ⟨gs, off + a * 7, none⟩)) ∧ (listed.getD 13 false = true → v24 = .agg #[.int .i64 s'.k, .int .i64 s'.a, .int .i64 s'.b, .int .i64 s'.c, .int .i64 s'.u, .int .i64 s'.v, .int .i64 s'.x]) ∧ (listed.getD 14 false = true → v25 = .pointer (some ⟨w.heap.size, 1, none⟩)) ∧ (listed.getD 15 false = true → v26 = .int .i64 x) ∧ (listed.getD 16 false = true → v27 = .int .i64 u) ∧ (listed.getD 17 false = true → v28 = .pointer (some ⟨g, 0, none⟩)) ∧ (listed.getD 18 false = true → v29 = .pointer (some ⟨g, 0, none⟩)) ∧ (listed.getD 19 false = true → v30 = .pointer (some ⟨g, 2, none⟩)) ∧ (listed.getD 20 false = true → v31 = .int .i64 v) ∧ (listed.getD 21 false = true → v32 = .bool b) ∧ Below W0.heap.size W0 wx) rfl (by kernel_rfl) (by kernel_rfl) ?hs ?hl _ _ _ ?stq rfl (by decide) _ (by decide)
  case stq =>
    refine ⟨rfl, undef, undef, undef, undef, undef, undef, undef, undef, undef, undef, undef, undef, undef, undef, undef, undef, undef, undef, undef, undef, undef, undef, rfl, ?_, ?_, ?_, ?_, ?_, ?_, ?_, ?_, ?_, ?_, ?_, ?_, ?_, ?_, ?_, ?_, ?_, ?_, ?_, ?_, ?_, ?_, (Below.refl _ _).drew⟩ <;> (intro e; exact absurd e (by decide))
  case hs =>
    rintro listed aq wx ⟨hz, v11, v12, v13, v14, v15, v16, v17, v18, v19, v20, v21, v22, v23, v24, v25, v26, v27, v28, v29, v30, v31, v32, rfl, hII⟩ i hin hi
    obtain ⟨h0, o, ho, hd⟩ := mem_ready.1 hi
    have K0 := Lib.hid hII.1
    have K1 := Lib.hid hII.2.1
    have K2 := Lib.hid hII.2.2.1
    have K3 := Lib.hid hII.2.2.2.1
    have K4 := Lib.hid hII.2.2.2.2.1
    have K5 := Lib.hid hII.2.2.2.2.2.1
    have K6 := Lib.hid hII.2.2.2.2.2.2.1
    have K7 := Lib.hid hII.2.2.2.2.2.2.2.1
    have K8 := Lib.hid hII.2.2.2.2.2.2.2.2.1
    have K9 := Lib.hid hII.2.2.2.2.2.2.2.2.2.1
    have K10 := Lib.hid hII.2.2.2.2.2.2.2.2.2.2.1
    have K11 := Lib.hid hII.2.2.2.2.2.2.2.2.2.2.2.1
    have K12 := Lib.hid hII.2.2.2.2.2.2.2.2.2.2.2.2.1
    have K13 := Lib.hid hII.2.2.2.2.2.2.2.2.2.2.2.2.2.1
    have K14 := Lib.hid hII.2.2.2.2.2.2.2.2.2.2.2.2.2.2.1
    have K15 := Lib.hid hII.2.2.2.2.2.2.2.2.2.2.2.2.2.2.2.1
    have K16 := Lib.hid hII.2.2.2.2.2.2.2.2.2.2.2.2.2.2.2.2.1
    have K17 := Lib.hid hII.2.2.2.2.2.2.2.2.2.2.2.2.2.2.2.2.2.1
    have K18 := Lib.hid hII.2.2.2.2.2.2.2.2.2.2.2.2.2.2.2.2.2.2.1
    have K19 := Lib.hid hII.2.2.2.2.2.2.2.2.2.2.2.2.2.2.2.2.2.2.2.1
    have K20 := Lib.hid hII.2.2.2.2.2.2.2.2.2.2.2.2.2.2.2.2.2.2.2.2.1
    have K21 := Lib.hid hII.2.2.2.2.2.2.2.2.2.2.2.2.2.2.2.2.2.2.2.2.2.1
    have hB : Below W0.heap.size W0 wx := hII.2.2.2.2.2.2.2.2.2.2.2.2.2.2.2.2.2.2.2.2.2.2
    have hne := Lib.hid (fun k (hk : i ≠ k) => @listed_ne listed i k hk)
    have hcl := hHa.out.below hB
    have g9 := hcl.1.cell
    have n9 := (hN5.out.kept hB).cell
    obtain ⟨a0, a1, a2, a3, a4, a5, a6⟩ := (hAt.out wx hcl).open_
    have h0f : listed.getD i false = false := by rw [Array.getD_eq_getD_getElem?, getD_false h0]; rfl
    clear hII hi h0
    rcases (by omega : i = 0 ∨ i = 1 ∨ i = 2 ∨ i = 3 ∨ i = 4 ∨ i = 5 ∨ i = 6 ∨ i = 7 ∨ i = 8 ∨ i = 9 ∨ i = 10 ∨ i = 11 ∨ i = 12 ∨ i = 13 ∨ i = 14 ∨ i = 15 ∨ i = 16 ∨ i = 17 ∨ i = 18 ∨ i = 19 ∨ i = 20 ∨ i = 21) with rfl | rfl | rfl | rfl | rfl | rfl | rfl | rfl | rfl | rfl | rfl | rfl | rfl | rfl | rfl | rfl | rfl | rfl | rfl | rfl | rfl | rfl
    · cases ho
      refine wpOp_step rfl (fun K hK => ?_)
      go_simp
      refine hK _ _ ⟨by simpa using hz, .int .i64 ↑a, v12, v13, v14, v15, v16, v17, v18, v19, v20, v21, v22, v23, v24, v25, v26, v27, v28, v29, v30, v31, v32, rfl, ?_⟩
      exact ⟨fun _ => rfl, fun e => K1.out (hne.out 1 (by decide) e), fun e => K2.out (hne.out 2 (by decide) e), fun e => K3.out (hne.out 3 (by decide) e), fun e => K4.out (hne.out 4 (by decide) e), fun e => K5.out (hne.out 5 (by decide) e), fun e => K6.out (hne.out 6 (by decide) e), fun e => K7.out (hne.out 7 (by decide) e), fun e => K8.out (hne.out 8 (by decide) e), fun e => K9.out (hne.out 9 (by decide) e), fun e => K10.out (hne.out 10 (by decide) e), fun e => K11.out (hne.out 11 (by decide) e), fun e => K12.out (hne.out 12 (by decide) e), fun e => K13.out (hne.out 13 (by decide) e), fun e => K14.out (hne.out 14 (by decide) e), fun e => K15.out (hne.out 15 (by decide) e), fun e => K16.out (hne.out 16 (by decide) e), fun e => K17.out (hne.out 17 (by decide) e), fun e => K18.out (hne.out 18 (by decide) e), fun e => K19.out (hne.out 19 (by decide) e), fun e => K20.out (hne.out 20 (by decide) e), fun e => K21.out (hne.out 21 (by decide) e), hB⟩
    · cases ho
      refine wpOp_step rfl (fun K hK => ?_)
      go_simp
      refine hK _ _ ⟨by simpa using hz, v11, .pointer (some ⟨g, 0, none⟩), v13, v14, v15, v16, v17, v18, v19, v20, v21, v22, v23, v24, v25, v26, v27, v28, v29, v30, v31, v32, rfl, ?_⟩
      exact ⟨fun e => K0.out (hne.out 0 (by decide) e), fun _ => rfl, fun e => K2.out (hne.out 2 (by decide) e), fun e => K3.out (hne.out 3 (by decide) e), fun e => K4.out (hne.out 4 (by decide) e), fun e => K5.out (hne.out 5 (by decide) e), fun e => K6.out (hne.out 6 (by decide) e), fun e => K7.out (hne.out 7 (by decide) e), fun e => K8.out (hne.out 8 (by decide) e), fun e => K9.out (hne.out 9 (by decide) e), fun e => K10.out (hne.out 10 (by decide) e), fun e => K11.out (hne.out 11 (by decide) e), fun e => K12.out (hne.out 12 (by decide) e), fun e => K13.out (hne.out 13 (by decide) e), fun e => K14.out (hne.out 14 (by decide) e), fun e => K15.out (hne.out 15 (by decide) e), fun e => K16.out (hne.out 16 (by decide) e), fun e => K17.out (hne.out 17 (by decide) e), fun e => K18.out (hne.out 18 (by decide) e), fun e => K19.out (hne.out 19 (by decide) e), fun e => K20.out (hne.out 20 (by decide) e), fun e => K21.out (hne.out 21 (by decide) e), hB⟩
    · cases ho
      have d1 := hd ⟨1, .data⟩ (by simp) rfl
      obtain rfl := K1.out d1
      refine wpOp_step rfl (fun K hK => ?_)
      go_simp
      refine hK _ _ ⟨by simpa using hz, v11, .pointer (some ⟨g, 0, none⟩), .pointer (some ⟨g, 0, none⟩), v14, v15, v16, v17, v18, v19, v20, v21, v22, v23, v24, v25, v26, v27, v28, v29, v30, v31, v32, rfl, ?_⟩
      exact ⟨fun e => K0.out (hne.out 0 (by decide) e), fun e => K1.out (hne.out 1 (by decide) e), fun _ => rfl, fun e => K3.out (hne.out 3 (by decide) e), fun e => K4.out (hne.out 4 (by decide) e), fun e => K5.out (hne.out 5 (by decide) e), fun e => K6.out (hne.out 6 (by decide) e), fun e => K7.out (hne.out 7 (by decide) e), fun e => K8.out (hne.out 8 (by decide) e), fun e => K9.out (hne.out 9 (by decide) e), fun e => K10.out (hne.out 10 (by decide) e), fun e => K11.out (hne.out 11 (by decide) e), fun e => K12.out (hne.out 12 (by decide) e), fun e => K13.out (hne.out 13 (by decide) e), fun e => K14.out (hne.out 14 (by decide) e), fun e => K15.out (hne.out 15 (by decide) e), fun e => K16.out (hne.out 16 (by decide) e), fun e => K17.out (hne.out 17 (by decide) e), fun e => K18.out (hne.out 18 (by decide) e), fun e => K19.out (hne.out 19 (by decide) e), fun e => K20.out (hne.out 20 (by decide) e), fun e => K21.out (hne.out 21 (by decide) e), hB⟩
    · cases ho
      have d2 := hd ⟨2, .data⟩ (by simp) rfl
      obtain rfl := K2.out d2
      refine wpOp_step rfl (fun K hK => ?_)
      go_simp
      refine hK _ _ ⟨by simpa using hz, v11, v12, .pointer (some ⟨g, 0, none⟩), .pointer (some ⟨g, 1, none⟩), v15, v16, v17, v18, v19, v20, v21, v22, v23, v24, v25, v26, v27, v28, v29, v30, v31, v32, rfl, ?_⟩
      exact ⟨fun e => K0.out (hne.out 0 (by decide) e), fun e => K1.out (hne.out 1 (by decide) e), fun e => K2.out (hne.out 2 (by decide) e), fun _ => rfl, fun e => K4.out (hne.out 4 (by decide) e), fun e => K5.out (hne.out 5 (by decide) e), fun e => K6.out (hne.out 6 (by decide) e), fun e => K7.out (hne.out 7 (by decide) e), fun e => K8.out (hne.out 8 (by decide) e), fun e => K9.out (hne.out 9 (by decide) e), fun e => K10.out (hne.out 10 (by decide) e), fun e => K11.out (hne.out 11 (by decide) e), fun e => K12.out (hne.out 12 (by decide) e), fun e => K13.out (hne.out 13 (by decide) e), fun e => K14.out (hne.out 14 (by decide) e), fun e => K15.out (hne.out 15 (by decide) e), fun e => K16.out (hne.out 16 (by decide) e), fun e => K17.out (hne.out 17 (by decide) e), fun e => K18.out (hne.out 18 (by decide) e), fun e => K19.out (hne.out 19 (by decide) e), fun e => K20.out (hne.out 20 (by decide) e), fun e => K21.out (hne.out 21 (by decide) e), hB⟩
    · cases ho
      have d3 := hd ⟨3, .data⟩ (by simp) rfl
      obtain rfl := K3.out d3
      refine wpOp_step rfl (fun K hK => ?_)
      go_simp
      refine hK _ _ ⟨by simpa using hz, v11, v12, v13, .pointer (some ⟨g, 1, none⟩), .int .i64 ↑a, v16, v17, v18, v19, v20, v21, v22, v23, v24, v25, v26, v27, v28, v29, v30, v31, v32, rfl, ?_⟩
      exact ⟨fun e => K0.out (hne.out 0 (by decide) e), fun e => K1.out (hne.out 1 (by decide) e), fun e => K2.out (hne.out 2 (by decide) e), fun e => K3.out (hne.out 3 (by decide) e), fun _ => rfl, fun e => K5.out (hne.out 5 (by decide) e), fun e => K6.out (hne.out 6 (by decide) e), fun e => K7.out (hne.out 7 (by decide) e), fun e => K8.out (hne.out 8 (by decide) e), fun e => K9.out (hne.out 9 (by decide) e), fun e => K10.out (hne.out 10 (by decide) e), fun e => K11.out (hne.out 11 (by decide) e), fun e => K12.out (hne.out 12 (by decide) e), fun e => K13.out (hne.out 13 (by decide) e), fun e => K14.out (hne.out 14 (by decide) e), fun e => K15.out (hne.out 15 (by decide) e), fun e => K16.out (hne.out 16 (by decide) e), fun e => K17.out (hne.out 17 (by decide) e), fun e => K18.out (hne.out 18 (by decide) e), fun e => K19.out (hne.out 19 (by decide) e), fun e => K20.out (hne.out 20 (by decide) e), fun e => K21.out (hne.out 21 (by decide) e), hB⟩
    · cases ho
      have d0 := hd ⟨0, .data⟩ (by simp) rfl
      have d4 := hd ⟨4, .data⟩ (by simp) rfl
      obtain rfl := K0.out d0
      obtain rfl := K4.out d4
      refine wpOp_step rfl (fun K hK => ?_)
      go_simp
      refine hK _ _ ⟨by simpa using hz, .int .i64 ↑a, v12, v13, v14, .int .i64 ↑a, .bool true, v17, v18, v19, v20, v21, v22, v23, v24, v25, v26, v27, v28, v29, v30, v31, v32, rfl, ?_⟩
      exact ⟨fun e => K0.out (hne.out 0 (by decide) e), fun e => K1.out (hne.out 1 (by decide) e), fun e => K2.out (hne.out 2 (by decide) e), fun e => K3.out (hne.out 3 (by decide) e), fun e => K4.out (hne.out 4 (by decide) e), fun _ => rfl, fun e => K6.out (hne.out 6 (by decide) e), fun e => K7.out (hne.out 7 (by decide) e), fun e => K8.out (hne.out 8 (by decide) e), fun e => K9.out (hne.out 9 (by decide) e), fun e => K10.out (hne.out 10 (by decide) e), fun e => K11.out (hne.out 11 (by decide) e), fun e => K12.out (hne.out 12 (by decide) e), fun e => K13.out (hne.out 13 (by decide) e), fun e => K14.out (hne.out 14 (by decide) e), fun e => K15.out (hne.out 15 (by decide) e), fun e => K16.out (hne.out 16 (by decide) e), fun e => K17.out (hne.out 17 (by decide) e), fun e => K18.out (hne.out 18 (by decide) e), fun e => K19.out (hne.out 19 (by decide) e), fun e => K20.out (hne.out 20 (by decide) e), fun e => K21.out (hne.out 21 (by decide) e), hB⟩
    · cases ho
      have d5 := hd ⟨5, .data⟩ (by simp) rfl
      obtain rfl := K5.out d5
      refine wpOp_step rfl (fun K hK => ?_)
      go_simp
      refine hK _ _ ⟨by simpa using hz, v11, v12, v13, v14, v15, .bool true, .bool true, v18, v19, v20, v21, v22, v23, v24, v25, v26, v27, v28, v29, v30, v31, v32, rfl, ?_⟩
      exact ⟨fun e => K0.out (hne.out 0 (by decide) e), fun e => K1.out (hne.out 1 (by decide) e), fun e => K2.out (hne.out 2 (by decide) e), fun e => K3.out (hne.out 3 (by decide) e), fun e => K4.out (hne.out 4 (by decide) e), fun e => K5.out (hne.out 5 (by decide) e), fun _ => rfl, fun e => K7.out (hne.out 7 (by decide) e), fun e => K8.out (hne.out 8 (by decide) e), fun e => K9.out (hne.out 9 (by decide) e), fun e => K10.out (hne.out 10 (by decide) e), fun e => K11.out (hne.out 11 (by decide) e), fun e => K12.out (hne.out 12 (by decide) e), fun e => K13.out (hne.out 13 (by decide) e), fun e => K14.out (hne.out 14 (by decide) e), fun e => K15.out (hne.out 15 (by decide) e), fun e => K16.out (hne.out 16 (by decide) e), fun e => K17.out (hne.out 17 (by decide) e), fun e => K18.out (hne.out 18 (by decide) e), fun e => K19.out (hne.out 19 (by decide) e), fun e => K20.out (hne.out 20 (by decide) e), fun e => K21.out (hne.out 21 (by decide) e), hB⟩
    · cases ho
      have d6 := hd ⟨6, .guard⟩ (by simp) rfl
      obtain rfl := K6.out d6
      refine wpOp_step rfl (fun K hK => ?_)
      go_simp
      refine hK _ _ ⟨by simpa using hz, v11, v12, v13, v14, v15, v16, .bool true, .pointer (some ⟨g, 0, none⟩), v19, v20, v21, v22, v23, v24, v25, v26, v27, v28, v29, v30, v31, v32, rfl, ?_⟩
      exact ⟨fun e => K0.out (hne.out 0 (by decide) e), fun e => K1.out (hne.out 1 (by decide) e), fun e => K2.out (hne.out 2 (by decide) e), fun e => K3.out (hne.out 3 (by decide) e), fun e => K4.out (hne.out 4 (by decide) e), fun e => K5.out (hne.out 5 (by decide) e), fun e => K6.out (hne.out 6 (by decide) e), fun _ => rfl, fun e => K8.out (hne.out 8 (by decide) e), fun e => K9.out (hne.out 9 (by decide) e), fun e => K10.out (hne.out 10 (by decide) e), fun e => K11.out (hne.out 11 (by decide) e), fun e => K12.out (hne.out 12 (by decide) e), fun e => K13.out (hne.out 13 (by decide) e), fun e => K14.out (hne.out 14 (by decide) e), fun e => K15.out (hne.out 15 (by decide) e), fun e => K16.out (hne.out 16 (by decide) e), fun e => K17.out (hne.out 17 (by decide) e), fun e => K18.out (hne.out 18 (by decide) e), fun e => K19.out (hne.out 19 (by decide) e), fun e => K20.out (hne.out 20 (by decide) e), fun e => K21.out (hne.out 21 (by decide) e), hB⟩
    · cases ho
      have d7 := hd ⟨7, .data⟩ (by simp) rfl
      have d6 := hd ⟨6, .guard⟩ (by simp) rfl
      obtain rfl := K7.out d7
      obtain rfl := K6.out d6
      refine wpOp_step rfl (fun K hK => ?_)
      go_simp
      refine hK _ _ ⟨by simpa using hz, v11, v12, v13, v14, v15, v16, .bool true, .pointer (some ⟨g, 0, none⟩), .pointer (some ⟨g, 0, none⟩), v20, v21, v22, v23, v24, v25, v26, v27, v28, v29, v30, v31, v32, rfl, ?_⟩
      exact ⟨fun e => K0.out (hne.out 0 (by decide) e), fun e => K1.out (hne.out 1 (by decide) e), fun e => K2.out (hne.out 2 (by decide) e), fun e => K3.out (hne.out 3 (by decide) e), fun e => K4.out (hne.out 4 (by decide) e), fun e => K5.out (hne.out 5 (by decide) e), fun e => K6.out (hne.out 6 (by decide) e), fun e => K7.out (hne.out 7 (by decide) e), fun _ => rfl, fun e => K9.out (hne.out 9 (by decide) e), fun e => K10.out (hne.out 10 (by decide) e), fun e => K11.out (hne.out 11 (by decide) e), fun e => K12.out (hne.out 12 (by decide) e), fun e => K13.out (hne.out 13 (by decide) e), fun e => K14.out (hne.out 14 (by decide) e), fun e => K15.out (hne.out 15 (by decide) e), fun e => K16.out (hne.out 16 (by decide) e), fun e => K17.out (hne.out 17 (by decide) e), fun e => K18.out (hne.out 18 (by decide) e), fun e => K19.out (hne.out 19 (by decide) e), fun e => K20.out (hne.out 20 (by decide) e), fun e => K21.out (hne.out 21 (by decide) e), hB⟩
    · cases ho
      have d8 := hd ⟨8, .data⟩ (by simp) rfl
      have d6 := hd ⟨6, .guard⟩ (by simp) rfl
      obtain rfl := K8.out d8
      obtain rfl := K6.out d6
      refine wpOp_step rfl (fun K hK => ?_)
      go_simp
      refine hK _ _ ⟨by simpa using hz, v11, v12, v13, v14, v15, v16, .bool true, v18, .pointer (some ⟨g, 0, none⟩), .pointer (some ⟨g, 0, none⟩), v21, v22, v23, v24, v25, v26, v27, v28, v29, v30, v31, v32, rfl, ?_⟩
      exact ⟨fun e => K0.out (hne.out 0 (by decide) e), fun e => K1.out (hne.out 1 (by decide) e), fun e => K2.out (hne.out 2 (by decide) e), fun e => K3.out (hne.out 3 (by decide) e), fun e => K4.out (hne.out 4 (by decide) e), fun e => K5.out (hne.out 5 (by decide) e), fun e => K6.out (hne.out 6 (by decide) e), fun e => K7.out (hne.out 7 (by decide) e), fun e => K8.out (hne.out 8 (by decide) e), fun _ => rfl, fun e => K10.out (hne.out 10 (by decide) e), fun e => K11.out (hne.out 11 (by decide) e), fun e => K12.out (hne.out 12 (by decide) e), fun e => K13.out (hne.out 13 (by decide) e), fun e => K14.out (hne.out 14 (by decide) e), fun e => K15.out (hne.out 15 (by decide) e), fun e => K16.out (hne.out 16 (by decide) e), fun e => K17.out (hne.out 17 (by decide) e), fun e => K18.out (hne.out 18 (by decide) e), fun e => K19.out (hne.out 19 (by decide) e), fun e => K20.out (hne.out 20 (by decide) e), fun e => K21.out (hne.out 21 (by decide) e), hB⟩
    · cases ho
      have d9 := hd ⟨9, .data⟩ (by simp) rfl
      have d6 := hd ⟨6, .guard⟩ (by simp) rfl
      obtain rfl := K9.out d9
      obtain rfl := K6.out d6
      refine wpOp_step rfl (fun K hK => ?_)
      go_simp
      refine hK _ _ ⟨by simpa using hz, v11, v12, v13, v14, v15, v16, .bool true, v18, v19, .pointer (some ⟨g, 0, none⟩), .slice (some ⟨gs, off, none⟩) m c, v22, v23, v24, v25, v26, v27, v28, v29, v30, v31, v32, rfl, ?_⟩
      exact ⟨fun e => K0.out (hne.out 0 (by decide) e), fun e => K1.out (hne.out 1 (by decide) e), fun e => K2.out (hne.out 2 (by decide) e), fun e => K3.out (hne.out 3 (by decide) e), fun e => K4.out (hne.out 4 (by decide) e), fun e => K5.out (hne.out 5 (by decide) e), fun e => K6.out (hne.out 6 (by decide) e), fun e => K7.out (hne.out 7 (by decide) e), fun e => K8.out (hne.out 8 (by decide) e), fun e => K9.out (hne.out 9 (by decide) e), fun _ => rfl, fun e => K11.out (hne.out 11 (by decide) e), fun e => K12.out (hne.out 12 (by decide) e), fun e => K13.out (hne.out 13 (by decide) e), fun e => K14.out (hne.out 14 (by decide) e), fun e => K15.out (hne.out 15 (by decide) e), fun e => K16.out (hne.out 16 (by decide) e), fun e => K17.out (hne.out 17 (by decide) e), fun e => K18.out (hne.out 18 (by decide) e), fun e => K19.out (hne.out 19 (by decide) e), fun e => K20.out (hne.out 20 (by decide) e), fun e => K21.out (hne.out 21 (by decide) e), hB⟩
    · cases ho
      have d6 := hd ⟨6, .guard⟩ (by simp) rfl
      obtain rfl := K6.out d6
      refine wpOp_step rfl (fun K hK => ?_)
      go_simp
      refine hK _ _ ⟨by simpa using hz, v11, v12, v13, v14, v15, v16, .bool true, v18, v19, v20, v21, .int .i64 ↑a, v23, v24, v25, v26, v27, v28, v29, v30, v31, v32, rfl, ?_⟩
      exact ⟨fun e => K0.out (hne.out 0 (by decide) e), fun e => K1.out (hne.out 1 (by decide) e), fun e => K2.out (hne.out 2 (by decide) e), fun e => K3.out (hne.out 3 (by decide) e), fun e => K4.out (hne.out 4 (by decide) e), fun e => K5.out (hne.out 5 (by decide) e), fun e => K6.out (hne.out 6 (by decide) e), fun e => K7.out (hne.out 7 (by decide) e), fun e => K8.out (hne.out 8 (by decide) e), fun e => K9.out (hne.out 9 (by decide) e), fun e => K10.out (hne.out 10 (by decide) e), fun _ => rfl, fun e => K12.out (hne.out 12 (by decide) e), fun e => K13.out (hne.out 13 (by decide) e), fun e => K14.out (hne.out 14 (by decide) e), fun e => K15.out (hne.out 15 (by decide) e), fun e => K16.out (hne.out 16 (by decide) e), fun e => K17.out (hne.out 17 (by decide) e), fun e => K18.out (hne.out 18 (by decide) e), fun e => K19.out (hne.out 19 (by decide) e), fun e => K20.out (hne.out 20 (by decide) e), fun e => K21.out (hne.out 21 (by decide) e), hB⟩
    · cases ho
      have d10 := hd ⟨10, .data⟩ (by simp) rfl
      have d11 := hd ⟨11, .data⟩ (by simp) rfl
      have d6 := hd ⟨6, .guard⟩ (by simp) rfl
      obtain rfl := K10.out d10
      obtain rfl := K11.out d11
      obtain rfl := K6.out d6
      refine wpOp_step rfl (fun K hK => ?_)
      go_simp
      refine hK _ _ ⟨by simpa using hz, v11, v12, v13, v14, v15, v16, .bool true, v18, v19, v20, .slice (some ⟨gs, off, none⟩) m c, .int .i64 ↑a, .pointer (some ⟨gs, off + a * 7, none⟩), v24, v25, v26, v27, v28, v29, v30, v31, v32, rfl, ?_⟩
      exact ⟨fun e => K0.out (hne.out 0 (by decide) e), fun e => K1.out (hne.out 1 (by decide) e), fun e => K2.out (hne.out 2 (by decide) e), fun e => K3.out (hne.out 3 (by decide) e), fun e => K4.out (hne.out 4 (by decide) e), fun e => K5.out (hne.out 5 (by decide) e), fun e => K6.out (hne.out 6 (by decide) e), fun e => K7.out (hne.out 7 (by decide) e), fun e => K8.out (hne.out 8 (by decide) e), fun e => K9.out (hne.out 9 (by decide) e), fun e => K10.out (hne.out 10 (by decide) e), fun e => K11.out (hne.out 11 (by decide) e), fun _ => rfl, fun e => K13.out (hne.out 13 (by decide) e), fun e => K14.out (hne.out 14 (by decide) e), fun e => K15.out (hne.out 15 (by decide) e), fun e => K16.out (hne.out 16 (by decide) e), fun e => K17.out (hne.out 17 (by decide) e), fun e => K18.out (hne.out 18 (by decide) e), fun e => K19.out (hne.out 19 (by decide) e), fun e => K20.out (hne.out 20 (by decide) e), fun e => K21.out (hne.out 21 (by decide) e), hB⟩
    · cases ho
      have d12 := hd ⟨12, .data⟩ (by simp) rfl
      have d6 := hd ⟨6, .guard⟩ (by simp) rfl
      obtain rfl := K12.out d12
      obtain rfl := K6.out d6
      refine wpOp_step rfl (fun K hK => ?_)
      go_simp
      refine hK _ _ ⟨by simpa using hz, v11, v12, v13, v14, v15, v16, .bool true, v18, v19, v20, v21, v22, .pointer (some ⟨gs, off + a * 7, none⟩), .agg #[.int .i64 s'.k, .int .i64 s'.a, .int .i64 s'.b, .int .i64 s'.c, .int .i64 s'.u, .int .i64 s'.v, .int .i64 s'.x], v25, v26, v27, v28, v29, v30, v31, v32, rfl, ?_⟩
      exact ⟨fun e => K0.out (hne.out 0 (by decide) e), fun e => K1.out (hne.out 1 (by decide) e), fun e => K2.out (hne.out 2 (by decide) e), fun e => K3.out (hne.out 3 (by decide) e), fun e => K4.out (hne.out 4 (by decide) e), fun e => K5.out (hne.out 5 (by decide) e), fun e => K6.out (hne.out 6 (by decide) e), fun e => K7.out (hne.out 7 (by decide) e), fun e => K8.out (hne.out 8 (by decide) e), fun e => K9.out (hne.out 9 (by decide) e), fun e => K10.out (hne.out 10 (by decide) e), fun e => K11.out (hne.out 11 (by decide) e), fun e => K12.out (hne.out 12 (by decide) e), fun _ => rfl, fun e => K14.out (hne.out 14 (by decide) e), fun e => K15.out (hne.out 15 (by decide) e), fun e => K16.out (hne.out 16 (by decide) e), fun e => K17.out (hne.out 17 (by decide) e), fun e => K18.out (hne.out 18 (by decide) e), fun e => K19.out (hne.out 19 (by decide) e), fun e => K20.out (hne.out 20 (by decide) e), fun e => K21.out (hne.out 21 (by decide) e), hB⟩
    · cases ho
      have d6 := hd ⟨6, .guard⟩ (by simp) rfl
      obtain rfl := K6.out d6
      refine wpOp_step rfl (fun K hK => ?_)
      go_simp
      refine hK _ _ ⟨by simpa using hz, v11, v12, v13, v14, v15, v16, .bool true, v18, v19, v20, v21, v22, v23, v24, .pointer (some ⟨w.heap.size, 1, none⟩), v26, v27, v28, v29, v30, v31, v32, rfl, ?_⟩
      exact ⟨fun e => K0.out (hne.out 0 (by decide) e), fun e => K1.out (hne.out 1 (by decide) e), fun e => K2.out (hne.out 2 (by decide) e), fun e => K3.out (hne.out 3 (by decide) e), fun e => K4.out (hne.out 4 (by decide) e), fun e => K5.out (hne.out 5 (by decide) e), fun e => K6.out (hne.out 6 (by decide) e), fun e => K7.out (hne.out 7 (by decide) e), fun e => K8.out (hne.out 8 (by decide) e), fun e => K9.out (hne.out 9 (by decide) e), fun e => K10.out (hne.out 10 (by decide) e), fun e => K11.out (hne.out 11 (by decide) e), fun e => K12.out (hne.out 12 (by decide) e), fun e => K13.out (hne.out 13 (by decide) e), fun _ => rfl, fun e => K15.out (hne.out 15 (by decide) e), fun e => K16.out (hne.out 16 (by decide) e), fun e => K17.out (hne.out 17 (by decide) e), fun e => K18.out (hne.out 18 (by decide) e), fun e => K19.out (hne.out 19 (by decide) e), fun e => K20.out (hne.out 20 (by decide) e), fun e => K21.out (hne.out 21 (by decide) e), hB⟩
    · cases ho
      have d14 := hd ⟨14, .data⟩ (by simp) rfl
      have d6 := hd ⟨6, .guard⟩ (by simp) rfl
      obtain rfl := K14.out d14
      obtain rfl := K6.out d6
      refine wpOp_step rfl (fun K hK => ?_)
      go_simp
      refine hK _ _ ⟨by simpa using hz, v11, v12, v13, v14, v15, v16, .bool true, v18, v19, v20, v21, v22, v23, v24, .pointer (some ⟨w.heap.size, 1, none⟩), .int .i64 x, v27, v28, v29, v30, v31, v32, rfl, ?_⟩
      exact ⟨fun e => K0.out (hne.out 0 (by decide) e), fun e => K1.out (hne.out 1 (by decide) e), fun e => K2.out (hne.out 2 (by decide) e), fun e => K3.out (hne.out 3 (by decide) e), fun e => K4.out (hne.out 4 (by decide) e), fun e => K5.out (hne.out 5 (by decide) e), fun e => K6.out (hne.out 6 (by decide) e), fun e => K7.out (hne.out 7 (by decide) e), fun e => K8.out (hne.out 8 (by decide) e), fun e => K9.out (hne.out 9 (by decide) e), fun e => K10.out (hne.out 10 (by decide) e), fun e => K11.out (hne.out 11 (by decide) e), fun e => K12.out (hne.out 12 (by decide) e), fun e => K13.out (hne.out 13 (by decide) e), fun e => K14.out (hne.out 14 (by decide) e), fun _ => rfl, fun e => K16.out (hne.out 16 (by decide) e), fun e => K17.out (hne.out 17 (by decide) e), fun e => K18.out (hne.out 18 (by decide) e), fun e => K19.out (hne.out 19 (by decide) e), fun e => K20.out (hne.out 20 (by decide) e), fun e => K21.out (hne.out 21 (by decide) e), hB⟩
    · cases ho
      have d13 := hd ⟨13, .data⟩ (by simp) rfl
      have d15 := hd ⟨15, .data⟩ (by simp) rfl
      have d6 := hd ⟨6, .guard⟩ (by simp) rfl
      obtain rfl := K13.out d13
      obtain rfl := K15.out d15
      obtain rfl := K6.out d6
      refine wpOp_step rfl (fun K hK => ?_)
      go_simp
      go_at_call 166
      refine (cU.out _).mono ?_
      rintro e w3 ⟨rfl, hb3⟩
      refine hK _ _ ⟨by simpa using hz, v11, v12, v13, v14, v15, v16, .bool true, v18, v19, v20, v21, v22, v23, .agg #[.int .i64 s'.k, .int .i64 s'.a, .int .i64 s'.b, .int .i64 s'.c, .int .i64 s'.u, .int .i64 s'.v, .int .i64 s'.x], v25, .int .i64 x, .int .i64 u, v28, v29, v30, v31, v32, rfl, ?_⟩
      exact ⟨fun e => K0.out (hne.out 0 (by decide) e), fun e => K1.out (hne.out 1 (by decide) e), fun e => K2.out (hne.out 2 (by decide) e), fun e => K3.out (hne.out 3 (by decide) e), fun e => K4.out (hne.out 4 (by decide) e), fun e => K5.out (hne.out 5 (by decide) e), fun e => K6.out (hne.out 6 (by decide) e), fun e => K7.out (hne.out 7 (by decide) e), fun e => K8.out (hne.out 8 (by decide) e), fun e => K9.out (hne.out 9 (by decide) e), fun e => K10.out (hne.out 10 (by decide) e), fun e => K11.out (hne.out 11 (by decide) e), fun e => K12.out (hne.out 12 (by decide) e), fun e => K13.out (hne.out 13 (by decide) e), fun e => K14.out (hne.out 14 (by decide) e), fun e => K15.out (hne.out 15 (by decide) e), fun _ => rfl, fun e => K17.out (hne.out 17 (by decide) e), fun e => K18.out (hne.out 18 (by decide) e), fun e => K19.out (hne.out 19 (by decide) e), fun e => K20.out (hne.out 20 (by decide) e), fun e => K21.out (hne.out 21 (by decide) e), hB.trans (hb3.mono hB.size)⟩
    · cases ho
      have d6 := hd ⟨6, .guard⟩ (by simp) rfl
      obtain rfl := K6.out d6
      refine wpOp_step rfl (fun K hK => ?_)
      go_simp
      refine hK _ _ ⟨by simpa using hz, v11, v12, v13, v14, v15, v16, .bool true, v18, v19, v20, v21, v22, v23, v24, v25, v26, v27, .pointer (some ⟨g, 0, none⟩), v29, v30, v31, v32, rfl, ?_⟩
      exact ⟨fun e => K0.out (hne.out 0 (by decide) e), fun e => K1.out (hne.out 1 (by decide) e), fun e => K2.out (hne.out 2 (by decide) e), fun e => K3.out (hne.out 3 (by decide) e), fun e => K4.out (hne.out 4 (by decide) e), fun e => K5.out (hne.out 5 (by decide) e), fun e => K6.out (hne.out 6 (by decide) e), fun e => K7.out (hne.out 7 (by decide) e), fun e => K8.out (hne.out 8 (by decide) e), fun e => K9.out (hne.out 9 (by decide) e), fun e => K10.out (hne.out 10 (by decide) e), fun e => K11.out (hne.out 11 (by decide) e), fun e => K12.out (hne.out 12 (by decide) e), fun e => K13.out (hne.out 13 (by decide) e), fun e => K14.out (hne.out 14 (by decide) e), fun e => K15.out (hne.out 15 (by decide) e), fun e => K16.out (hne.out 16 (by decide) e), fun _ => rfl, fun e => K18.out (hne.out 18 (by decide) e), fun e => K19.out (hne.out 19 (by decide) e), fun e => K20.out (hne.out 20 (by decide) e), fun e => K21.out (hne.out 21 (by decide) e), hB⟩
    · cases ho
      have d17 := hd ⟨17, .data⟩ (by simp) rfl
      have d6 := hd ⟨6, .guard⟩ (by simp) rfl
      obtain rfl := K17.out d17
      obtain rfl := K6.out d6
      refine wpOp_step rfl (fun K hK => ?_)
      go_simp
      refine hK _ _ ⟨by simpa using hz, v11, v12, v13, v14, v15, v16, .bool true, v18, v19, v20, v21, v22, v23, v24, v25, v26, v27, .pointer (some ⟨g, 0, none⟩), .pointer (some ⟨g, 0, none⟩), v30, v31, v32, rfl, ?_⟩
      exact ⟨fun e => K0.out (hne.out 0 (by decide) e), fun e => K1.out (hne.out 1 (by decide) e), fun e => K2.out (hne.out 2 (by decide) e), fun e => K3.out (hne.out 3 (by decide) e), fun e => K4.out (hne.out 4 (by decide) e), fun e => K5.out (hne.out 5 (by decide) e), fun e => K6.out (hne.out 6 (by decide) e), fun e => K7.out (hne.out 7 (by decide) e), fun e => K8.out (hne.out 8 (by decide) e), fun e => K9.out (hne.out 9 (by decide) e), fun e => K10.out (hne.out 10 (by decide) e), fun e => K11.out (hne.out 11 (by decide) e), fun e => K12.out (hne.out 12 (by decide) e), fun e => K13.out (hne.out 13 (by decide) e), fun e => K14.out (hne.out 14 (by decide) e), fun e => K15.out (hne.out 15 (by decide) e), fun e => K16.out (hne.out 16 (by decide) e), fun e => K17.out (hne.out 17 (by decide) e), fun _ => rfl, fun e => K19.out (hne.out 19 (by decide) e), fun e => K20.out (hne.out 20 (by decide) e), fun e => K21.out (hne.out 21 (by decide) e), hB⟩
    · cases ho
      have d18 := hd ⟨18, .data⟩ (by simp) rfl
      have d6 := hd ⟨6, .guard⟩ (by simp) rfl
      obtain rfl := K18.out d18
      obtain rfl := K6.out d6
      refine wpOp_step rfl (fun K hK => ?_)
      go_simp
      refine hK _ _ ⟨by simpa using hz, v11, v12, v13, v14, v15, v16, .bool true, v18, v19, v20, v21, v22, v23, v24, v25, v26, v27, v28, .pointer (some ⟨g, 0, none⟩), .pointer (some ⟨g, 2, none⟩), v31, v32, rfl, ?_⟩
      exact ⟨fun e => K0.out (hne.out 0 (by decide) e), fun e => K1.out (hne.out 1 (by decide) e), fun e => K2.out (hne.out 2 (by decide) e), fun e => K3.out (hne.out 3 (by decide) e), fun e => K4.out (hne.out 4 (by decide) e), fun e => K5.out (hne.out 5 (by decide) e), fun e => K6.out (hne.out 6 (by decide) e), fun e => K7.out (hne.out 7 (by decide) e), fun e => K8.out (hne.out 8 (by decide) e), fun e => K9.out (hne.out 9 (by decide) e), fun e => K10.out (hne.out 10 (by decide) e), fun e => K11.out (hne.out 11 (by decide) e), fun e => K12.out (hne.out 12 (by decide) e), fun e => K13.out (hne.out 13 (by decide) e), fun e => K14.out (hne.out 14 (by decide) e), fun e => K15.out (hne.out 15 (by decide) e), fun e => K16.out (hne.out 16 (by decide) e), fun e => K17.out (hne.out 17 (by decide) e), fun e => K18.out (hne.out 18 (by decide) e), fun _ => rfl, fun e => K20.out (hne.out 20 (by decide) e), fun e => K21.out (hne.out 21 (by decide) e), hB⟩
    · cases ho
      have d19 := hd ⟨19, .data⟩ (by simp) rfl
      have d6 := hd ⟨6, .guard⟩ (by simp) rfl
      obtain rfl := K19.out d19
      obtain rfl := K6.out d6
      refine wpOp_step rfl (fun K hK => ?_)
      go_simp
      refine hK _ _ ⟨by simpa using hz, v11, v12, v13, v14, v15, v16, .bool true, v18, v19, v20, v21, v22, v23, v24, v25, v26, v27, v28, v29, .pointer (some ⟨g, 2, none⟩), .int .i64 v, v32, rfl, ?_⟩
      exact ⟨fun e => K0.out (hne.out 0 (by decide) e), fun e => K1.out (hne.out 1 (by decide) e), fun e => K2.out (hne.out 2 (by decide) e), fun e => K3.out (hne.out 3 (by decide) e), fun e => K4.out (hne.out 4 (by decide) e), fun e => K5.out (hne.out 5 (by decide) e), fun e => K6.out (hne.out 6 (by decide) e), fun e => K7.out (hne.out 7 (by decide) e), fun e => K8.out (hne.out 8 (by decide) e), fun e => K9.out (hne.out 9 (by decide) e), fun e => K10.out (hne.out 10 (by decide) e), fun e => K11.out (hne.out 11 (by decide) e), fun e => K12.out (hne.out 12 (by decide) e), fun e => K13.out (hne.out 13 (by decide) e), fun e => K14.out (hne.out 14 (by decide) e), fun e => K15.out (hne.out 15 (by decide) e), fun e => K16.out (hne.out 16 (by decide) e), fun e => K17.out (hne.out 17 (by decide) e), fun e => K18.out (hne.out 18 (by decide) e), fun e => K19.out (hne.out 19 (by decide) e), fun _ => rfl, fun e => K21.out (hne.out 21 (by decide) e), hB⟩
    · cases ho
      have d16 := hd ⟨16, .data⟩ (by simp) rfl
      have d20 := hd ⟨20, .data⟩ (by simp) rfl
      have d6 := hd ⟨6, .guard⟩ (by simp) rfl
      obtain rfl := K16.out d16
      obtain rfl := K20.out d20
      obtain rfl := K6.out d6
      refine wpOp_step rfl (fun K hK => ?_)
      go_simp
      refine hK _ _ ⟨by simpa using hz, v11, v12, v13, v14, v15, v16, .bool true, v18, v19, v20, v21, v22, v23, v24, v25, v26, .int .i64 u, v28, v29, v30, .int .i64 v, .bool b, rfl, ?_⟩
      exact ⟨fun e => K0.out (hne.out 0 (by decide) e), fun e => K1.out (hne.out 1 (by decide) e), fun e => K2.out (hne.out 2 (by decide) e), fun e => K3.out (hne.out 3 (by decide) e), fun e => K4.out (hne.out 4 (by decide) e), fun e => K5.out (hne.out 5 (by decide) e), fun e => K6.out (hne.out 6 (by decide) e), fun e => K7.out (hne.out 7 (by decide) e), fun e => K8.out (hne.out 8 (by decide) e), fun e => K9.out (hne.out 9 (by decide) e), fun e => K10.out (hne.out 10 (by decide) e), fun e => K11.out (hne.out 11 (by decide) e), fun e => K12.out (hne.out 12 (by decide) e), fun e => K13.out (hne.out 13 (by decide) e), fun e => K14.out (hne.out 14 (by decide) e), fun e => K15.out (hne.out 15 (by decide) e), fun e => K16.out (hne.out 16 (by decide) e), fun e => K17.out (hne.out 17 (by decide) e), fun e => K18.out (hne.out 18 (by decide) e), fun e => K19.out (hne.out 19 (by decide) e), fun e => K20.out (hne.out 20 (by decide) e), fun _ => rfl, hB⟩
  case hl =>
    rintro listed aq wx ⟨hz, v11, v12, v13, v14, v15, v16, v17, v18, v19, v20, v21, v22, v23, v24, v25, v26, v27, v28, v29, v30, v31, v32, rfl, hII⟩ hall
    have K0 := Lib.hid hII.1
    have K1 := Lib.hid hII.2.1
    have K2 := Lib.hid hII.2.2.1
    have K3 := Lib.hid hII.2.2.2.1
    have K4 := Lib.hid hII.2.2.2.2.1
    have K5 := Lib.hid hII.2.2.2.2.2.1
    have K6 := Lib.hid hII.2.2.2.2.2.2.1
    have K7 := Lib.hid hII.2.2.2.2.2.2.2.1
    have K8 := Lib.hid hII.2.2.2.2.2.2.2.2.1
    have K9 := Lib.hid hII.2.2.2.2.2.2.2.2.2.1
    have K10 := Lib.hid hII.2.2.2.2.2.2.2.2.2.2.1
    have K11 := Lib.hid hII.2.2.2.2.2.2.2.2.2.2.2.1
    have K12 := Lib.hid hII.2.2.2.2.2.2.2.2.2.2.2.2.1
    have K13 := Lib.hid hII.2.2.2.2.2.2.2.2.2.2.2.2.2.1
    have K14 := Lib.hid hII.2.2.2.2.2.2.2.2.2.2.2.2.2.2.1
    have K15 := Lib.hid hII.2.2.2.2.2.2.2.2.2.2.2.2.2.2.2.1
    have K16 := Lib.hid hII.2.2.2.2.2.2.2.2.2.2.2.2.2.2.2.2.1
    have K17 := Lib.hid hII.2.2.2.2.2.2.2.2.2.2.2.2.2.2.2.2.2.1
    have K18 := Lib.hid hII.2.2.2.2.2.2.2.2.2.2.2.2.2.2.2.2.2.2.1
    have K19 := Lib.hid hII.2.2.2.2.2.2.2.2.2.2.2.2.2.2.2.2.2.2.2.1
    have K20 := Lib.hid hII.2.2.2.2.2.2.2.2.2.2.2.2.2.2.2.2.2.2.2.2.1
    have K21 := Lib.hid hII.2.2.2.2.2.2.2.2.2.2.2.2.2.2.2.2.2.2.2.2.2.1
    have hB : Below W0.heap.size W0 wx := hII.2.2.2.2.2.2.2.2.2.2.2.2.2.2.2.2.2.2.2.2.2.2
    have hcl := hHa.out.below hB
    have g9 := hcl.1.cell
    have n9 := (hN5.out.kept hB).cell
    obtain ⟨a0, a1, a2, a3, a4, a5, a6⟩ := (hAt.out wx hcl).open_
    clear hII
    obtain rfl := K0.out (hall 0 (by decide))
    obtain rfl := K1.out (hall 1 (by decide))
    obtain rfl := K2.out (hall 2 (by decide))
    obtain rfl := K3.out (hall 3 (by decide))
    obtain rfl := K4.out (hall 4 (by decide))
    obtain rfl := K5.out (hall 5 (by decide))
    obtain rfl := K6.out (hall 6 (by decide))
    obtain rfl := K7.out (hall 7 (by decide))
    obtain rfl := K8.out (hall 8 (by decide))
    obtain rfl := K9.out (hall 9 (by decide))
    obtain rfl := K10.out (hall 10 (by decide))
    obtain rfl := K11.out (hall 11 (by decide))
    obtain rfl := K12.out (hall 12 (by decide))
    obtain rfl := K13.out (hall 13 (by decide))
    obtain rfl := K14.out (hall 14 (by decide))
    obtain rfl := K15.out (hall 15 (by decide))
    obtain rfl := K16.out (hall 16 (by decide))
    obtain rfl := K17.out (hall 17 (by decide))
    obtain rfl := K18.out (hall 18 (by decide))
    obtain rfl := K19.out (hall 19 (by decide))
    obtain rfl := K20.out (hall 20 (by decide))
    obtain rfl := K21.out (hall 21 (by decide))
    clear hall K0 K1 K2 K3 K4 K5 K6 K7 K8 K9 K10 K11 K12 K13 K14 K15 K16 K17 K18 K19 K20 K21
    refine wpOp_step rfl (fun K0 hK0 => ?_)
    go_simp
    refine hK0 _ _ ?_
    clear hK0
    clear hcl g9 n9 a0 a1 a2 a3 a4 a5 a6
    have h7 := hN7h.out.kept hB
    have h6 := hN6h.out.kept hB
    have hbb := hBa.out.trans (hB.mono hBa.out.size)
    clear hB
    cases b with
    | false =>
      have c7 := h7.cell
      have c6 := h6.cell
      have f6 := h6.frozen
      have hr6 := Lib.hid ((h6.put 0 (.int .i64 wt)).put 1 (.int .i64 0))
      have hb6 := Lib.hid ((hbb.setCell (p := ⟨w.heap.size + 1, 0, none⟩) (by show w.heap.size ≤ w.heap.size + 1; omega) (.int .i64 wt)).setCell (p := ⟨w.heap.size + 1, 1, none⟩) (by show w.heap.size ≤ w.heap.size + 1; omega) (.int .i64 0))
      clear h7 h6 hbb
      go_wp2_with fail
      have hpc := hr6.out.cell
      simp at hpc
      refine bodyPost_ret (v := .agg #[.int .i64 wt, .int .i64 0]) (by simp [results, Try.results163, go_sem, hpc]) rfl ⟨by rw [hq.out]; rfl, hb6.out⟩
    | true =>
      have c7 := h7.cell
      have f7 := h7.frozen
      have c6 := h6.cell
      have f6 := h6.frozen
      have hr6 := Lib.hid (((h6.far (p := ⟨w.heap.size + 1 + 1, 1, none⟩) (by show w.heap.size + 1 ≠ w.heap.size + 1 + 1; omega) (.int .i64 1)).put 0 (.int .i64 wt)).put 1 (.int .i64 1))
      have hb6 := Lib.hid (((hbb.setCell (p := ⟨w.heap.size + 1 + 1, 1, none⟩) (by show w.heap.size ≤ w.heap.size + 1 + 1; omega) (.int .i64 1)).setCell (p := ⟨w.heap.size + 1, 0, none⟩) (by show w.heap.size ≤ w.heap.size + 1; omega) (.int .i64 wt)).setCell (p := ⟨w.heap.size + 1, 1, none⟩) (by show w.heap.size ≤ w.heap.size + 1; omega) (.int .i64 1))
      clear h7 h6 hbb
      go_wp2_with fail
      have hpc := hr6.out.cell
      simp at hpc
      refine bodyPost_ret (v := .agg #[.int .i64 wt, .int .i64 1]) (by simp [results, Try.results163, go_sem, hpc]) rfl ⟨by rw [hq.out]; rfl, hb6.out⟩

end Go.Proofs.Ytbndonfpdioibaa
