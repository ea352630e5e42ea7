/- Parts of the proof: Cv. -/
import Derived.Test.YtkggejmamhakaaaZAT
import Derived.Test.YtkggejmamhakaaaZBB
namespace Go.Proofs.Ytkggejmamhakaaa
set_option maxRecDepth 100000
set_option linter.unusedVariables false
open Go.RowKit
/-- All blocks that are known are as they were. -/
def Kp6 (w w' : World) : Prop := ∀ b t cs, Has w b t cs → Has w' b t cs
theorem Kp6.alloc (w : World) (o : Obj) : Kp6 w (w.alloc o) := fun _ _ _ h => h.alloc o
theorem Kp6.below {w w' : World} (h : Below w.heap.size w w') : Kp6 w w' := fun _ _ _ k => k.kept h
theorem seven {cs : Array Value} (h : cs.size = 7) : ∃ x0 x1 x2 x3 x4 x5 x6, cs = #[x0, x1, x2, x3, x4, x5, x6] := by
  obtain ⟨l⟩ := cs
  match l, h with
  | [x0, x1, x2, x3, x4, x5, x6], _ => exact ⟨x0, x1, x2, x3, x4, x5, x6, rfl⟩
/-- A statement that draws or weighs by a variable, with the variable's value known. -/
theorem turn_moved (b : St) {n : Nat} (hn : n ≤ 2) : turnR b.u b.v b.x n = rowN (moved b n).u (moved b n).v (moved b n).x := by
  obtain rfl | rfl | rfl : n = 0 ∨ n = 1 ∨ n = 2 := by omega
  all_goals simp [turnR, moved, St.wgt]
set_option maxHeartbeats 1000000 in
theorem moved_any (s : St) (n : Nat) (w : World) (hn : n ≤ 2) (hk : s.k = 3 ∨ s.k = 5) (hs : (0 ≤ s.u ∧ s.u ≤ 9) ∧ (0 ≤ s.v ∧ s.v ≤ 9) ∧ (0 ≤ s.x ∧ s.x ≤ 9)) :
    Calls Try.prog 112 #[.agg #[.int .i64 s.k, .int .i64 s.a, .int .i64 s.b, .int .i64 s.c, .int .i64 s.u, .int .i64 s.v, .int .i64 s.x], .int .i64 (n : Int)] w
      fun e w' => e = .returned (.agg #[.int .i64 (moved s n).k, .int .i64 (moved s n).a, .int .i64 (moved s n).b, .int .i64 (moved s n).c, .int .i64 (moved s n).u, .int .i64 (moved s n).v, .int .i64 (moved s n).x]) ∧ Below w.heap.size w w' := by
  have hm : (0 ≤ (moved s n).u ∧ (moved s n).u ≤ 9) ∧ (0 ≤ (moved s n).v ∧ (moved s n).v ≤ 9) ∧ (0 ≤ (moved s n).x ∧ (moved s n).x ≤ 9) := by
    unfold moved St.wgt
    dsimp only
    refine ⟨?_, ?_, ?_⟩
    all_goals
      repeat' split
      all_goals omega
  have q1 : 0 ≤ s.u ∧ s.u ≤ 99 := by omega
  have q2 : 0 ≤ s.v ∧ s.v ≤ 99 := by omega
  have q3 : 0 ≤ s.x ∧ s.x ≤ 99 := by omega
  have cT := Lib.hid (fun wx => turnedRow_any s.u s.v s.x n wx hn q1 q2 q3)
  have cM := Lib.hid (fun wx => weightsOfRow_any (moved s n).u (moved s n).v (moved s n).x wx ⟨hm.1.1, by omega⟩ ⟨hm.2.1.1, by omega⟩ ⟨hm.2.2.1, by omega⟩)
  have e0 := turn_moved s hn
  have ea : (moved s n).a = s.a := rfl
  have eb : (moved s n).b = 0 := rfl
  have ec : (moved s n).c = 0 := rfl
  have ek : (moved s n).k = if s.k = 5 then 4 else 2 := rfl
  rw [e0] at cT
  rw [ea, eb, ec]
  generalize (moved s n).u = mu at *
  generalize (moved s n).v = mv at *
  generalize (moved s n).x = mx at *
  generalize (moved s n).k = mk at *
  have h1 := ((Has.new w 63 #[.int .i64 s.k, .int .i64 s.a, .int .i64 s.b, .int .i64 s.c, .int .i64 s.u, .int .i64 s.v, .int .i64 s.x]).alloc (.cells #[.int .i64 0, .int .i64 0, .int .i64 0, .int .i64 0, .int .i64 0, .int .i64 0, .int .i64 0] 63))
  have h3 := Has.newAt (w := w.alloc (.cells #[.int .i64 s.k, .int .i64 s.a, .int .i64 s.b, .int .i64 s.c, .int .i64 s.u, .int .i64 s.v, .int .i64 s.x] 63)) (n := w.heap.size + 1) (t := 63) (cs := #[.int .i64 0, .int .i64 0, .int .i64 0, .int .i64 0, .int .i64 0, .int .i64 0, .int .i64 0]) (by simp)
  have hB : Below w.heap.size w ((w.alloc (.cells #[.int .i64 s.k, .int .i64 s.a, .int .i64 s.b, .int .i64 s.c, .int .i64 s.u, .int .i64 s.v, .int .i64 s.x] 63)).alloc (.cells #[.int .i64 0, .int .i64 0, .int .i64 0, .int .i64 0, .int .i64 0, .int .i64 0, .int .i64 0] 63)) := ((Below.refl _ _).alloc (Nat.le_refl _) _).alloc (by simp) _
  have hz : ((w.alloc (.cells #[.int .i64 s.k, .int .i64 s.a, .int .i64 s.b, .int .i64 s.c, .int .i64 s.u, .int .i64 s.v, .int .i64 s.x] 63)).alloc (.cells #[.int .i64 0, .int .i64 0, .int .i64 0, .int .i64 0, .int .i64 0, .int .i64 0, .int .i64 0] 63)).heap.size = w.heap.size + 2 := by simp
  have cIW := Lib.hid (fun wx => isWeigh_any s wx)
  have hWg := Lib.hid (show s.weighs = decide (s.k = 5) by unfold St.weighs; rcases hk with hk | hk <;> simp [hk])
  clear hs hm e0 ea eb ec
  go_enter Try.func112, Try.ntmps112
  go_wp2_with fail
  generalize ((w.alloc (.cells #[.int .i64 s.k, .int .i64 s.a, .int .i64 s.b, .int .i64 s.c, .int .i64 s.u, .int .i64 s.v, .int .i64 s.x] 63)).alloc (.cells #[.int .i64 0, .int .i64 0, .int .i64 0, .int .i64 0, .int .i64 0, .int .i64 0, .int .i64 0] 63)) = W0 at h1 h3 hB hz ⊢
  have hzz := Lib.hid hz
  clear hz
  refine wp_region_any (by kernel_rfl) ?_
  change wpAny _ _ _ _ _ _ _ (World.drew _)
  refine wpAny_inv (I := fun listed a wx => listed.size = 11 ∧ ∃ v5 v6 v7 v8 v9 v10 v11 v12 v13 v14 : Value, a = { tmps := #[.agg #[.int .i64 s.k, .int .i64 s.a, .int .i64 s.b, .int .i64 s.c, .int .i64 s.u, .int .i64 s.v, .int .i64 s.x], .int .i64 (n : Int), .pointer (some ⟨w.heap.size, 0, none⟩), undef, .pointer (some ⟨w.heap.size + 1, 0, none⟩), v5, v6, v7, v8, v9, v10, v11, v12, v13, v14, undef, undef, undef, undef], defers := [] } ∧ (listed.getD 0 false = true → v6 = .pointer (some ⟨w.heap.size, 1, none⟩)) ∧ (listed.getD 1 false = true → v7 = .int .i64 s.a) ∧ (listed.getD 2 false = true → v8 = .pointer (some ⟨w.heap.size, 4, none⟩)) ∧ (listed.getD 3 false = true → v9 = .agg #[.int .i64 s.u, .int .i64 s.v, .int .i64 s.x]) ∧ (listed.getD 4 false = true → v10 = .int .i64 (rowN s.u s.v s.x)) ∧ (listed.getD 5 false = true → v11 = .int .i64 (n : Int)) ∧ (listed.getD 6 false = true → v12 = .int .i64 (rowN mu mv mx)) ∧ (listed.getD 7 false = true → v13 = .agg #[.int .i64 mu, .int .i64 mv, .int .i64 mx]) ∧ (listed.getD 8 false = true → v14 = .agg #[.int .i64 2, .int .i64 s.a, .int .i64 0, .int .i64 0, .int .i64 mu, .int .i64 mv, .int .i64 mx]) ∧ (listed.getD 9 false = true → (∃ G cs, v5 = .pointer (some ⟨G, 0, none⟩) ∧ W0.heap.size ≤ G ∧ Has wx G 63 cs ∧ cs.size = 7)) ∧ (listed.getD 10 false = true → (listed.getD 9 false = true ∧ ∃ G, v5 = .pointer (some ⟨G, 0, none⟩) ∧ W0.heap.size ≤ G ∧ Has wx G 63 #[.int .i64 2, .int .i64 s.a, .int .i64 0, .int .i64 0, .int .i64 mu, .int .i64 mv, .int .i64 mx])) ∧ Below W0.heap.size W0 wx) ?hs ?he _ _ _ _ ?st (by decide)
  case st =>
    refine ⟨by simp, undef, undef, undef, undef, undef, undef, undef, undef, undef, undef, rfl, ?_, ?_, ?_, ?_, ?_, ?_, ?_, ?_, ?_, ?_, ?_, (Below.refl _ _).drew⟩ <;> (intro e; exact absurd e (by decide))
  case hs =>
    rintro listed a wx ⟨hz, v5, v6, v7, v8, v9, v10, v11, v12, v13, v14, rfl, hII⟩ i hi
    obtain ⟨h0, o, ho, hd⟩ := mem_ready.1 hi
    have hin : i < 11 := by
      have := (Array.getElem?_eq_some_iff.1 ho).1
      simpa using this
    have hI := Lib.hid hII
    have hne := Lib.hid (fun k (hk : i ≠ k) => @listed_ne listed i k hk)
    have hB : Below W0.heap.size W0 wx := hII.2.2.2.2.2.2.2.2.2.2.2
    have h0f : listed.getD i false = false := by rw [Array.getD_eq_getD_getElem?, getD_false h0]; rfl
    have hx : Has wx w.heap.size 63 #[.int .i64 s.k, .int .i64 s.a, .int .i64 s.b, .int .i64 s.c, .int .i64 s.u, .int .i64 s.v, .int .i64 s.x] := h1.kept hB
    clear hII hi h0
    rcases (by omega : i = 0 ∨ i = 1 ∨ i = 2 ∨ i = 3 ∨ i = 4 ∨ i = 5 ∨ i = 6 ∨ i = 7 ∨ i = 8 ∨ i = 9 ∨ i = 10) with rfl | rfl | rfl | rfl | rfl | rfl | rfl | rfl | rfl | rfl | rfl
    · cases ho
      refine wpOp_step rfl (fun K hK => ?_)
      go_simp
      refine hK _ _ ⟨by simpa using hz, v5, .pointer (some ⟨w.heap.size, 1, none⟩), v7, v8, v9, v10, v11, v12, v13, v14, rfl, ?_⟩
      exact ⟨fun _ => rfl, fun e => hI.out.2.1 (hne.out 1 (by decide) e), fun e => hI.out.2.2.1 (hne.out 2 (by decide) e), fun e => hI.out.2.2.2.1 (hne.out 3 (by decide) e), fun e => hI.out.2.2.2.2.1 (hne.out 4 (by decide) e), fun e => hI.out.2.2.2.2.2.1 (hne.out 5 (by decide) e), fun e => hI.out.2.2.2.2.2.2.1 (hne.out 6 (by decide) e), fun e => hI.out.2.2.2.2.2.2.2.1 (hne.out 7 (by decide) e), fun e => hI.out.2.2.2.2.2.2.2.2.1 (hne.out 8 (by decide) e), fun e => hI.out.2.2.2.2.2.2.2.2.2.1 (hne.out 9 (by decide) e), fun e => (by obtain ⟨y0, G, y1, y2, y3⟩ := hI.out.2.2.2.2.2.2.2.2.2.2.1 (hne.out 10 (by decide) e); exact ⟨getD_set_true y0, G, y1, y2, y3⟩), hB⟩
    · cases ho
      have d0 := hd ⟨0, .data⟩ (by simp) rfl
      obtain rfl := hI.out.1 d0
      have hxc := hx.cell
      refine wpOp_step rfl (fun K hK => ?_)
      go_simp
      refine hK _ _ ⟨by simpa using hz, v5, .pointer (some ⟨w.heap.size, 1, none⟩), .int .i64 s.a, v8, v9, v10, v11, v12, v13, v14, rfl, ?_⟩
      exact ⟨fun e => hI.out.1 (hne.out 0 (by decide) e), fun _ => rfl, fun e => hI.out.2.2.1 (hne.out 2 (by decide) e), fun e => hI.out.2.2.2.1 (hne.out 3 (by decide) e), fun e => hI.out.2.2.2.2.1 (hne.out 4 (by decide) e), fun e => hI.out.2.2.2.2.2.1 (hne.out 5 (by decide) e), fun e => hI.out.2.2.2.2.2.2.1 (hne.out 6 (by decide) e), fun e => hI.out.2.2.2.2.2.2.2.1 (hne.out 7 (by decide) e), fun e => hI.out.2.2.2.2.2.2.2.2.1 (hne.out 8 (by decide) e), fun e => hI.out.2.2.2.2.2.2.2.2.2.1 (hne.out 9 (by decide) e), fun e => (by obtain ⟨y0, G, y1, y2, y3⟩ := hI.out.2.2.2.2.2.2.2.2.2.2.1 (hne.out 10 (by decide) e); exact ⟨getD_set_true y0, G, y1, y2, y3⟩), hB⟩
    · cases ho
      refine wpOp_step rfl (fun K hK => ?_)
      go_simp
      refine hK _ _ ⟨by simpa using hz, v5, v6, v7, .pointer (some ⟨w.heap.size, 4, none⟩), v9, v10, v11, v12, v13, v14, rfl, ?_⟩
      exact ⟨fun e => hI.out.1 (hne.out 0 (by decide) e), fun e => hI.out.2.1 (hne.out 1 (by decide) e), fun _ => rfl, fun e => hI.out.2.2.2.1 (hne.out 3 (by decide) e), fun e => hI.out.2.2.2.2.1 (hne.out 4 (by decide) e), fun e => hI.out.2.2.2.2.2.1 (hne.out 5 (by decide) e), fun e => hI.out.2.2.2.2.2.2.1 (hne.out 6 (by decide) e), fun e => hI.out.2.2.2.2.2.2.2.1 (hne.out 7 (by decide) e), fun e => hI.out.2.2.2.2.2.2.2.2.1 (hne.out 8 (by decide) e), fun e => hI.out.2.2.2.2.2.2.2.2.2.1 (hne.out 9 (by decide) e), fun e => (by obtain ⟨y0, G, y1, y2, y3⟩ := hI.out.2.2.2.2.2.2.2.2.2.2.1 (hne.out 10 (by decide) e); exact ⟨getD_set_true y0, G, y1, y2, y3⟩), hB⟩
    · cases ho
      have d2 := hd ⟨2, .data⟩ (by simp) rfl
      obtain rfl := hI.out.2.2.1 d2
      have hxc := hx.cell
      refine wpOp_step rfl (fun K hK => ?_)
      go_simp
      refine hK _ _ ⟨by simpa using hz, v5, v6, v7, .pointer (some ⟨w.heap.size, 4, none⟩), .agg #[.int .i64 s.u, .int .i64 s.v, .int .i64 s.x], v10, v11, v12, v13, v14, rfl, ?_⟩
      exact ⟨fun e => hI.out.1 (hne.out 0 (by decide) e), fun e => hI.out.2.1 (hne.out 1 (by decide) e), fun e => hI.out.2.2.1 (hne.out 2 (by decide) e), fun _ => rfl, fun e => hI.out.2.2.2.2.1 (hne.out 4 (by decide) e), fun e => hI.out.2.2.2.2.2.1 (hne.out 5 (by decide) e), fun e => hI.out.2.2.2.2.2.2.1 (hne.out 6 (by decide) e), fun e => hI.out.2.2.2.2.2.2.2.1 (hne.out 7 (by decide) e), fun e => hI.out.2.2.2.2.2.2.2.2.1 (hne.out 8 (by decide) e), fun e => hI.out.2.2.2.2.2.2.2.2.2.1 (hne.out 9 (by decide) e), fun e => (by obtain ⟨y0, G, y1, y2, y3⟩ := hI.out.2.2.2.2.2.2.2.2.2.2.1 (hne.out 10 (by decide) e); exact ⟨getD_set_true y0, G, y1, y2, y3⟩), hB⟩
    · cases ho
      have d3 := hd ⟨3, .data⟩ (by simp) rfl
      obtain rfl := hI.out.2.2.2.1 d3
      refine wpOp_step rfl (fun K hK => ?_)
      go_simp
      go_at_call 102
      refine (rowOf_any _ _ _ _ q1 q2 q3).mono ?_
      rintro e w3 ⟨rfl, hb3⟩
      refine hK _ _ ⟨by simpa using hz, v5, v6, v7, v8, .agg #[.int .i64 s.u, .int .i64 s.v, .int .i64 s.x], .int .i64 (rowN s.u s.v s.x), v11, v12, v13, v14, rfl, ?_⟩
      exact ⟨fun e => hI.out.1 (hne.out 0 (by decide) e), fun e => hI.out.2.1 (hne.out 1 (by decide) e), fun e => hI.out.2.2.1 (hne.out 2 (by decide) e), fun e => hI.out.2.2.2.1 (hne.out 3 (by decide) e), fun _ => rfl, fun e => hI.out.2.2.2.2.2.1 (hne.out 5 (by decide) e), fun e => hI.out.2.2.2.2.2.2.1 (hne.out 6 (by decide) e), fun e => hI.out.2.2.2.2.2.2.2.1 (hne.out 7 (by decide) e), fun e => hI.out.2.2.2.2.2.2.2.2.1 (hne.out 8 (by decide) e), fun e => (by obtain ⟨G, cs, y1, y2, y3, y4⟩ := hI.out.2.2.2.2.2.2.2.2.2.1 (hne.out 9 (by decide) e); exact ⟨G, cs, y1, y2, (Kp6.below hb3) _ _ _ y3, y4⟩), fun e => (by obtain ⟨y0, G, y1, y2, y3⟩ := hI.out.2.2.2.2.2.2.2.2.2.2.1 (hne.out 10 (by decide) e); exact ⟨getD_set_true y0, G, y1, y2, (Kp6.below hb3) _ _ _ y3⟩), hB.trans (hb3.mono hB.size)⟩
    · cases ho
      refine wpOp_step rfl (fun K hK => ?_)
      go_simp
      refine hK _ _ ⟨by simpa using hz, v5, v6, v7, v8, v9, v10, .int .i64 (n : Int), v12, v13, v14, rfl, ?_⟩
      exact ⟨fun e => hI.out.1 (hne.out 0 (by decide) e), fun e => hI.out.2.1 (hne.out 1 (by decide) e), fun e => hI.out.2.2.1 (hne.out 2 (by decide) e), fun e => hI.out.2.2.2.1 (hne.out 3 (by decide) e), fun e => hI.out.2.2.2.2.1 (hne.out 4 (by decide) e), fun _ => rfl, fun e => hI.out.2.2.2.2.2.2.1 (hne.out 6 (by decide) e), fun e => hI.out.2.2.2.2.2.2.2.1 (hne.out 7 (by decide) e), fun e => hI.out.2.2.2.2.2.2.2.2.1 (hne.out 8 (by decide) e), fun e => hI.out.2.2.2.2.2.2.2.2.2.1 (hne.out 9 (by decide) e), fun e => (by obtain ⟨y0, G, y1, y2, y3⟩ := hI.out.2.2.2.2.2.2.2.2.2.2.1 (hne.out 10 (by decide) e); exact ⟨getD_set_true y0, G, y1, y2, y3⟩), hB⟩
    · cases ho
      have d4 := hd ⟨4, .data⟩ (by simp) rfl
      have d5 := hd ⟨5, .data⟩ (by simp) rfl
      obtain rfl := hI.out.2.2.2.2.1 d4
      obtain rfl := hI.out.2.2.2.2.2.1 d5
      refine wpOp_step rfl (fun K hK => ?_)
      go_simp
      go_at_call 122
      refine (cT.out _).mono ?_
      rintro e w3 ⟨rfl, hbe⟩
      obtain rfl := hbe
      refine hK _ _ ⟨by simpa using hz, v5, v6, v7, v8, v9, .int .i64 (rowN s.u s.v s.x), .int .i64 (n : Int), .int .i64 (rowN mu mv mx), v13, v14, rfl, ?_⟩
      exact ⟨fun e => hI.out.1 (hne.out 0 (by decide) e), fun e => hI.out.2.1 (hne.out 1 (by decide) e), fun e => hI.out.2.2.1 (hne.out 2 (by decide) e), fun e => hI.out.2.2.2.1 (hne.out 3 (by decide) e), fun e => hI.out.2.2.2.2.1 (hne.out 4 (by decide) e), fun e => hI.out.2.2.2.2.2.1 (hne.out 5 (by decide) e), fun _ => rfl, fun e => hI.out.2.2.2.2.2.2.2.1 (hne.out 7 (by decide) e), fun e => hI.out.2.2.2.2.2.2.2.2.1 (hne.out 8 (by decide) e), fun e => hI.out.2.2.2.2.2.2.2.2.2.1 (hne.out 9 (by decide) e), fun e => (by obtain ⟨y0, G, y1, y2, y3⟩ := hI.out.2.2.2.2.2.2.2.2.2.2.1 (hne.out 10 (by decide) e); exact ⟨getD_set_true y0, G, y1, y2, y3⟩), hB⟩
    · cases ho
      have d6 := hd ⟨6, .data⟩ (by simp) rfl
      obtain rfl := hI.out.2.2.2.2.2.2.1 d6
      refine wpOp_step rfl (fun K hK => ?_)
      go_simp
      go_at_call 103
      refine (cM.out _).mono ?_
      rintro e w3 ⟨rfl, hb3⟩
      refine hK _ _ ⟨by simpa using hz, v5, v6, v7, v8, v9, v10, v11, .int .i64 (rowN mu mv mx), .agg #[.int .i64 mu, .int .i64 mv, .int .i64 mx], v14, rfl, ?_⟩
      exact ⟨fun e => hI.out.1 (hne.out 0 (by decide) e), fun e => hI.out.2.1 (hne.out 1 (by decide) e), fun e => hI.out.2.2.1 (hne.out 2 (by decide) e), fun e => hI.out.2.2.2.1 (hne.out 3 (by decide) e), fun e => hI.out.2.2.2.2.1 (hne.out 4 (by decide) e), fun e => hI.out.2.2.2.2.2.1 (hne.out 5 (by decide) e), fun e => hI.out.2.2.2.2.2.2.1 (hne.out 6 (by decide) e), fun _ => rfl, fun e => hI.out.2.2.2.2.2.2.2.2.1 (hne.out 8 (by decide) e), fun e => (by obtain ⟨G, cs, y1, y2, y3, y4⟩ := hI.out.2.2.2.2.2.2.2.2.2.1 (hne.out 9 (by decide) e); exact ⟨G, cs, y1, y2, (Kp6.below hb3) _ _ _ y3, y4⟩), fun e => (by obtain ⟨y0, G, y1, y2, y3⟩ := hI.out.2.2.2.2.2.2.2.2.2.2.1 (hne.out 10 (by decide) e); exact ⟨getD_set_true y0, G, y1, y2, (Kp6.below hb3) _ _ _ y3⟩), hB.trans (hb3.mono hB.size)⟩
    · cases ho
      have d1 := hd ⟨1, .data⟩ (by simp) rfl
      have d7 := hd ⟨7, .data⟩ (by simp) rfl
      obtain rfl := hI.out.2.1 d1
      obtain rfl := hI.out.2.2.2.2.2.2.2.1 d7
      refine wpOp_step rfl (fun K hK => ?_)
      go_simp
      refine hK _ _ ⟨by simpa using hz, v5, v6, .int .i64 s.a, v8, v9, v10, v11, v12, .agg #[.int .i64 mu, .int .i64 mv, .int .i64 mx], .agg #[.int .i64 2, .int .i64 s.a, .int .i64 0, .int .i64 0, .int .i64 mu, .int .i64 mv, .int .i64 mx], rfl, ?_⟩
      exact ⟨fun e => hI.out.1 (hne.out 0 (by decide) e), fun e => hI.out.2.1 (hne.out 1 (by decide) e), fun e => hI.out.2.2.1 (hne.out 2 (by decide) e), fun e => hI.out.2.2.2.1 (hne.out 3 (by decide) e), fun e => hI.out.2.2.2.2.1 (hne.out 4 (by decide) e), fun e => hI.out.2.2.2.2.2.1 (hne.out 5 (by decide) e), fun e => hI.out.2.2.2.2.2.2.1 (hne.out 6 (by decide) e), fun e => hI.out.2.2.2.2.2.2.2.1 (hne.out 7 (by decide) e), fun _ => rfl, fun e => hI.out.2.2.2.2.2.2.2.2.2.1 (hne.out 9 (by decide) e), fun e => (by obtain ⟨y0, G, y1, y2, y3⟩ := hI.out.2.2.2.2.2.2.2.2.2.2.1 (hne.out 10 (by decide) e); exact ⟨getD_set_true y0, G, y1, y2, y3⟩), hB⟩
    · cases ho
      refine wpOp_step rfl (fun K hK => ?_)
      go_simp
      refine hK _ _ ⟨by simpa using hz, .pointer (some ⟨wx.heap.size, 0, none⟩), v6, v7, v8, v9, v10, v11, v12, v13, v14, rfl, ?_⟩
      exact ⟨fun e => hI.out.1 (hne.out 0 (by decide) e), fun e => hI.out.2.1 (hne.out 1 (by decide) e), fun e => hI.out.2.2.1 (hne.out 2 (by decide) e), fun e => hI.out.2.2.2.1 (hne.out 3 (by decide) e), fun e => hI.out.2.2.2.2.1 (hne.out 4 (by decide) e), fun e => hI.out.2.2.2.2.2.1 (hne.out 5 (by decide) e), fun e => hI.out.2.2.2.2.2.2.1 (hne.out 6 (by decide) e), fun e => hI.out.2.2.2.2.2.2.2.1 (hne.out 7 (by decide) e), fun e => hI.out.2.2.2.2.2.2.2.2.1 (hne.out 8 (by decide) e), fun _ => ⟨_, _, rfl, hB.size, Has.new _ _ _, rfl⟩, fun e => absurd (hI.out.2.2.2.2.2.2.2.2.2.2.1 (hne.out 10 (by decide) e)).1 (by rw [h0f]; decide), hB.alloc hB.size _⟩
    · cases ho
      have d9 := hd ⟨9, .data⟩ (by simp) rfl
      have d8 := hd ⟨8, .data⟩ (by simp) rfl
      obtain ⟨G, cs, rfl, hG0, hG, hcs⟩ := hI.out.2.2.2.2.2.2.2.2.2.1 d9
      obtain rfl := hI.out.2.2.2.2.2.2.2.2.1 d8
      obtain ⟨x0, x1, x2, x3, x4, x5, x6, rfl⟩ : ∃ x0 x1 x2 x3 x4 x5 x6, cs = #[x0, x1, x2, x3, x4, x5, x6] := seven hcs
      have hgc := hG.cell
      have hgf := hG.frozen
      have hp := Lib.hid (((((((hG.put 0 (.int .i64 2)).put 1 (.int .i64 s.a)).put 2 (.int .i64 0)).put 3 (.int .i64 0)).put 4 (.int .i64 mu)).put 5 (.int .i64 mv)).put 6 (.int .i64 mx))
      have hb7 := Lib.hid (((((((hB.setCell (p := ⟨G, 0, none⟩) hG0 (.int .i64 2)).setCell (p := ⟨G, 1, none⟩) hG0 (.int .i64 s.a)).setCell (p := ⟨G, 2, none⟩) hG0 (.int .i64 0)).setCell (p := ⟨G, 3, none⟩) hG0 (.int .i64 0)).setCell (p := ⟨G, 4, none⟩) hG0 (.int .i64 mu)).setCell (p := ⟨G, 5, none⟩) hG0 (.int .i64 mv)).setCell (p := ⟨G, 6, none⟩) hG0 (.int .i64 mx))
      refine wpOp_step rfl (fun K hK => ?_)
      go_simp
      refine hK _ _ ⟨by simpa using hz, .pointer (some ⟨G, 0, none⟩), v6, v7, v8, v9, v10, v11, v12, v13, .agg #[.int .i64 2, .int .i64 s.a, .int .i64 0, .int .i64 0, .int .i64 mu, .int .i64 mv, .int .i64 mx], rfl, ?_⟩
      exact ⟨fun e => hI.out.1 (hne.out 0 (by decide) e), fun e => hI.out.2.1 (hne.out 1 (by decide) e), fun e => hI.out.2.2.1 (hne.out 2 (by decide) e), fun e => hI.out.2.2.2.1 (hne.out 3 (by decide) e), fun e => hI.out.2.2.2.2.1 (hne.out 4 (by decide) e), fun e => hI.out.2.2.2.2.2.1 (hne.out 5 (by decide) e), fun e => hI.out.2.2.2.2.2.2.1 (hne.out 6 (by decide) e), fun e => hI.out.2.2.2.2.2.2.2.1 (hne.out 7 (by decide) e), fun e => hI.out.2.2.2.2.2.2.2.2.1 (hne.out 8 (by decide) e), fun e => ⟨G, _, rfl, hG0, hp.out, by simp⟩, fun _ => ⟨getD_set_true d9, G, rfl, hG0, by simpa using hp.out⟩, hb7.out⟩
  case he =>
    rintro listed a wx ⟨hz, v5, v6, v7, v8, v9, v10, v11, v12, v13, v14, rfl, hI⟩ hr
    have hall := ready_done hz (by kernel_rfl) hr
    obtain ⟨_, G, rfl, hG0, hG⟩ := hI.2.2.2.2.2.2.2.2.2.2.1 (hall 10 (by decide))
    have hB7 : Below W0.heap.size W0 wx := hI.2.2.2.2.2.2.2.2.2.2.2
    clear hI hall hr hz
    have hs1 := Lib.hid (h1.kept hB7)
    have hs3 := Lib.hid (h3.kept hB7)
    have hBf := Lib.hid (hB.trans (hB7.mono (by have := hzz.out; omega)))
    have hne : w.heap.size + 1 ≠ G := by have := hzz.out; omega
    have e1 := hs1.out.cell
    have hG' := Lib.hid hG
    clear hG hB7 h1 h3 hB
    go_wp2_with fail
    refine (cIW.out _).mono ?_
    rw [hWg.out]
    rintro e w4 ⟨rfl, hb4⟩
    have hs4 := Lib.hid (hs3.out.kept hb4)
    have hG4 := Lib.hid (hG'.out.kept hb4)
    have hB4 := Lib.hid (hBf.out.trans (hb4.mono hBf.out.size))
    clear e1 hb4
    have g4 := hG4.out.cell
    have f4 := hG4.out.frozen
    have r4 := hs4.out.cell
    have rf4 := hs4.out.frozen
    have hwG : w.heap.size ≤ G := by have := hzz.out; omega
    rcases hk with hk | hk
    · have hd : decide (s.k = 5) = false := by simp [hk]
      have hk2 : mk = 2 := by rw [ek, if_neg (by omega)]
      rw [hd]
      clear hd hk
      go_wp2_with fail
      refine bodyPost_ret (v := .agg #[.int .i64 2, .int .i64 s.a, .int .i64 0, .int .i64 0, .int .i64 mu, .int .i64 mv, .int .i64 mx]) (by simp [results, Try.results112, go_sem, r4]) rfl ⟨by rw [hk2], ?_⟩
      exact ((((((hB4.out.setCell (p := ⟨w.heap.size + 1, 0, none⟩) (by simp) _).setCell (p := ⟨w.heap.size + 1, 1, none⟩) (by simp) _).setCell (p := ⟨w.heap.size + 1, 2, none⟩) (by simp) _).setCell (p := ⟨w.heap.size + 1, 3, none⟩) (by simp) _).setCell (p := ⟨w.heap.size + 1, 4, none⟩) (by simp) _).setCell (p := ⟨w.heap.size + 1, 5, none⟩) (by simp) _).setCell (p := ⟨w.heap.size + 1, 6, none⟩) (by simp) _
    · have hd : decide (s.k = 5) = true := by simp [hk]
      have hk2 : mk = 4 := by rw [ek, if_pos hk]
      rw [hd]
      clear hd hk
      go_wp2_with fail
      refine bodyPost_ret (v := .agg #[.int .i64 4, .int .i64 s.a, .int .i64 0, .int .i64 0, .int .i64 mu, .int .i64 mv, .int .i64 mx]) (by simp [results, Try.results112, go_sem, r4]) rfl ⟨by rw [hk2], ?_⟩
      exact (((((((hB4.out.setCell (p := ⟨G, 0, none⟩) hwG _).setCell (p := ⟨w.heap.size + 1, 0, none⟩) (by simp) _).setCell (p := ⟨w.heap.size + 1, 1, none⟩) (by simp) _).setCell (p := ⟨w.heap.size + 1, 2, none⟩) (by simp) _).setCell (p := ⟨w.heap.size + 1, 3, none⟩) (by simp) _).setCell (p := ⟨w.heap.size + 1, 4, none⟩) (by simp) _).setCell (p := ⟨w.heap.size + 1, 5, none⟩) (by simp) _).setCell (p := ⟨w.heap.size + 1, 6, none⟩) (by simp) _
end Go.Proofs.Ytkggejmamhakaaa
