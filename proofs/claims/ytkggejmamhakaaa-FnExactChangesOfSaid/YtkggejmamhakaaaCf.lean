/- By what a change makes the total less: the program's factorOf. -/
import Derived.Test.YtkggejmamhakaaaCb
namespace Go.Proofs.Ytkggejmamhakaaa
set_option maxRecDepth 100000
set_option linter.unusedVariables false
open Go.RowKit

/-- A statement's weights read as a list of numbers. -/
theorem wts_ils {w : World} {g : Nat} {s : St} (h : Has w g 63 #[.int .i64 s.k, .int .i64 s.a, .int .i64 s.b, .int .i64 s.c, .int .i64 s.u, .int .i64 s.v, .int .i64 s.x]) : Ils w w.heap.size (some ⟨g, 4, none⟩) 3 [s.u, s.v, s.x] := by
  have hc := h.cell
  refine ⟨rfl, fun _ => ⟨g, 4, rfl, h.lt, fun k d hd => ?_⟩⟩
  have hk : k < 3 := (List.getElem?_eq_some_iff.1 hd).1
  obtain rfl | rfl | rfl : k = 0 ∨ k = 1 ∨ k = 2 := by omega
  · obtain rfl : s.u = d := by simpa using hd
    exact hc 4
  · obtain rfl : s.v = d := by simpa using hd
    exact hc 5
  · obtain rfl : s.x = d := by simpa using hd
    exact hc 6
set_option maxHeartbeats 1000000 in
theorem factorOf_any (s : St) (c : Int) (w : World) (hs : (0 ≤ s.u ∧ s.u ≤ 9) ∧ (0 ≤ s.v ∧ s.v ≤ 9) ∧ (0 ≤ s.x ∧ s.x ≤ 9)) :
    Calls Try.prog 68 #[.int .i64 c, .agg #[.int .i64 s.k, .int .i64 s.a, .int .i64 s.b, .int .i64 s.c, .int .i64 s.u, .int .i64 s.v, .int .i64 s.x]] w fun e w' => e = .returned (.int .i64 (facBy c s)) ∧ Below w.heap.size w w' := by
  have h1 := Has.new w 63 #[.int .i64 s.k, .int .i64 s.a, .int .i64 s.b, .int .i64 s.c, .int .i64 s.u, .int .i64 s.v, .int .i64 s.x]
  have hB : Below w.heap.size w (w.alloc (.cells #[.int .i64 s.k, .int .i64 s.a, .int .i64 s.b, .int .i64 s.c, .int .i64 s.u, .int .i64 s.v, .int .i64 s.x] 63)) := (Below.refl _ _).alloc (Nat.le_refl _) _
  have cD := Lib.hid (fun wx => isDraw_any s wx)
  have hsum : isum [s.u, s.v, s.x] = s.u + s.v + s.x := by simp [isum]; omega
  have cT := Lib.hid (fun wx (hx : Has wx w.heap.size 63 #[.int .i64 s.k, .int .i64 s.a, .int .i64 s.b, .int .i64 s.c, .int .i64 s.u, .int .i64 s.v, .int .i64 s.x]) => tallyOf_any (some ⟨w.heap.size, 4, none⟩) 3 3 [s.u, s.v, s.x] wx (wts_ils hx) (by decide) (by simp; omega) (by rw [hsum]; omega))
  rw [hsum] at cT
  have hcom : gcdF [s.u, s.v, s.x] = com s := rfl
  rw [hcom] at cT
  go_enter Try.func68, Try.ntmps68
  go_wp2_with fail
  generalize w.alloc (.cells #[.int .i64 s.k, .int .i64 s.a, .int .i64 s.b, .int .i64 s.c, .int .i64 s.u, .int .i64 s.v, .int .i64 s.x] 63) = W0 at h1 hB ⊢
  refine (cT.out _ h1).mono ?_
  rintro e w1 ⟨rfl, hb1⟩
  have g1 := Lib.hid (h1.kept hb1)
  have hB1 := Lib.hid (hB.trans (hb1.mono hB.size))
  have hz1 := hb1.size
  clear hb1 hB
  have g2 := Lib.hid ((g1.out.alloc (.cells #[.int .i64 (s.u + s.v + s.x), .int .i64 (com s)] 68)))
  have hB2 := Lib.hid (hB1.out.alloc (Nat.le_trans (Nat.le_of_lt h1.lt) hz1) (.cells #[.int .i64 (s.u + s.v + s.x), .int .i64 (com s)] 68))
  have ht2 := Lib.hid (Has.new w1 68 #[.int .i64 (s.u + s.v + s.x), .int .i64 (com s)])
  clear h1
  have e2 := g2.out.cell
  have t2 := ht2.out.cell
  by_cases h3 : c = 3
  · have hR := Lib.hid (show facBy c s = com s from if_pos h3)
    subst h3
    go_wp2_with fail
    go_ret
    exact ⟨ret_int hR.out, hB2.out⟩
  · by_cases h2 : c = 2
    · have hR := Lib.hid (show facBy c s = if s.draws = true then s.u + s.v + s.x else 1 by unfold facBy; rw [if_neg h3]; simp [h2])
      subst h2
      go_wp2_with fail
      refine (cD.out _).mono ?_
      rintro e w3 ⟨rfl, hb3⟩
      have hB3 := Lib.hid (hB2.out.trans (hb3.mono hB2.out.size))
      have ht3 := Lib.hid (ht2.out.kept hb3)
      clear hb3 t2 e2
      have t3 := ht3.out.cell
      cases hd : s.draws
      · rw [hd] at hR
        go_wp2_with fail
        go_ret
        exact ⟨ret_int hR.out, hB3.out⟩
      · rw [hd] at hR
        go_wp2_with fail
        go_ret
        exact ⟨ret_int hR.out, hB3.out⟩
    · have hR := Lib.hid (show facBy c s = 1 by unfold facBy; rw [if_neg h3, if_neg (fun e => h2 e.1)])
      have g3 : (c == (3 : Int)) = false := by simpa using h3
      have g2' : (c == (2 : Int)) = false := by simpa using h2
      clear h3 h2
      go_wp2_with fail
      go_ret
      exact ⟨ret_int hR.out, hB2.out⟩
end Go.Proofs.Ytkggejmamhakaaa
