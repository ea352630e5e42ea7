/- Slices: the program's SliceOf and LiveAt. -/
import Derived.Test.YtkibkmheomlafaaH5
import Derived.BigQuiet
namespace Go.Proofs.Ytkibkmheomlafaa
set_option maxRecDepth 100000
set_option linter.unusedVariables false
open Go.RowKit

set_option maxHeartbeats 4000000 in
theorem SliceOf_any (A : Option Addr) (n c : Nat) (ps : List St) (vars : Int) (w : World) (h : Lst w w.heap.size A n ps) (hn : n ≤ c) (hc : c ≤ maxLen) :
    Calls Try.prog 13 #[.slice A n c, .int .i64 vars] w (Sld w (slTo ps vars) (byTo ps vars) (okS ps vars)) := by
  have cM := Lib.hid (markedTo_any A n c ps vars 0 w h hn hc)
  have hl := h.1
  have hLs := Lib.hid h
  unfold Mrd at cM
  rw [ok_at0] at cM
  obtain ⟨i0, hi0, hz0, hz1', hz2'⟩ := info_parts info_stmt
  clear h hc
  cases hk : okS ps vars
  · have hK := Lib.hid hk
    have hR := Lib.hid (show slTo ps vars = [] by unfold slTo; rw [hk]; rfl)
    have hRb := Lib.hid (show byTo ps vars = 0 by unfold byTo; rw [hk]; rfl)
    clear hk
    go_enter Try.func13, Try.ntmps13
    go_wp2_with fail
    refine cM.out.mono ?_
    rw [hK.out]
    rintro e w1 ⟨L, m, f, rfl, hb, _⟩
    have hB1 := Lib.hid (hb.alloc hb.size (.cells #[.int .i64 L, .int .i64 m, .int .i64 f] 60))
    unfold mkA
    clear hb
    go_wp2_with fail
    go_ret3
    exact ⟨_, by rw [hRb.out]; rfl, by rw [hR.out]; exact Own.nil _ _, hB1.out⟩
  · have hK := Lib.hid hk
    have hR := Lib.hid (show slTo ps vars = sl ps vars by unfold slTo; rw [hk]; rfl)
    have hRb := Lib.hid (show byTo ps vars = byL ps vars by unfold byTo; rw [hk]; rfl)
    obtain ⟨hp, hV⟩ := okS_parts hk
    have h10 : n ≤ 10 := by have := (plain_iff.1 hp).1; omega
    have hlen := Lib.hid (show (sl ps vars).length ≤ 10 by have := sl_len ps vars; omega)
    clear hk
    go_enter Try.func13, Try.ntmps13
    go_wp2_with fail
    refine cM.out.mono ?_
    rw [hK.out]
    rintro e w1 ⟨L, m, f, rfl, hb, hM⟩
    have hMk := Lib.hid (hM rfl).2.2
    have hfb := Lib.hid (show f = byL ps vars from (hM rfl).2.1)
    have hG0 := Lib.hid (Has.new w1 60 #[.int .i64 L, .int .i64 m, .int .i64 f])
    have hB1 := Lib.hid (hb.alloc hb.size (.cells #[.int .i64 L, .int .i64 m, .int .i64 f] 60))
    unfold mkA
    have hgw : w.heap.size ≤ w1.heap.size := hb.size
    clear hb hM
    go_wp2_with fail
    generalize w1.alloc (.cells #[.int .i64 L, .int .i64 m, .int .i64 f] 60) = W1 at hG0 hB1 ⊢
    generalize w1.heap.size = g at hG0 hgw ⊢
    go_loopg [9, 22] n (fun gn o v wr => ∃ (k : Nat) (qs : List St), k ≤ n ∧ gn = n - k ∧ v = .int .i64 k ∧ Own wr w.heap.size o qs ∧ qs ++ sl (ps.drop k) vars = sl ps vars ∧ Has wr g 60 #[.int .i64 L, .int .i64 m, .int .i64 f] ∧ Below w.heap.size w wr ∧ ∀ b, o.ownBlock = some b → b ≠ g)
    case atStart => exact ⟨0, [], Nat.zero_le _, rfl, rfl, Own.nil _ _, rfl, hG0.out, hB1.out, fun b e => by cases e⟩
    case round =>
      obtain ⟨k, qs, hk, hgn, rfl, hO, hds, hG, hB, hne⟩ := hrel
      have hgk : gk = n - k := hgn
      obtain ⟨Ao, co, hvo, hco, hmo⟩ := hO.form
      subst hvo
      have hdl : qs.length ≤ 10 := by
        have h1 := hlen.out
        rw [← hds, List.length_append] at h1
        omega
      have hDs := Lib.hid hds
      have hNe := Lib.hid hne
      clear hgn hds hne
      by_cases hlt : k < n
      · obtain ⟨gs, off, s, rfl, hgs, hs, hat⟩ := (hLs.out.below hB).at_ hlt
        obtain ⟨c0, c1, c2, c3, c4, c5, c6⟩ := hat.open_
        have hst := Lib.hid (sl_step hs vars)
        have hna := Lib.hid (neAt_of hs vars)
        have cI := Lib.hid (fun wx => isMarked_any L m f k wx (by omega))
        unfold mkA at cI
        rw [hMk.out.tell k] at cI
        have hSc := Lib.hid (Has.new wr 65 #[.int .i64 s.k, .int .i64 s.a, .int .i64 s.b, .int .i64 s.c, .int .i64 s.u, .int .i64 s.v, .int .i64 s.x])
        have hO2 := Lib.hid (hO.alloc (.cells #[.int .i64 s.k, .int .i64 s.a, .int .i64 s.b, .int .i64 s.c, .int .i64 s.u, .int .i64 s.v, .int .i64 s.x] 65))
        have hG2 := Lib.hid (hG.alloc (.cells #[.int .i64 s.k, .int .i64 s.a, .int .i64 s.b, .int .i64 s.c, .int .i64 s.u, .int .i64 s.v, .int .i64 s.x] 65))
        have hB2 := Lib.hid (hB.alloc hB.size (.cells #[.int .i64 s.k, .int .i64 s.a, .int .i64 s.b, .int .i64 s.c, .int .i64 s.u, .int .i64 s.v, .int .i64 s.x] 65))
        have cg := hG2.out.cell
        have hk0 : (0 : Int) ≤ (k : Int) := by omega
        have hk1 : (k : Int) < (n : Int) := by omega
        clear hs hG hO hB hat
        go_wp2_with fail
        generalize wr.alloc (.cells #[.int .i64 s.k, .int .i64 s.a, .int .i64 s.b, .int .i64 s.c, .int .i64 s.u, .int .i64 s.v, .int .i64 s.x] 65) = wq at hSc hO2 hG2 hB2 cg ⊢
        generalize wr.heap.size = gc at hSc ⊢
        refine (cI.out _).mono ?_
        rintro e w3 ⟨rfl, hb3⟩
        have hz3 := hb3.size
        have hO3 := Lib.hid (hO2.out.below hb3)
        have hG3 := Lib.hid (hG2.out.kept hb3)
        have hB3 := Lib.hid (hB2.out.trans (hb3.mono hB2.out.size))
        have hS3 := Lib.hid (hSc.out.kept hb3)
        clear hb3 cg c0 c1 c2 c3 c4 c5 c6 hSc hO2 hG2 hB2
        cases hq : neAt ps vars k
        · have hX := Lib.hid (show qs ++ sl (ps.drop (k + 1)) vars = sl ps vars by
            have h1 := hDs.out
            rw [hst.out, ← hna.out, hq, if_neg (by decide)] at h1
            exact h1)
          clear hq
          go_wp2_with fail
          go_roundg (n - (k + 1))
          case measure => omega
          case rel => exact ⟨k + 1, qs, by omega, rfl, by go_num, hO3.out, hX.out, hG3.out, hB3.out, hNe.out⟩
        · have hX := Lib.hid (show (qs ++ [s]) ++ sl (ps.drop (k + 1)) vars = sl ps vars by
            have h1 := hDs.out
            rw [hst.out, ← hna.out, hq, if_pos rfl] at h1
            rw [List.append_assoc]
            exact h1)
          have hO4 := Lib.hid (hO3.out.alloc (.cells #[.int .i64 s.k, .int .i64 s.a, .int .i64 s.b, .int .i64 s.c, .int .i64 s.u, .int .i64 s.v, .int .i64 s.x] 65))
          have hG4 := Lib.hid (hG3.out.alloc (.cells #[.int .i64 s.k, .int .i64 s.a, .int .i64 s.b, .int .i64 s.c, .int .i64 s.u, .int .i64 s.v, .int .i64 s.x] 65))
          have hnw := Lib.hid (new_stmt w3 s)
          have hB4 := Lib.hid (hB3.out.alloc hB3.out.size (.cells #[.int .i64 s.k, .int .i64 s.a, .int .i64 s.b, .int .i64 s.c, .int .i64 s.u, .int .i64 s.v, .int .i64 s.x] 65))
          have hgl := hG3.out.lt
          have cs := hS3.out.cell
          clear hq hO3 hB3 hG3
          go_wp2_with (at_builtin; refine wpList_append_own_at _ rfl (.tmp 30) (.tmp 32) 23 rfl w.heap.size 65 i0 _ 7 56 Try.underlying23 hi0 hz0 hz1' hz2' rfl (by decide) (.slice Ao qs.length co) qs.length (flat qs) rfl (by exact hO4.out) ⟨w3.heap.size, 0, none⟩ 1 1 (flat [s]) (by first | rfl | simp [Act.eval]) rfl (by exact hnw.out) (flat_one _) (by unfold maxLen; omega) (by omega) (by exact hB4.out.size) ?_; intro v4 w4 hown4 hgrow4 _ hat4)
          have hF := Lib.hid (hO4.out.append_ (news := [s]) hown4 hgrow4 hB4.out (by exact hB4.out.size))
          have hG5 := Lib.hid ((hgrow4.block g (by simp; omega) (fun e => hNe.out g e.symm rfl)).trans hG4.out)
          have hne5 := Lib.hid (show ∀ b, v4.ownBlock = some b → b ≠ g from fun b e => by
            rcases hat4 with h | h
            · exact hNe.out b (h.symm.trans e)
            · rw [h] at e
              injection e with e
              simp at e
              omega)
          obtain ⟨A5, c5, hv5, _, _⟩ := hF.out.1.form
          subst hv5
          clear hown4 hgrow4 hat4 cs
          go_wp2_with fail
          go_roundg (n - (k + 1))
          case measure => omega
          case rel => exact ⟨k + 1, qs ++ [s], by omega, rfl, by go_num, hF.out.1, hX.out, hG5.out, hF.out.2, hne5.out⟩
      · obtain rfl : k = n := by omega
        have hE := Lib.hid (show qs = sl ps vars by
          have h1 := hDs.out
          rw [List.drop_eq_nil_of_le (by omega)] at h1
          simpa [sl] using h1)
        have hF := Lib.hid (fun w' (hb : Below wr.heap.size wr w') => show Sld w (slTo ps vars) (byTo ps vars) true (.returned (.tuple #[.slice Ao qs.length co, .int .i64 f, .bool true])) w' from ⟨_, by rw [hRb.out, ← hfb.out], by rw [hR.out, ← hE.out]; exact hO.below hb, hB.trans (hb.mono hB.size)⟩)
        have cg := hG.cell
        clear hO hB hG
        go_wp2_with fail
        go_quiet (fail)
        go_wp2_with fail
        go_ret3
        exact hF.out _ (below_drewN (Below.refl _ _) _)
theorem LiveAt_any (A : Option Addr) (n c : Nat) (ps : List St) (vars x : Int) (w : World) (h : Lst w w.heap.size A n ps) (hn : n ≤ c) (hc : c ≤ maxLen) :
    Calls Try.prog 21 #[.slice A n c, .int .i64 vars, .int .i64 x] w fun e w' => e = .returned (.int .i64 (liveTo ps vars x)) ∧ Below w.heap.size w w' := by
  have cM := Lib.hid (markedTo_any A n c ps vars x w h hn hc)
  unfold Mrd at cM
  clear h hc
  cases hk : (okS ps vars && inB x 0 ps.length)
  · have hK := Lib.hid hk
    have hR := Lib.hid (show liveTo ps vars x = -1 by
      unfold liveTo
      rw [if_neg]
      rintro ⟨h1, h2⟩
      rw [h1, h2] at hk
      cases hk)
    clear hk
    go_enter Try.func21, Try.ntmps21
    go_wp2_with fail
    refine cM.out.mono ?_
    rw [hK.out]
    rintro e w1 ⟨L, m, f, rfl, hb, _⟩
    have hB1 := Lib.hid (hb.alloc hb.size (.cells #[.int .i64 L, .int .i64 m, .int .i64 f] 60))
    unfold mkA
    clear hb
    go_wp2_with fail
    go_ret
    exact ⟨ret_int hR.out, hB1.out⟩
  · have hK := Lib.hid hk
    have hR := Lib.hid (show liveTo ps vars x = needL (ps.drop x.toNat) vars by
      unfold liveTo
      rw [Bool.and_eq_true] at hk
      rw [if_pos hk])
    clear hk
    go_enter Try.func21, Try.ntmps21
    go_wp2_with fail
    refine cM.out.mono ?_
    rw [hK.out]
    rintro e w1 ⟨L, m, f, rfl, hb, hM⟩
    have hLb := Lib.hid (hM rfl).1
    have hB1 := Lib.hid (hb.alloc hb.size (.cells #[.int .i64 L, .int .i64 m, .int .i64 f] 60))
    unfold mkA
    clear hb hM
    go_wp2_with fail
    go_ret
    exact ⟨ret_int (hR.out.trans hLb.out.symm), hB1.out⟩
end Go.Proofs.Ytkibkmheomlafaa
