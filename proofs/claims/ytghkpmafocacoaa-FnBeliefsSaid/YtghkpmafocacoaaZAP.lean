/- Parts of the proof: KN. -/
import Derived.Test.YtghkpmafocacoaaZAM
import Derived.Test.YtghkpmafocacoaaZAO
namespace Go.Proofs.Ytghkpmafocacoaa
set_option maxRecDepth 100000
set_option linter.unusedVariables false
open Go.RowKit
theorem RowsF.chg {w w' : World} {base R : Nat} {v : Value} {Fs : List Fac} {vs : List Value} (h : RowsF w base v Fs vs) (hc : Chg w w' R) (hR : R < base) : RowsF w' base v Fs vs :=
  ⟨owns_chgD h.1 hc hR, fun i x hx => by
    obtain ⟨ds, h1, h2⟩ := h.2 i x hx
    exact ⟨ds, h1, owns_chgD h2 hc hR⟩⟩
/-- A drawn factor: its sizes and its variables. -/
def GdF (F : Fac) : Prop := F.vs.length ≤ 5 ∧ F.ns.length ≤ 82 ∧ ∃ L : Int, (0 ≤ L ∧ L ≤ 15) ∧ F.vs = over L
/-- How the draw of a list of factors ends. -/
def LsFo (w : World) (B R : Nat) (A : Option Addr) (n c p : Nat) (e : Ending) (w' : World) : Prop :=
  ∃ (v : Value) (Fs : List Fac) (vs : List Value) (p' : Nat), e = .returned v ∧ RowsF w' w.heap.size v Fs vs ∧ Fs.length ≤ 6 ∧ (∀ F ∈ Fs, GdF F) ∧ p' ≤ p + 1000 ∧ Rdr w' B R A n c p' ∧ Chg w w' R
theorem add_bd {Fs : List Fac} {F : Fac} (h : ∀ G ∈ Fs, GdF G) (h1 : F.vs.length ≤ 5) (h2 : F.ns.length ≤ 82) (h3 : ∃ L : Int, (0 ≤ L ∧ L ≤ 15) ∧ F.vs = over L) : ∀ G ∈ Fs ++ [F], GdF G := fun G hG => by
  rcases List.mem_append.1 hG with hG | hG
  · exact h G hG
  · rw [List.mem_singleton.1 hG]; exact ⟨h1, h2, h3⟩
set_option maxHeartbeats 1000000 in
theorem l8Factors_full (R : Nat) (A : Option Addr) (n c p B : Nat) (w : World) (h : Rdr w B R A n c p) (hp : p ≤ 500000) (hn : n ≤ 2000) (hB : B ≤ w.heap.size) :
    Calls Try.prog 136 #[.pointer (some ⟨R, 0, none⟩)] w (LsFo w B R A n c p) := by
  have hRl := h.lt
  have hr0 := Lib.hid (h.alloc hB (.cells #[] 56))
  have hC0 := Lib.hid ((Chg.refl w R).alloc (.cells #[] 56))
  have hR0 := Lib.hid (show RowsF (w.alloc (.cells #[] 56)) w.heap.size (.slice (some ⟨w.heap.size, 0, none⟩) 0 0) [] [] from
    ⟨⟨rfl, .inr ⟨w.heap.size, 0, #[], rfl, Nat.le_refl _, Has.new w _ _, Nat.le_refl _, Nat.zero_le _, rfl, rfl⟩⟩, fun i x hx => by simp at hx⟩)
  obtain ⟨i0, hi0, hi1, hi2, hi3⟩ := info_parts info_fac
  clear h
  go_enter Try.func136, Try.ntmps136
  go_wp2_with fail
  generalize w.alloc (.cells #[] 56) = W0 at hr0 hC0 hR0 ⊢
  refine (pick_any R A n c p B 6 _ hr0.out (by omega) hn (by decide)).mono ?_
  rintro e w1 ⟨x, rfl, hx0, hx6, hr1, hc1⟩
  obtain ⟨X, rfl⟩ : ∃ X : Nat, x = (X : Int) := ⟨x.toNat, by omega⟩
  have hX5 : X ≤ 5 := by omega
  have kr1 := Lib.hid hr1
  have kC1 := Lib.hid (hC0.out.trans hc1)
  have kR1 := Lib.hid (hR0.out.chg hc1 hRl)
  clear hr1 hc1 hx0 hx6
  go_wp2_with fail
  go_loopg [3, 4] X (fun gq l x wr => ∃ (k : Nat) (Fs : List Fac) (vs : List Value) (p' : Nat), gq = k ∧ x = .int .i64 k ∧ RowsF wr w.heap.size l Fs vs ∧ Fs.length + k ≤ 5 ∧ (∀ F ∈ Fs, GdF F) ∧ p' ≤ p + 1 + Fs.length * 100 ∧ Rdr wr B R A n c p' ∧ Chg w wr R)
  case atStart => exact ⟨X, [], [], _, rfl, rfl, kR1.out, by simpa using hX5, fun F hF => by simp at hF, by simp, kr1.out, kC1.out⟩
  case round =>
    obtain ⟨k, Fs, vs, p', hgn, rfl, hRw, hk, hbd, hp', hr, hC⟩ := hrel
    have hgk : gk = k := hgn
    obtain ⟨Al, cl, rfl, _, _⟩ := hRw.form
    have kR := Lib.hid hRw
    have kr := Lib.hid hr
    have kC := Lib.hid hC
    have hzw := hC.size
    have kbd := Lib.hid hbd
    obtain ⟨m, hm⟩ : ∃ m, Fs.length = m := ⟨_, rfl⟩
    have hmh := Lib.hid hm
    rw [hm] at hk hp' ⊢
    clear hgn hRw hr hC hbd hm
    by_cases hlt : 0 < k
    · have hk1 : (0 : Int) < (k : Int) := by omega
      have hN := Lib.hid (show Nums (wr.alloc (.cells #[.int .i64 1, .int .i64 2, .int .i64 4, .int .i64 8, .int .i64 3, .int .i64 5, .int .i64 6, .int .i64 9, .int .i64 10, .int .i64 12, .int .i64 3, .int .i64 6, .int .i64 12] 3)) wr.heap.size 13 (fun x => 0 ≤ x ∧ x ≤ 15) from Nums.of (Has.new wr 3 #[.int .i64 1, .int .i64 2, .int .i64 4, .int .i64 8, .int .i64 3, .int .i64 5, .int .i64 6, .int .i64 9, .int .i64 10, .int .i64 12, .int .i64 3, .int .i64 6, .int .i64 12]) (fun i hi => by
        obtain rfl | rfl | rfl | rfl | rfl | rfl | rfl | rfl | rfl | rfl | rfl | rfl | rfl : i = 0 ∨ i = 1 ∨ i = 2 ∨ i = 3 ∨ i = 4 ∨ i = 5 ∨ i = 6 ∨ i = 7 ∨ i = 8 ∨ i = 9 ∨ i = 10 ∨ i = 11 ∨ i = 12 := by omega
        all_goals exact ⟨_, rfl, by decide⟩))
      have hra := Lib.hid (kr.out.alloc (by omega) (.cells #[.int .i64 1, .int .i64 2, .int .i64 4, .int .i64 8, .int .i64 3, .int .i64 5, .int .i64 6, .int .i64 9, .int .i64 10, .int .i64 12, .int .i64 3, .int .i64 6, .int .i64 12] 3))
      have hCa := Lib.hid ((Chg.refl wr R).alloc (.cells #[.int .i64 1, .int .i64 2, .int .i64 4, .int .i64 8, .int .i64 3, .int .i64 5, .int .i64 6, .int .i64 9, .int .i64 10, .int .i64 12, .int .i64 3, .int .i64 6, .int .i64 12] 3))
      have hRlr : R < wr.heap.size := by omega
      go_wp2_with fail
      refine (num_any R A n c p' B wr.heap.size 13 _ (fun x => 0 ≤ x ∧ x ≤ 15) _ hra.out (by omega) hn (by omega) (by omega) (by simp) (by omega) hN.out).mono ?_
      rintro e w3 ⟨L, rfl, hL, hr3, hc3⟩
      have kr3 := Lib.hid hr3
      have hC3 := hCa.out.trans hc3
      have kC3 := Lib.hid (kC.out.trans hC3)
      have kR3 := Lib.hid (kR.out.chg hC3 hRl)
      have hz3 := kC3.out.size
      clear hr3 hc3 hC3 hN hra hCa
      go_wp2_with fail
      refine (l8Draw_full R A n c (p' + 1) B L w3 kr3.out (by omega) hn (by omega) hL).mono ?_
      rintro e w4 ⟨u1, u2, F, p4, rfl, hvo, hV, hl1, hl2, hl3, hp4, hr4, hc4⟩
      obtain ⟨U1, q1, rfl, _, _⟩ := hV.1.form
      obtain ⟨U2, q2, rfl, _, _⟩ := hV.2.1.form
      have hC4 := kC3.out.trans hc4
      have hR4 := kR3.out.chg hc4 hRl
      have hal : Below w4.heap.size w4 (w4.alloc (.cells #[.slice U1 F.vs.length q1, .slice U2 F.ns.length q2] 56)) := (Below.refl _ _).alloc (Nat.le_refl _) _
      have hR5 := Lib.hid (hR4.below hal)
      have hV5 := Lib.hid ((hV.le (show w.heap.size ≤ w3.heap.size from hz3)).below hal)
      have hr5 := Lib.hid (hr4.alloc (by have := hc4.size; omega) (.cells #[.slice U1 F.vs.length q1, .slice U2 F.ns.length q2] 56))
      have hC5 := Lib.hid (hC4.alloc (.cells #[.slice U1 F.vs.length q1, .slice U2 F.ns.length q2] 56))
      have hO5 := Lib.hid (show (w4.alloc (.cells #[.slice U1 F.vs.length q1, .slice U2 F.ns.length q2] 56)).ownsRow w.heap.size 56 2 (.slice Al m cl) m vs from by have h1 := hR5.out.1; rwa [hmh.out] at h1)
      have hnw := Lib.hid (World.news_of_block (Has.new w4 56 #[.slice U1 F.vs.length q1, .slice U2 F.ns.length q2]))
      have hsz5 := Lib.hid hC5.out.size
      have hm5 : m ≤ 5 := by omega
      have hvoh := Lib.hid hvo
      clear hV hr4 hc4 hC4 hR4 hal hvo
      go_wp2_with (at_builtin; refine wpList_append_lies _ rfl (.tmp 13) (.tmp 19) 50 rfl w.heap.size 56 i0 _ 2 48 Try.underlying50 hi0 hi1 hi2 hi3 rfl (by decide) (.slice Al m cl) m vs rfl (by exact hO5.out) ⟨w4.heap.size, 0, none⟩ 1 1 [.slice U1 F.vs.length q1, .slice U2 F.ns.length q2] rfl rfl (by exact hnw.out) (by simp [Value.oneCell']) (by omega) (by unfold maxLen; omega) (by omega) (by exact hsz5.out) (w4.heap.size + 1) (by simp) ?_; intro gr cr2 w6 hown6 hgrow6 hat6 hlt6)
      have hbk : ∀ b, (Value.slice Al m cl).ownBlock = some b → w.heap.size ≤ b := fun b hb => (World.ownsRow.lt hO5.out b hb).1
      have hR6 := Lib.hid (RowsF.append_ hR5.out hV5.out (by rw [hmh.out]; exact hown6) (by rw [hmh.out]; exact hgrow6))
      have hr6 := Lib.hid (hr5.out.grown hgrow6 (fun b hb => ⟨by have := hbk b hb; omega, by have := hbk b hb; omega⟩) (by have := hsz5.out; omega))
      have hC6 := Lib.hid (hC5.out.grown hgrow6 hbk)
      clear hown6 hgrow6 hat6 hbk
      go_wp2_with fail
      go_roundg (k - 1)
      case measure => omega
      case rel => exact ⟨k - 1, Fs ++ [F], _, p4, rfl, by go_num, by exact hR6.out, by rw [List.length_append, List.length_singleton, hmh.out]; omega, add_bd kbd.out (by omega) (by omega) ⟨L, hL, hvoh.out⟩, by rw [List.length_append, List.length_singleton, hmh.out]; omega, hr6.out, hC6.out⟩
    · obtain rfl : k = 0 := by omega
      have hm5 : m ≤ 5 := by omega
      go_wp2_with fail
      refine (pick_any R A n c p' B 64 _ kr.out (by omega) hn (by decide)).mono ?_
      rintro e w3 ⟨y, rfl, hy0, hy64, hr3, hc3⟩
      have kr3 := Lib.hid hr3
      have kC3 := Lib.hid (kC.out.trans hc3)
      have kR3 := Lib.hid (kR.out.chg hc3 hRl)
      have hz3 := kC3.out.size
      clear hr3 hc3 hy0 hy64
      by_cases h0 : y = 0
      · subst h0
        have hal : Below w3.heap.size w3 (((w3.alloc (.cells #[.int .i64 1] 3)).alloc (.cells #[.int .i64 10, .int .i64 0, .int .i64 0] 3)).alloc (.cells #[.slice (some ⟨w3.heap.size, 0, none⟩) 1 1, .slice (some ⟨w3.heap.size + 1, 0, none⟩) 3 3] 56)) := (((Below.refl _ _).alloc (Nat.le_refl _) _).alloc (by simp) _).alloc (by simp; omega) _
        have hR5 := Lib.hid (kR3.out.below hal)
        have hV5 := Lib.hid (show FcV (((w3.alloc (.cells #[.int .i64 1] 3)).alloc (.cells #[.int .i64 10, .int .i64 0, .int .i64 0] 3)).alloc (.cells #[.slice (some ⟨w3.heap.size, 0, none⟩) 1 1, .slice (some ⟨w3.heap.size + 1, 0, none⟩) 3 3] 56)) w.heap.size (.slice (some ⟨w3.heap.size, 0, none⟩) 1 1) (.slice (some ⟨w3.heap.size + 1, 0, none⟩) 3 3) ⟨[1], [10, 0, 0]⟩ from
          ⟨IOwn.of_has (ds := [1]) (((Has.new w3 3 #[.int .i64 1]).alloc _).alloc _) rfl rfl hz3 (by decide), IOwn.of_has (ds := [10, 0, 0]) ((Has.newAt (w := w3.alloc (.cells #[.int .i64 1] 3)) (n := w3.heap.size + 1) (t := 3) (cs := #[.int .i64 10, .int .i64 0, .int .i64 0]) (by simp)).alloc _) rfl rfl (by omega) (by decide), fun b f1 f2 => by
            have q1 : w3.heap.size = b := by simpa [Value.ownBlock] using f1
            have q2 : w3.heap.size + 1 = b := by simpa [Value.ownBlock] using f2
            omega⟩)
        have hr5 := Lib.hid (((kr3.out.alloc (by omega) (.cells #[.int .i64 1] 3)).alloc (by simp; omega) (.cells #[.int .i64 10, .int .i64 0, .int .i64 0] 3)).alloc (by simp; omega) (.cells #[.slice (some ⟨w3.heap.size, 0, none⟩) 1 1, .slice (some ⟨w3.heap.size + 1, 0, none⟩) 3 3] 56))
        have hC5 := Lib.hid (((kC3.out.alloc (.cells #[.int .i64 1] 3)).alloc (.cells #[.int .i64 10, .int .i64 0, .int .i64 0] 3)).alloc (.cells #[.slice (some ⟨w3.heap.size, 0, none⟩) 1 1, .slice (some ⟨w3.heap.size + 1, 0, none⟩) 3 3] 56))
        have hO5 := Lib.hid (show (((w3.alloc (.cells #[.int .i64 1] 3)).alloc (.cells #[.int .i64 10, .int .i64 0, .int .i64 0] 3)).alloc (.cells #[.slice (some ⟨w3.heap.size, 0, none⟩) 1 1, .slice (some ⟨w3.heap.size + 1, 0, none⟩) 3 3] 56)).ownsRow w.heap.size 56 2 (.slice Al m cl) m vs from by have h1 := hR5.out.1; rwa [hmh.out] at h1)
        have hnw := Lib.hid (World.news_of_block (Has.newAt (w := (w3.alloc (.cells #[.int .i64 1] 3)).alloc (.cells #[.int .i64 10, .int .i64 0, .int .i64 0] 3)) (n := w3.heap.size + 1 + 1) (t := 56) (cs := #[.slice (some ⟨w3.heap.size, 0, none⟩) 1 1, .slice (some ⟨w3.heap.size + 1, 0, none⟩) 3 3]) (by simp)))
        have hsz5 := Lib.hid hC5.out.size
        clear hal
        go_wp2_with (at_builtin; refine wpList_append_lies _ rfl (.tmp 25) (.tmp 29) 50 rfl w.heap.size 56 i0 _ 2 48 Try.underlying50 hi0 hi1 hi2 hi3 rfl (by decide) (.slice Al m cl) m vs rfl (by exact hO5.out) ⟨w3.heap.size + 1 + 1, 0, none⟩ 1 1 [.slice (some ⟨w3.heap.size, 0, none⟩) 1 1, .slice (some ⟨w3.heap.size + 1, 0, none⟩) 3 3] rfl rfl (by exact hnw.out) (by simp [Value.oneCell']) (by omega) (by unfold maxLen; omega) (by omega) (by exact hsz5.out) (w3.heap.size + 1 + 1 + 1) (by simp) ?_; intro gr cr2 w6 hown6 hgrow6 hat6 hlt6)
        have hbk : ∀ b, (Value.slice Al m cl).ownBlock = some b → w.heap.size ≤ b := fun b hb => (World.ownsRow.lt hO5.out b hb).1
        have hR6 := Lib.hid (RowsF.append_ hR5.out hV5.out (by rw [hmh.out]; exact hown6) (by rw [hmh.out]; exact hgrow6))
        have hr6 := Lib.hid (hr5.out.grown hgrow6 (fun b hb => ⟨by have := hbk b hb; omega, by have := hbk b hb; omega⟩) (by have := hsz5.out; omega))
        have hC6 := Lib.hid (hC5.out.grown hgrow6 hbk)
        clear hown6 hgrow6 hat6 hbk
        go_wp2_with fail
        go_ret
        exact ⟨_, Fs ++ [⟨[1], [10, 0, 0]⟩], _, p' + 1, rfl, by exact hR6.out, by rw [List.length_append, List.length_singleton, hmh.out]; omega, add_bd kbd.out (by decide) (by decide) ⟨2, by decide, by decide⟩, by omega, hr6.out, hC6.out⟩
      · have g0 : (y == 0) = false := by simpa using h0
        by_cases h1 : y = 1
        · subst h1
          have hal : Below w3.heap.size w3 (w3.alloc (.cells #[.slice none 0 0, .slice none 0 0] 56)) := (Below.refl _ _).alloc (Nat.le_refl _) _
          have hR5 := Lib.hid (kR3.out.below hal)
          have hr5 := Lib.hid (kr3.out.alloc (by omega) (.cells #[.slice none 0 0, .slice none 0 0] 56))
          have hC5 := Lib.hid (kC3.out.alloc (.cells #[.slice none 0 0, .slice none 0 0] 56))
          have hO5 := Lib.hid (show (w3.alloc (.cells #[.slice none 0 0, .slice none 0 0] 56)).ownsRow w.heap.size 56 2 (.slice Al m cl) m vs from by have h1 := hR5.out.1; rwa [hmh.out] at h1)
          have hnw := Lib.hid (World.news_of_block (Has.new w3 56 #[.slice none 0 0, .slice none 0 0]))
          have hsz5 := Lib.hid hC5.out.size
          clear hal h0
          go_wp2_with (at_builtin; refine wpList_append_lies _ rfl (.tmp 33) (.tmp 35) 50 rfl w.heap.size 56 i0 _ 2 48 Try.underlying50 hi0 hi1 hi2 hi3 rfl (by decide) (.slice Al m cl) m vs rfl (by exact hO5.out) ⟨w3.heap.size, 0, none⟩ 1 1 [.slice none 0 0, .slice none 0 0] rfl rfl (by exact hnw.out) (by simp [Value.oneCell']) (by omega) (by unfold maxLen; omega) (by omega) (by exact hsz5.out) (w3.heap.size + 1) (by simp) ?_; intro gr cr2 w6 hown6 hgrow6 hat6 hlt6)
          have hbk : ∀ b, (Value.slice Al m cl).ownBlock = some b → w.heap.size ≤ b := fun b hb => (World.ownsRow.lt hO5.out b hb).1
          have hR6 := Lib.hid (RowsF.append_ (F := ⟨[], []⟩) hR5.out (FcV.none_ _ _) (by rw [hmh.out]; exact hown6) (by rw [hmh.out]; exact hgrow6))
          have hr6 := Lib.hid (hr5.out.grown hgrow6 (fun b hb => ⟨by have := hbk b hb; omega, by have := hbk b hb; omega⟩) (by have := hsz5.out; omega))
          have hC6 := Lib.hid (hC5.out.grown hgrow6 hbk)
          clear hown6 hgrow6 hat6 hbk
          go_wp2_with fail
          go_ret
          exact ⟨_, Fs ++ [⟨[], []⟩], _, p' + 1, rfl, by exact hR6.out, by rw [List.length_append, List.length_singleton, hmh.out]; omega, add_bd kbd.out (by decide) (by decide) ⟨0, by decide, by decide⟩, by omega, hr6.out, hC6.out⟩
        · have g1 : (y == 1) = false := by simpa using h1
          clear h0 h1
          go_wp2_with fail
          go_ret
          exact ⟨.slice Al m cl, Fs, vs, p' + 1, rfl, by have := kR3.out; rwa [hmh.out] at this, by rw [hmh.out]; omega, kbd.out, by omega, kr3.out, kC3.out⟩
end Go.Proofs.Ytghkpmafocacoaa
