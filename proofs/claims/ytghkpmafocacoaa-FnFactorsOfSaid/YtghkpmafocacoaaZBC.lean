/- Parts of the proof: Fr. -/
import Derived.Test.YtghkpmafocacoaaZBB
import Derived.Test.YtghkpmafocacoaaZAM
namespace Go.Proofs.Ytghkpmafocacoaa
set_option maxRecDepth 100000
set_option linter.unusedVariables false
open Go.RowKit
theorem set_falseF {listed : Array Bool} {i k : Nat} (q : (listed.setIfInBounds i true).getD k false = false) : listed.getD k false = false := by
  rw [Array.getD_eq_getD_getElem?] at q ⊢
  rw [Array.getElem?_setIfInBounds] at q
  split at q
  · split at q
    · cases q
    · rename_i h1 h2
      rw [Array.getElem?_eq_none (by omega)]
      rfl
  · exact q
theorem set_selfF {listed : Array Bool} {i : Nat} (h : i < listed.size) : (listed.setIfInBounds i true).getD i false = true := by
  rw [Array.getD_eq_getD_getElem?, Array.getElem?_setIfInBounds_self_of_lt h]
  rfl
/-- Values in a block, each of which has a property. -/
def Vals (w : World) (g L : Nat) (P : ByteArray → Prop) : Prop := ∀ i, i < L → ∃ v, w.cell? ⟨g, i, none⟩ = some (.string v) ∧ P v
def Ofd (w : World) (B R : Nat) (A : Option Addr) (n c p : Nat) (P : ByteArray → Prop) (e : Ending) (w' : World) : Prop :=
  ∃ v : ByteArray, e = .returned (.string v) ∧ P v ∧ Rdr w' B R A n c (p + 1) ∧ Chg w w' R
theorem of_any (R : Nat) (A : Option Addr) (n c p B g L cap : Nat) (P : ByteArray → Prop) (w : World) (h : Rdr w B R A n c p) (hp : p ≤ 1000000) (hn : n ≤ 2000) (hL : 1 ≤ L) (hL2 : L ≤ 1000) (hg : g < w.heap.size) (hgR : g ≠ R) (hN : Vals w g L P) :
    Calls Try.prog 151 #[.pointer (some ⟨R, 0, none⟩), .slice (some ⟨g, 0, none⟩) L cap] w (Ofd w B R A n c p P) := by
  have hNN := Lib.hid hN
  clear hN
  go_enter Try.func151, Try.ntmps151
  go_wp2_with fail
  refine (pick_any R A n c p B _ _ h hp hn (by omega)).mono ?_
  rintro e w1 ⟨v, rfl, hv0, hv1, hr, hc⟩
  obtain ⟨k, rfl⟩ := Int.eq_ofNat_of_zero_le hv0
  obtain ⟨x, hx, hP⟩ := hNN.out k (by omega)
  have hx1 : w1.cell? ⟨g, k, none⟩ = some (.string x) := (World.cell?_of_block (a := ⟨g, k, none⟩) (hc.block g hg (fun e => hgR (by injection e)))).trans hx
  have hPP := Lib.hid hP
  clear hx hP
  go_wp2
  go_ret
  exact ⟨x, rfl, hPP.out, hr, hc⟩
def Dig (v : ByteArray) : Prop := v = ⟨#[48, 49, 50, 51]⟩ ∨ v = ⟨#[49, 48, 51, 50]⟩ ∨ v = ⟨#[50, 51, 49, 48]⟩ ∨ v = ⟨#[51, 50, 49, 48]⟩
set_option maxHeartbeats 4000000 in
theorem l8Single_any (R : Nat) (A : Option Addr) (n c p B : Nat) (w : World) (h : Rdr w B R A n c p) (hp : p ≤ 800000) (hn : n ≤ 2000) (hB : B ≤ w.heap.size) :
    Calls Try.prog 113 #[.pointer (some ⟨R, 0, none⟩)] w (Prgd w B R A n c p) := by
  have hlt := h.lt
  have hown0 : Own (w.alloc (.cells #[] 116)) w.heap.size (.slice (some ⟨w.heap.size, 0, none⟩) 0 0) [] := World.ownsRow_made w #[] 0 (Nat.le_refl _) (by simp [maxLen]) rfl
  have hOwn0 := Lib.hid hown0
  clear hown0
  go_enter Try.func113, Try.ntmps113
  go_wp2_with fail
  refine (of_any R A n c p B (w.heap.size + 1) 4 4 Dig _ ((h.alloc hB _).alloc (by simp; omega) _) (by omega) hn (by omega) (by omega) (by simp) (by omega) ?_).mono ?_
  · intro i hi
    have hH1 := Has.new (w.alloc (.cells #[] 116)) 9 #[.string ⟨#[48, 49, 50, 51]⟩, .string ⟨#[49, 48, 51, 50]⟩, .string ⟨#[50, 51, 49, 48]⟩, .string ⟨#[51, 50, 49, 48]⟩]
    rw [show (w.alloc (.cells #[] 116)).heap.size = w.heap.size + 1 by simp] at hH1
    have hH := hH1.cell
    obtain rfl | rfl | rfl | rfl : i = 0 ∨ i = 1 ∨ i = 2 ∨ i = 3 := by omega
    · exact ⟨_, hH 0, .inl rfl⟩
    · exact ⟨_, hH 1, .inr (.inl rfl)⟩
    · exact ⟨_, hH 2, .inr (.inr (.inl rfl))⟩
    · exact ⟨_, hH 3, .inr (.inr (.inr rfl))⟩
  rintro e w1 ⟨str, rfl, hDig, hr1, hc1⟩
  have hs4 : str.size = 4 := by rcases hDig with rfl | rfl | rfl | rfl <;> rfl
  have hDg := Lib.hid hDig
  clear hDig
  have hC0 : Chg w ((w.alloc (.cells #[] 116)).alloc (.cells #[.string ⟨#[48, 49, 50, 51]⟩, .string ⟨#[49, 48, 51, 50]⟩, .string ⟨#[50, 51, 49, 48]⟩, .string ⟨#[51, 50, 49, 48]⟩] 9)) R := ((Chg.refl w R).alloc _).alloc _
  have hO1 := Lib.hid ((hOwn0.out.alloc (.cells #[.string ⟨#[48, 49, 50, 51]⟩, .string ⟨#[49, 48, 51, 50]⟩, .string ⟨#[50, 51, 49, 48]⟩, .string ⟨#[51, 50, 49, 48]⟩] 9)).chg hc1 hlt)
  have hC1 := Lib.hid (hC0.trans hc1)
  have hR1 := Lib.hid hr1
  clear hc1 hr1 h hOwn0 hC0
  go_wp2_with fail
  go_loopg [3, 5] 3 (fun gn l i wr => ∃ (j : Nat) (os : List St) (p' : Nat), j ≤ 3 ∧ gn = 3 - j ∧ i = .int .i64 (j : Int) ∧ os.length = j ∧ p' ≤ p + 1 + 20 * j ∧ Own wr w.heap.size l os ∧ Rdr wr B R A n c p' ∧ Chg w wr R)
  case atStart => exact ⟨0, [], p + 1, by omega, rfl, rfl, rfl, by omega, hO1.out, hR1.out, hC1.out⟩
  case round =>
    clear hO1 hR1 hC1
    obtain ⟨j, os, p', hj, hgn, rfl, hl0, hpp, hown, hr, hC⟩ := hrel
    have hgk : gk = 3 - j := hgn
    obtain ⟨A', c', hv, hlc, hcm⟩ := hown.form
    subst hv
    have hz := hC.size
    have hOw := Lib.hid hown
    have hCw := Lib.hid hC
    have hl0h := Lib.hid hl0
    clear hgn hown hC hl0
    go_wp2_with fail
    refine (pick_any R A n c p' B _ _ hr (by omega) hn (by omega)).mono ?_
    rintro e w2 ⟨v2, rfl, a0, a1, hr2, hc2⟩
    have hO2 := Lib.hid (hOw.out.chg hc2 hlt)
    have hC2 := Lib.hid (hCw.out.trans hc2)
    have hR2 := Lib.hid hr2
    clear hr hc2 hr2 hOw hCw
    have hz2 := hC2.out.size
    by_cases hlo : (j : Int) < 1 + v2
    · have hj2 : j ≤ 2 := by omega
      have hj0 : (0 : Int) ≤ (j : Int) := by omega
      have hj4 : (j : Int) < 4 := by omega
      go_wp2_with fail
      refine (l1Row_any R A n c _ B _ hR2.out (by omega) hn (by omega)).mono ?_
      rintro e w3 ⟨ra, rb, rc, p3, rfl, hp3, hr3, hc3⟩
      have hjs : j < str.size := by rw [hs4]; omega
      generalize ((str[j].toNat : Int) - 48) % 256 = z
      have hO3 := hO2.out.chg hc3 hlt
      have hC3 := hC2.out.trans hc3
      have hz3 := hC3.size
      have hH4 := Lib.hid (Has.new w3 116 (StC ⟨2, z, 0, 0, ra, rb, rc⟩))
      have hO4 := Lib.hid (hO3.alloc (.cells (StC ⟨2, z, 0, 0, ra, rb, rc⟩) 116))
      have hR4 := Lib.hid (hr3.alloc (by omega) (.cells (StC ⟨2, z, 0, 0, ra, rb, rc⟩) 116))
      have hC4 := Lib.hid (hC3.alloc (.cells (StC ⟨2, z, 0, 0, ra, rb, rc⟩) 116))
      have hneh := Lib.hid (show ∀ k, (Value.slice A' os.length c').ownBlock = some k → k ≠ w3.heap.size from fun k hk e => by have := (World.ownsRow.lt hO3 k hk).2; omega)
      clear hc3 hr3 hO3 hC3 hO2 hC2 hR2
      simp only [StC] at hH4 hO4 hR4 hC4
      have hl2 : os.length ≤ 2 := by rw [hl0h.out]; exact hj2
      have cs := hH4.out.cell
      have fs := hH4.out.frozen
      have gs := hH4.out.lt
      by_cases hj1 : j = 0
      · have hnp : ¬ (0 : Int) < (j : Int) := by omega
        clear hj1
        have hNew := Lib.hid (new_stmt (w3.alloc (.cells #[.int .i64 2, .int .i64 z, .int .i64 0, .int .i64 0, .int .i64 ra, .int .i64 rb, .int .i64 rc] 116)) (⟨2, z, 0, 0, ra, rb, rc⟩ : St))
        have hO5 := Lib.hid (Own.alloc (hO4.out) (.cells #[.int .i64 2, .int .i64 z, .int .i64 0, .int .i64 0, .int .i64 ra, .int .i64 rb, .int .i64 rc] 116))
        have hR5 := Lib.hid (Rdr.alloc (hR4.out) (by omega) (.cells #[.int .i64 2, .int .i64 z, .int .i64 0, .int .i64 0, .int .i64 ra, .int .i64 rb, .int .i64 rc] 116))
        have hC5 := Lib.hid (Chg.alloc (hC4.out) (.cells #[.int .i64 2, .int .i64 z, .int .i64 0, .int .i64 0, .int .i64 ra, .int .i64 rb, .int .i64 rc] 116))
        go_wp2_with (at_builtin; refine wpList_append_drawn rfl (.tmp 45) (.tmp 47) rfl B R A n c p3 A' c' os rfl (by exact hO5.out) (by exact hR5.out) (by exact hC5.out) hlt hB (w3.alloc (.cells #[.int .i64 2, .int .i64 z, .int .i64 0, .int .i64 0, .int .i64 ra, .int .i64 rb, .int .i64 rc] 116)).heap.size 1 1 [(⟨2, z, 0, 0, ra, rb, rc⟩ : St)] (by first | rfl | (simp [Act.eval])) rfl (by simpa using hNew.out) (by omega) ?_)
        intro A6 c6 w6 hO6 hR6 hC6
        have lO := Lib.hid hO6
        have lR := Lib.hid hR6
        have lC := Lib.hid hC6
        clear hO6 hR6 hC6 hO5 hR5 hC5 hNew
        go_wp2_with fail
        go_roundg (3 - (j + 1))
        case measure => omega
        case rel => exact ⟨j + 1, os ++ [(⟨2, z, 0, 0, ra, rb, rc⟩ : St)], p3, by omega, rfl, by go_num, by rw [List.length_append]; show os.length + 1 = j + 1; rw [hl0h.out], by omega, lO.out, lR.out, lC.out⟩
      · have hnp : (0 : Int) < (j : Int) := by omega
        go_wp2_with fail
        generalize w3.alloc (.cells #[.int .i64 2, .int .i64 z, .int .i64 0, .int .i64 0, .int .i64 ra, .int .i64 rb, .int .i64 rc] 116) = W4 at hH4 hO4 hR4 hC4 ⊢
        generalize hg0 : w3.heap.size = g0 at hH4 hneh ⊢
        have hgw : w.heap.size ≤ g0 := by omega
        have hgR : R < g0 := by omega
        clear hg0
        refine (pick_any R A n c _ B _ _ hR4.out (by omega) hn (by omega)).mono ?_
        rintro e w5 ⟨v4, rfl, b0, b1, hr5, hc5⟩
        have hH5 := Lib.hid (hH4.out.chg hc5 (by omega))
        have hO5 := Lib.hid (hO4.out.chg hc5 hlt)
        have hC5 := Lib.hid (hC4.out.trans hc5)
        have hR5 := Lib.hid hr5
        have hz5 := hC5.out.size
        clear hc5 hr5 hH4 hO4 hR4 hC4 cs fs gs
        have cs := hH5.out.cell
        have fs := hH5.out.frozen
        have gs := hH5.out.lt
        by_cases hv4 : 0 < v4
        · go_wp2_with fail
          have hK6 : KeptBut w5 (w5.setCell ⟨g0, 0, none⟩ (.int .i64 3)) (fun i => i = g0) := KeptBut.put (S := fun i => i = g0) (p := ⟨g0, 0, none⟩) (KeptBut.refl w5 (fun i => i = g0)) (fun _ => rfl) (.int .i64 3)
          have hH6 := Lib.hid (hH5.out.put 0 (.int .i64 3))
          have hO6 := Lib.hid (show Own (w5.setCell ⟨g0, 0, none⟩ (.int .i64 3)) w.heap.size (.slice A' os.length c') os from owns_but hO5.out hK6 hneh.out)
          have hR6 := Lib.hid (hR5.out.but hK6 (by omega) (by omega) (by omega))
          have hC6 := Lib.hid (hC5.out.but hK6 hgw)
          clear hK6
          have hz6 := hC6.out.size
          clear hH5 hO5 hR5 hC5 cs fs gs
          refine (pick_any R A n c _ B _ _ hR6.out (by omega) hn (by omega)).mono ?_
          rintro e w7 ⟨v5, rfl, b2, b3, hr7, hc7⟩
          have hH7 := Lib.hid (hH6.out.chg hc7 (by omega))
          have hO7 := Lib.hid (hO6.out.chg hc7 hlt)
          have hC7 := Lib.hid (hC6.out.trans hc7)
          have hR7 := Lib.hid hr7
          have hz7 := hC7.out.size
          clear hc7 hr7 hH6 hO6 hR6 hC6
          obtain ⟨k5, rfl⟩ := Int.eq_ofNat_of_zero_le b2
          have hk5 : k5 < str.size := by rw [hs4]; omega
          have hk0 : (0 : Int) ≤ (k5 : Int) := by omega
          have hk4 : (k5 : Int) < 4 := by omega
          obtain ⟨z2, hz2'⟩ : ∃ z2, ((str[k5].toNat : Int) - 48) % 256 = z2 := ⟨_, rfl⟩
          have cs := hH7.out.cell
          have fs := hH7.out.frozen
          have gs := hH7.out.lt
          have hK8 : KeptBut w7 (w7.setCell ⟨g0, 2, none⟩ (.int .i64 z2)) (fun i => i = g0) := KeptBut.put (S := fun i => i = g0) (p := ⟨g0, 2, none⟩) (KeptBut.refl w7 (fun i => i = g0)) (fun _ => rfl) (.int .i64 z2)
          have hH8 := Lib.hid (hH7.out.put 2 (.int .i64 z2))
          have hO8 := Lib.hid (show Own (w7.setCell ⟨g0, 2, none⟩ (.int .i64 z2)) w.heap.size (.slice A' os.length c') os from owns_but hO7.out hK8 hneh.out)
          have hR8 := Lib.hid (hR7.out.but hK8 (by omega) (by omega) (by omega))
          have hC8 := Lib.hid (hC7.out.but hK8 hgw)
          clear hK8
          have hz8 := hC8.out.size
          clear hH7 hO7 hR7 hC7
          have hNew := Lib.hid (new_stmt (w7.setCell ⟨g0, 2, none⟩ (.int .i64 z2)) (⟨3, z, z2, 0, ra, rb, rc⟩ : St))
          have hO5 := Lib.hid (Own.alloc (hO8.out) (.cells #[.int .i64 3, .int .i64 z, .int .i64 z2, .int .i64 0, .int .i64 ra, .int .i64 rb, .int .i64 rc] 116))
          have hR5 := Lib.hid (Rdr.alloc (hR8.out) (by omega) (.cells #[.int .i64 3, .int .i64 z, .int .i64 z2, .int .i64 0, .int .i64 ra, .int .i64 rb, .int .i64 rc] 116))
          have hC5 := Lib.hid (Chg.alloc (hC8.out) (.cells #[.int .i64 3, .int .i64 z, .int .i64 z2, .int .i64 0, .int .i64 ra, .int .i64 rb, .int .i64 rc] 116))
          go_wp2_with (at_builtin; refine wpList_append_drawn rfl (.tmp 45) (.tmp 47) rfl B R A n c (p3 + 1 + 1) A' c' os rfl (by exact hO5.out) (by exact hR5.out) (by exact hC5.out) hlt hB (w7.setCell ⟨g0, 2, none⟩ (.int .i64 z2)).heap.size 1 1 [(⟨3, z, z2, 0, ra, rb, rc⟩ : St)] (by first | rfl | (simp [Act.eval])) rfl (by simpa using hNew.out) (by omega) ?_)
          intro A6 c6 w6 hO6 hR6 hC6
          have lO := Lib.hid hO6
          have lR := Lib.hid hR6
          have lC := Lib.hid hC6
          clear hO6 hR6 hC6 hO5 hR5 hC5 hNew
          go_wp2_with fail
          go_roundg (3 - (j + 1))
          case measure => omega
          case rel => exact ⟨j + 1, os ++ [(⟨3, z, z2, 0, ra, rb, rc⟩ : St)], p3 + 1 + 1, by omega, rfl, by go_num, by rw [List.length_append]; show os.length + 1 = j + 1; rw [hl0h.out], by omega, lO.out, lR.out, lC.out⟩
        · skip
          have hNew := Lib.hid (new_stmt w5 (⟨2, z, 0, 0, ra, rb, rc⟩ : St))
          have hO5 := Lib.hid (Own.alloc (hO5.out) (.cells #[.int .i64 2, .int .i64 z, .int .i64 0, .int .i64 0, .int .i64 ra, .int .i64 rb, .int .i64 rc] 116))
          have hR5 := Lib.hid (Rdr.alloc (hR5.out) (by omega) (.cells #[.int .i64 2, .int .i64 z, .int .i64 0, .int .i64 0, .int .i64 ra, .int .i64 rb, .int .i64 rc] 116))
          have hC5 := Lib.hid (Chg.alloc (hC5.out) (.cells #[.int .i64 2, .int .i64 z, .int .i64 0, .int .i64 0, .int .i64 ra, .int .i64 rb, .int .i64 rc] 116))
          go_wp2_with (at_builtin; refine wpList_append_drawn rfl (.tmp 45) (.tmp 47) rfl B R A n c (p3 + 1) A' c' os rfl (by exact hO5.out) (by exact hR5.out) (by exact hC5.out) hlt hB w5.heap.size 1 1 [(⟨2, z, 0, 0, ra, rb, rc⟩ : St)] (by first | rfl | (simp [Act.eval])) rfl (by simpa using hNew.out) (by omega) ?_)
          intro A6 c6 w6 hO6 hR6 hC6
          have lO := Lib.hid hO6
          have lR := Lib.hid hR6
          have lC := Lib.hid hC6
          clear hO6 hR6 hC6 hO5 hR5 hC5 hNew
          go_wp2_with fail
          go_roundg (3 - (j + 1))
          case measure => omega
          case rel => exact ⟨j + 1, os ++ [(⟨2, z, 0, 0, ra, rb, rc⟩ : St)], p3 + 1, by omega, rfl, by go_num, by rw [List.length_append]; show os.length + 1 = j + 1; rw [hl0h.out], by omega, lO.out, lR.out, lC.out⟩
    · have hj1 : 1 ≤ j := by omega
      have hln := Lib.hid (show 1 ≤ os.length ∧ os.length ≤ 4 by rw [hl0h.out]; omega)
      have hl4 := hln.out.2
      go_wp2_with fail
      refine (pick_any R A n c _ B _ _ hR2.out (by omega) hn (by omega)).mono ?_
      rintro e w3 ⟨v3, rfl, a0, a1, hr3, hc3⟩
      have hO3 := Lib.hid (hO2.out.chg hc3 hlt)
      have hC3 := Lib.hid (hC2.out.trans hc3)
      have hR3 := Lib.hid hr3
      have hz3 := hC3.out.size
      clear hc3 hr3 hO2 hC2 hR2
      by_cases hv3 : 0 < v3
      · go_wp2_with fail
        refine (pick_any R A n c _ B _ _ hR3.out (by omega) hn (by omega)).mono ?_
        rintro e w4 ⟨va, rfl, b0, b1, hr4, hc4⟩
        have hO4 := Lib.hid (hO3.out.chg hc4 hlt)
        have hC4 := Lib.hid (hC3.out.trans hc4)
        have hR4 := Lib.hid hr4
        have hz4 := hC4.out.size
        clear hc4 hr4 hO3 hC3 hR3
        go_wp2_with fail
        refine (l1Row_any R A n c _ B _ hR4.out (by omega) hn (by omega)).mono ?_
        rintro e w5 ⟨ra, rb, rc, p5, rfl, hp5, hr5, hc5⟩
        have hO5 := hO4.out.chg hc5 hlt
        have hC5 := hC4.out.trans hc5
        have hz5 := hC5.size
        have hH6 := Lib.hid (Has.new w5 116 (StC ⟨4, va, 0, 0, ra, rb, rc⟩))
        have hO6 := Lib.hid (hO5.alloc (.cells (StC ⟨4, va, 0, 0, ra, rb, rc⟩) 116))
        have hR6 := Lib.hid (hr5.alloc (by omega) (.cells (StC ⟨4, va, 0, 0, ra, rb, rc⟩) 116))
        have hC6 := Lib.hid (hC5.alloc (.cells (StC ⟨4, va, 0, 0, ra, rb, rc⟩) 116))
        have hneh := Lib.hid (show ∀ k, (Value.slice A' os.length c').ownBlock = some k → k ≠ w5.heap.size from fun k hk e => by have := (World.ownsRow.lt hO5 k hk).2; omega)
        clear hc5 hr5 hO5 hC5 hO4 hC4 hR4
        simp only [StC] at hH6 hO6 hR6 hC6
        go_wp2_with fail
        generalize w5.alloc (.cells #[.int .i64 4, .int .i64 va, .int .i64 0, .int .i64 0, .int .i64 ra, .int .i64 rb, .int .i64 rc] 116) = W6 at hH6 hO6 hR6 hC6 ⊢
        generalize hg0 : w5.heap.size = g0 at hH6 hneh ⊢
        have hgw : w.heap.size ≤ g0 := by omega
        have hgR : R < g0 := by omega
        clear hg0
        refine (pick_any R A n c _ B _ _ hR6.out (by omega) hn (by omega)).mono ?_
        rintro e w7 ⟨v7, rfl, d0, d1, hr7, hc7⟩
        have hO7 := Lib.hid (hO6.out.chg hc7 hlt)
        have hC7 := Lib.hid (hC6.out.trans hc7)
        have hR7 := Lib.hid hr7
        have hz7 := hC7.out.size
        have hH7 := Lib.hid (hH6.out.chg hc7 (by omega))
        clear hc7 hr7 hO6 hC6 hR6 hH6
        have cs := hH7.out.cell
        have fs := hH7.out.frozen
        have gs := hH7.out.lt
        by_cases hv7 : v7 = 0
        · have hvb : (v7 == (0 : Int)) = true := by simp [hv7]
          clear hv7
          have hK8 : KeptBut w7 (w7.setCell ⟨g0, 0, none⟩ (.int .i64 5)) (fun i => i = g0) := KeptBut.put (S := fun i => i = g0) (p := ⟨g0, 0, none⟩) (KeptBut.refl w7 (fun i => i = g0)) (fun _ => rfl) (.int .i64 5)
          have hH8 := Lib.hid (hH7.out.put 0 (.int .i64 5))
          have hO8 := Lib.hid (show Own (w7.setCell ⟨g0, 0, none⟩ (.int .i64 5)) w.heap.size (.slice A' os.length c') os from owns_but hO7.out hK8 hneh.out)
          have hR8 := Lib.hid (hR7.out.but hK8 (by omega) (by omega) (by omega))
          have hC8 := Lib.hid (hC7.out.but hK8 hgw)
          clear hK8
          have hz8 := hC8.out.size
          have hg8 := hH8.out.lt
          go_wp2_with fail
          generalize w7.setCell ⟨g0, 0, none⟩ (.int .i64 5) = w8 at hH8 hO8 hR8 hC8 hz8 hg8 ⊢
          clear hH7 hO7 hR7 hC7 cs fs gs
          generalize hq8 : p5 + 1 = q8 at hR8
          refine wp_region_any (by kernel_rfl) ?_
          change wpAny _ _ _ _ _ _ _ (World.drew _)
          refine wpAny_last (n := 8) (I := fun listed aq wx => listed.size = 9 ∧ ∃ v61 v62 v63 v64 v65 v66 v67 v68 : Value, aq = { tmps := #[.pointer (some ⟨R, 0, none⟩), undef, .slice none 0 0, .slice A' os.length c', .string str, .int .i64 ((j : Nat) : Int), u6, u7, .pointer (some ⟨g0, 0, none⟩), .slice (some ⟨w.heap.size, 0, none⟩) 0 0, .pointer (some ⟨R, 0, none⟩), .slice (some ⟨w.heap.size + 1, 0, none⟩) 4 4, .string str, .int .i64 ((j : Nat) : Int), .pointer (some ⟨R, 0, none⟩), .int .i64 v2, .int .i64 (1 + v2), .bool (decide (((j : Nat) : Int) < 1 + v2)), u18, u19, u20, u21, u22, u23, u24, u25, u26, u27, u28, u29, u30, u31, u32, u33, u34, u35, u36, u37, u38, u39, u40, u41, u42, u43, u44, u45, u46, u47, u48, .pointer (some ⟨R, 0, none⟩), .int .i64 v3, .bool true, .pointer (some ⟨R, 0, none⟩), .int .i64 va, .pointer (some ⟨R, 0, none⟩), .agg #[.int .i64 ra, .int .i64 rb, .int .i64 rc], .agg #[.int .i64 4, .int .i64 va, .int .i64 0, .int .i64 0, .int .i64 ra, .int .i64 rb, .int .i64 rc], .pointer (some ⟨R, 0, none⟩), .int .i64 v7, .bool true, .pointer (some ⟨g0, 0, none⟩), v61, v62, v63, v64, v65, v66, v67, v68, undef, undef, undef, undef, undef, undef, undef, undef, undef, undef, undef, undef, undef], defers := [] } ∧ (listed.getD 0 false = true → v61 = .pointer (some ⟨g0, 1, none⟩)) ∧ (listed.getD 1 false = true → v62 = .int .i64 va) ∧ (listed.getD 2 false = true → (∃ y : Int, v63 = .int .i64 y)) ∧ (listed.getD 3 false = true → v64 = .pointer (some ⟨R, 0, none⟩)) ∧ (listed.getD 4 false = true → (∃ x : Int, v65 = .int .i64 x ∧ Rdr wx B R A n c (q8 + 1))) ∧ (listed.getD 5 false = true → (∃ y : Int, v66 = .int .i64 y)) ∧ (listed.getD 6 false = true → (∃ y : Int, v67 = .int .i64 y)) ∧ (listed.getD 7 false = true → v68 = .pointer (some ⟨g0, 2, none⟩)) ∧ ((listed.getD 4 false = false → Rdr wx B R A n c q8) ∧ Chg w8 wx R)) rfl (by kernel_rfl) (by kernel_rfl) ?hs ?hl _ _ _ ?st rfl (by decide) _ (by decide)
          case st =>
            refine ⟨rfl, undef, undef, undef, undef, undef, undef, undef, undef, rfl, ?_, ?_, ?_, ?_, ?_, ?_, ?_, ?_, ⟨fun _ => ⟨hR8.out.1, hR8.out.2.1, hR8.out.2.2⟩, (Chg.refl w8 R).drewN 1⟩⟩ <;> (intro e; exact absurd e (by decide))
          case hs =>
            rintro listed aq wx ⟨hz, v61, v62, v63, v64, v65, v66, v67, v68, rfl, hII⟩ i hin hi
            obtain ⟨h0, o, ho, hd⟩ := mem_ready.1 hi
            have K0 := Lib.hid hII.1
            have K1 := Lib.hid hII.2.1
            have K2 := Lib.hid hII.2.2.1
            have K3 := Lib.hid hII.2.2.2.1
            have K4 := Lib.hid hII.2.2.2.2.1
            have K5 := Lib.hid hII.2.2.2.2.2.1
            have K6 := Lib.hid hII.2.2.2.2.2.2.1
            have K7 := Lib.hid hII.2.2.2.2.2.2.2.1
            have hB : ((listed.getD 4 false = false → Rdr wx B R A n c q8) ∧ Chg w8 wx R) := hII.2.2.2.2.2.2.2.2
            have hne := Lib.hid (fun k (hk : i ≠ k) => @listed_ne listed i k hk)
            have h0f : listed.getD i false = false := by rw [Array.getD_eq_getD_getElem?, getD_false h0]; rfl
            clear hII hi h0
            rcases (by omega : i = 0 ∨ i = 1 ∨ i = 2 ∨ i = 3 ∨ i = 4 ∨ i = 5 ∨ i = 6 ∨ i = 7) with rfl | rfl | rfl | rfl | rfl | rfl | rfl | rfl
            · cases ho
              refine wpOp_step rfl (fun K hK => ?_)
              go_simp
              refine hK _ _ ⟨by simpa using hz, .pointer (some ⟨g0, 1, none⟩), v62, v63, v64, v65, v66, v67, v68, rfl, ?_⟩
              exact ⟨fun _ => rfl, fun e => K1.out (hne.out 1 (by decide) e), fun e => K2.out (hne.out 2 (by decide) e), fun e => K3.out (hne.out 3 (by decide) e), fun e => K4.out (hne.out 4 (by decide) e), fun e => K5.out (hne.out 5 (by decide) e), fun e => K6.out (hne.out 6 (by decide) e), fun e => K7.out (hne.out 7 (by decide) e), ⟨fun qq => hB.1 (set_falseF qq), hB.2⟩⟩
            · cases ho
              have d0 := hd ⟨0, .data⟩ (by simp) rfl
              obtain rfl := K0.out d0
              have hNx := hH8.out.chg hB.2 (by omega)
              have hgc := hNx.cell
              refine wpOp_step rfl (fun K hK => ?_)
              go_simp
              refine hK _ _ ⟨by simpa using hz, .pointer (some ⟨g0, 1, none⟩), .int .i64 va, v63, v64, v65, v66, v67, v68, rfl, ?_⟩
              exact ⟨fun e => K0.out (hne.out 0 (by decide) e), fun _ => rfl, fun e => K2.out (hne.out 2 (by decide) e), fun e => K3.out (hne.out 3 (by decide) e), fun e => K4.out (hne.out 4 (by decide) e), fun e => K5.out (hne.out 5 (by decide) e), fun e => K6.out (hne.out 6 (by decide) e), fun e => K7.out (hne.out 7 (by decide) e), ⟨fun qq => hB.1 (set_falseF qq), hB.2⟩⟩
            · cases ho
              have d1 := hd ⟨1, .data⟩ (by simp) rfl
              obtain rfl := K1.out d1
              refine wpOp_step rfl (fun K hK => ?_)
              go_simp
              refine hK _ _ ⟨by simpa using hz, v61, .int .i64 va, _, v64, v65, v66, v67, v68, rfl, ?_⟩
              exact ⟨fun e => K0.out (hne.out 0 (by decide) e), fun e => K1.out (hne.out 1 (by decide) e), fun _ => ⟨_, rfl⟩, fun e => K3.out (hne.out 3 (by decide) e), fun e => K4.out (hne.out 4 (by decide) e), fun e => K5.out (hne.out 5 (by decide) e), fun e => K6.out (hne.out 6 (by decide) e), fun e => K7.out (hne.out 7 (by decide) e), ⟨fun qq => hB.1 (set_falseF qq), hB.2⟩⟩
            · cases ho
              refine wpOp_step rfl (fun K hK => ?_)
              go_simp
              refine hK _ _ ⟨by simpa using hz, v61, v62, v63, .pointer (some ⟨R, 0, none⟩), v65, v66, v67, v68, rfl, ?_⟩
              exact ⟨fun e => K0.out (hne.out 0 (by decide) e), fun e => K1.out (hne.out 1 (by decide) e), fun e => K2.out (hne.out 2 (by decide) e), fun _ => rfl, fun e => K4.out (hne.out 4 (by decide) e), fun e => K5.out (hne.out 5 (by decide) e), fun e => K6.out (hne.out 6 (by decide) e), fun e => K7.out (hne.out 7 (by decide) e), ⟨fun qq => hB.1 (set_falseF qq), hB.2⟩⟩
            · cases ho
              have d3 := hd ⟨3, .data⟩ (by simp) rfl
              obtain rfl := K3.out d3
              refine wpOp_step rfl (fun K hK => ?_)
              go_simp
              go_at_call 87
              refine (pick_any R A n c q8 B 3 _ (hB.1 h0f) (by omega) hn (by decide)).mono ?_
              rintro e w3 ⟨x, rfl, hx0, hx5, hRx, hcx⟩
              refine hK _ _ ⟨by simpa using hz, v61, v62, v63, .pointer (some ⟨R, 0, none⟩), .int .i64 x, v66, v67, v68, rfl, ?_⟩
              exact ⟨fun e => K0.out (hne.out 0 (by decide) e), fun e => K1.out (hne.out 1 (by decide) e), fun e => K2.out (hne.out 2 (by decide) e), fun e => K3.out (hne.out 3 (by decide) e), fun _ => ⟨x, rfl, hRx⟩, fun e => K5.out (hne.out 5 (by decide) e), fun e => K6.out (hne.out 6 (by decide) e), fun e => K7.out (hne.out 7 (by decide) e), ⟨fun qq => absurd qq (by rw [set_selfF (by omega)]; decide), hB.2.trans hcx⟩⟩
            · cases ho
              have d2 := hd ⟨2, .data⟩ (by simp) rfl
              have d4 := hd ⟨4, .data⟩ (by simp) rfl
              obtain ⟨y2, rfl⟩ := K2.out d2
              obtain ⟨x, rfl, hRx⟩ := K4.out d4
              refine wpOp_step rfl (fun K hK => ?_)
              go_simp
              refine hK _ _ ⟨by simpa using hz, v61, v62, .int .i64 y2, v64, .int .i64 x, _, v67, v68, rfl, ?_⟩
              exact ⟨fun e => K0.out (hne.out 0 (by decide) e), fun e => K1.out (hne.out 1 (by decide) e), fun e => K2.out (hne.out 2 (by decide) e), fun e => K3.out (hne.out 3 (by decide) e), fun e => K4.out (hne.out 4 (by decide) e), fun _ => ⟨_, rfl⟩, fun e => K6.out (hne.out 6 (by decide) e), fun e => K7.out (hne.out 7 (by decide) e), ⟨fun qq => hB.1 (set_falseF qq), hB.2⟩⟩
            · cases ho
              have d5 := hd ⟨5, .data⟩ (by simp) rfl
              obtain ⟨y5, rfl⟩ := K5.out d5
              refine wpOp_step rfl (fun K hK => ?_)
              go_simp
              refine hK _ _ ⟨by simpa using hz, v61, v62, v63, v64, v65, .int .i64 y5, _, v68, rfl, ?_⟩
              exact ⟨fun e => K0.out (hne.out 0 (by decide) e), fun e => K1.out (hne.out 1 (by decide) e), fun e => K2.out (hne.out 2 (by decide) e), fun e => K3.out (hne.out 3 (by decide) e), fun e => K4.out (hne.out 4 (by decide) e), fun e => K5.out (hne.out 5 (by decide) e), fun _ => ⟨_, rfl⟩, fun e => K7.out (hne.out 7 (by decide) e), ⟨fun qq => hB.1 (set_falseF qq), hB.2⟩⟩
            · cases ho
              refine wpOp_step rfl (fun K hK => ?_)
              go_simp
              refine hK _ _ ⟨by simpa using hz, v61, v62, v63, v64, v65, v66, v67, .pointer (some ⟨g0, 2, none⟩), rfl, ?_⟩
              exact ⟨fun e => K0.out (hne.out 0 (by decide) e), fun e => K1.out (hne.out 1 (by decide) e), fun e => K2.out (hne.out 2 (by decide) e), fun e => K3.out (hne.out 3 (by decide) e), fun e => K4.out (hne.out 4 (by decide) e), fun e => K5.out (hne.out 5 (by decide) e), fun e => K6.out (hne.out 6 (by decide) e), fun _ => rfl, ⟨fun qq => hB.1 (set_falseF qq), hB.2⟩⟩
          case hl =>
            rintro listed aq wx ⟨hz, v61, v62, v63, v64, v65, v66, v67, v68, rfl, hII⟩ hall
            have K0 := Lib.hid hII.1
            have K1 := Lib.hid hII.2.1
            have K2 := Lib.hid hII.2.2.1
            have K3 := Lib.hid hII.2.2.2.1
            have K4 := Lib.hid hII.2.2.2.2.1
            have K5 := Lib.hid hII.2.2.2.2.2.1
            have K6 := Lib.hid hII.2.2.2.2.2.2.1
            have K7 := Lib.hid hII.2.2.2.2.2.2.2.1
            have hB : ((listed.getD 4 false = false → Rdr wx B R A n c q8) ∧ Chg w8 wx R) := hII.2.2.2.2.2.2.2.2
            clear hII
            obtain rfl := K0.out (hall 0 (by decide))
            obtain rfl := K1.out (hall 1 (by decide))
            obtain ⟨y2, rfl⟩ := K2.out (hall 2 (by decide))
            obtain rfl := K3.out (hall 3 (by decide))
            obtain ⟨x, rfl, hRx⟩ := K4.out (hall 4 (by decide))
            obtain ⟨y5, rfl⟩ := K5.out (hall 5 (by decide))
            obtain ⟨y6, rfl⟩ := K6.out (hall 6 (by decide))
            obtain rfl := K7.out (hall 7 (by decide))
            clear hall K0 K1 K2 K3 K4 K5 K6 K7
            have hNx := hH8.out.chg hB.2 (by omega)
            have hgc := hNx.cell
            have hgf := hNx.frozen
            have hgl := hNx.lt
            refine wpOp_step rfl (fun K0 hK0 => ?_)
            go_simp
            refine hK0 _ _ ?_
            clear hK0
            have hHx := Lib.hid (hH8.out.chg hB.2 (by omega))
            have hOx := Lib.hid (hO8.out.chg hB.2 hlt)
            have hCx := Lib.hid (hC8.out.trans hB.2)
            have hRy := Lib.hid hRx
            have hzx := hCx.out.size
            clear hRx hgc hgf hgl hNx
            have hK9 : KeptBut wx (wx.setCell ⟨g0, 2, none⟩ (.int .i64 y6)) (fun i => i = g0) := KeptBut.put (S := fun i => i = g0) (p := ⟨g0, 2, none⟩) (KeptBut.refl wx (fun i => i = g0)) (fun _ => rfl) (.int .i64 y6)
            have hH9 := Lib.hid (hHx.out.put 2 (.int .i64 y6))
            have hO9 := Lib.hid (show Own (wx.setCell ⟨g0, 2, none⟩ (.int .i64 y6)) w.heap.size (.slice A' os.length c') os from owns_but hOx.out hK9 hneh.out)
            have hR9 := Lib.hid (hRy.out.but hK9 (by omega) (by omega) (by omega))
            have hC9 := Lib.hid (hCx.out.but hK9 hgw)
            clear hK9
            have hz9 := hC9.out.size
            have cs := hH9.out.cell
            have fs := hH9.out.frozen
            have gs := hH9.out.lt
            clear hHx hOx hRy hCx hH8 hO8 hR8 hC8 hB
            have hNew := Lib.hid (new_stmt (wx.setCell ⟨g0, 2, none⟩ (.int .i64 y6)) (⟨5, va, y6, 0, ra, rb, rc⟩ : St))
            have hO5 := Lib.hid (Own.alloc (hO9.out) (.cells #[.int .i64 5, .int .i64 va, .int .i64 y6, .int .i64 0, .int .i64 ra, .int .i64 rb, .int .i64 rc] 116))
            have hR5 := Lib.hid (Rdr.alloc (hR9.out) (by omega) (.cells #[.int .i64 5, .int .i64 va, .int .i64 y6, .int .i64 0, .int .i64 ra, .int .i64 rb, .int .i64 rc] 116))
            have hC5 := Lib.hid (Chg.alloc (hC9.out) (.cells #[.int .i64 5, .int .i64 va, .int .i64 y6, .int .i64 0, .int .i64 ra, .int .i64 rb, .int .i64 rc] 116))
            go_wp2_with (at_builtin; refine wpList_append_drawn rfl (.tmp 69) (.tmp 71) rfl B R A n c (q8 + 1) A' c' os rfl (by exact hO5.out) (by exact hR5.out) (by exact hC5.out) hlt hB (wx.setCell ⟨g0, 2, none⟩ (.int .i64 y6)).heap.size 1 1 [(⟨5, va, y6, 0, ra, rb, rc⟩ : St)] (by first | rfl | (simp [Act.eval])) rfl (by simpa using hNew.out) (by omega) ?_)
            intro A6 c6 w6 hO6 hR6 hC6
            have lO := Lib.hid hO6
            have lR := Lib.hid hR6
            have lC := Lib.hid hC6
            clear hO6 hR6 hC6 hO5 hR5 hC5 hNew
            have hln2 := Lib.hid (show 1 ≤ (os ++ [(⟨5, va, y6, 0, ra, rb, rc⟩ : St)]).length ∧ (os ++ [(⟨5, va, y6, 0, ra, rb, rc⟩ : St)]).length ≤ 4 by rw [List.length_append, hl0h.out]; show 1 ≤ j + 1 ∧ j + 1 ≤ 4; omega)
            have hl42 := hln2.out.2
            have hzl := lC.out.size
            clear hO9 hR9 hC9 hH9 cs fs gs
            have hle : os.length + 1 = (os ++ [(⟨5, va, y6, 0, ra, rb, rc⟩ : St)]).length := by rw [List.length_append]; rfl
            generalize hee : os ++ [(⟨5, va, y6, 0, ra, rb, rc⟩ : St)] = os2 at lO hln2 hl42 hle ⊢
            rw [hle] at lO
            simp only [hle]
            clear hee hle
            go_wp2_with fail
            refine (pick_any R A n c _ B _ _ lR.out (by omega) hn (by omega)).mono ?_
            rintro e wa ⟨va9, rfl, x0, x1, hra, hca⟩
            have hOa := Lib.hid (lO.out.chg hca hlt)
            have hCa := Lib.hid (lC.out.trans hca)
            have hRa := Lib.hid hra
            have hza := hCa.out.size
            clear hca hra
            by_cases hva : va9 = 0
            · have hvb : (va9 == (0 : Int)) = true := by simp [hva]
              clear hva
              go_wp2_with fail
              refine (l1Stmt_any R A n c _ B _ hRa.out (by omega) hn (by omega)).mono ?_
              rintro e wb ⟨k, a, b, d, u, v, x, pb, rfl, hpb, hrb, hcb⟩
              have hOb := Lib.hid (hOa.out.chg hcb hlt)
              have hCb := Lib.hid (hCa.out.trans hcb)
              have hRb := Lib.hid hrb
              have hzb := hCb.out.size
              clear hcb hrb
              have hNew := Lib.hid (new_stmt wb (⟨k, a, b, d, u, v, x⟩ : St))
              have hO5 := Lib.hid (Own.alloc (hOb.out) (.cells #[.int .i64 k, .int .i64 a, .int .i64 b, .int .i64 d, .int .i64 u, .int .i64 v, .int .i64 x] 116))
              have hR5 := Lib.hid (Rdr.alloc (hRb.out) (by omega) (.cells #[.int .i64 k, .int .i64 a, .int .i64 b, .int .i64 d, .int .i64 u, .int .i64 v, .int .i64 x] 116))
              have hC5 := Lib.hid (Chg.alloc (hCb.out) (.cells #[.int .i64 k, .int .i64 a, .int .i64 b, .int .i64 d, .int .i64 u, .int .i64 v, .int .i64 x] 116))
              go_wp2_with (at_builtin; refine wpList_append_drawn rfl (.tmp 76) (.tmp 79) rfl B R A n c pb A6 c6 os2 rfl (by exact hO5.out) (by exact hR5.out) (by exact hC5.out) hlt hB wb.heap.size 1 1 [(⟨k, a, b, d, u, v, x⟩ : St)] (by first | rfl | (simp [Act.eval])) rfl (by simpa using hNew.out) (by omega) ?_)
              intro A6 c6 w6 hO6 hR6 hC6
              have lO := Lib.hid hO6
              have lR := Lib.hid hR6
              have lC := Lib.hid hC6
              clear hO6 hR6 hC6 hO5 hR5 hC5 hNew
              go_wp2_with fail
              go_ret
              exact ⟨_, os2 ++ [(⟨k, a, b, d, u, v, x⟩ : St)], pb, rfl, lO.out, by rw [List.length_append]; show 1 ≤ _ + 1; omega, by rw [List.length_append]; have := hln2.out; show _ + 1 ≤ 10; omega, by omega, lR.out, lC.out⟩
            · have hvb : (va9 == (0 : Int)) = false := by simp [hva]
              clear hva
              go_wp2_with fail
              go_ret
              exact ⟨_, os2, q8 + 1 + 1, rfl, hOa.out, hln2.out.1, by have := hln2.out; omega, by omega, hRa.out, hCa.out⟩
        · have hvb : (v7 == (0 : Int)) = false := by simp [hv7]
          clear hv7
          have hNew := Lib.hid (new_stmt w7 (⟨4, va, 0, 0, ra, rb, rc⟩ : St))
          have hO5 := Lib.hid (Own.alloc (hO7.out) (.cells #[.int .i64 4, .int .i64 va, .int .i64 0, .int .i64 0, .int .i64 ra, .int .i64 rb, .int .i64 rc] 116))
          have hR5 := Lib.hid (Rdr.alloc (hR7.out) (by omega) (.cells #[.int .i64 4, .int .i64 va, .int .i64 0, .int .i64 0, .int .i64 ra, .int .i64 rb, .int .i64 rc] 116))
          have hC5 := Lib.hid (Chg.alloc (hC7.out) (.cells #[.int .i64 4, .int .i64 va, .int .i64 0, .int .i64 0, .int .i64 ra, .int .i64 rb, .int .i64 rc] 116))
          go_wp2_with (at_builtin; refine wpList_append_drawn rfl (.tmp 69) (.tmp 71) rfl B R A n c (p5 + 1) A' c' os rfl (by exact hO5.out) (by exact hR5.out) (by exact hC5.out) hlt hB w7.heap.size 1 1 [(⟨4, va, 0, 0, ra, rb, rc⟩ : St)] (by first | rfl | (simp [Act.eval])) rfl (by simpa using hNew.out) (by omega) ?_)
          intro A6 c6 w6 hO6 hR6 hC6
          have lO := Lib.hid hO6
          have lR := Lib.hid hR6
          have lC := Lib.hid hC6
          clear hO6 hR6 hC6 hO5 hR5 hC5 hNew
          have hln2 := Lib.hid (show 1 ≤ (os ++ [(⟨4, va, 0, 0, ra, rb, rc⟩ : St)]).length ∧ (os ++ [(⟨4, va, 0, 0, ra, rb, rc⟩ : St)]).length ≤ 4 by rw [List.length_append, hl0h.out]; show 1 ≤ j + 1 ∧ j + 1 ≤ 4; omega)
          have hl42 := hln2.out.2
          have hzl := lC.out.size
          clear hO7 hR7 hC7 hH7 cs fs gs
          have hle : os.length + 1 = (os ++ [(⟨4, va, 0, 0, ra, rb, rc⟩ : St)]).length := by rw [List.length_append]; rfl
          generalize hee : os ++ [(⟨4, va, 0, 0, ra, rb, rc⟩ : St)] = os2 at lO hln2 hl42 hle ⊢
          rw [hle] at lO
          simp only [hle]
          clear hee hle
          go_wp2_with fail
          refine (pick_any R A n c _ B _ _ lR.out (by omega) hn (by omega)).mono ?_
          rintro e wa ⟨va9, rfl, x0, x1, hra, hca⟩
          have hOa := Lib.hid (lO.out.chg hca hlt)
          have hCa := Lib.hid (lC.out.trans hca)
          have hRa := Lib.hid hra
          have hza := hCa.out.size
          clear hca hra
          by_cases hva : va9 = 0
          · have hvb : (va9 == (0 : Int)) = true := by simp [hva]
            clear hva
            go_wp2_with fail
            refine (l1Stmt_any R A n c _ B _ hRa.out (by omega) hn (by omega)).mono ?_
            rintro e wb ⟨k, a, b, d, u, v, x, pb, rfl, hpb, hrb, hcb⟩
            have hOb := Lib.hid (hOa.out.chg hcb hlt)
            have hCb := Lib.hid (hCa.out.trans hcb)
            have hRb := Lib.hid hrb
            have hzb := hCb.out.size
            clear hcb hrb
            have hNew := Lib.hid (new_stmt wb (⟨k, a, b, d, u, v, x⟩ : St))
            have hO5 := Lib.hid (Own.alloc (hOb.out) (.cells #[.int .i64 k, .int .i64 a, .int .i64 b, .int .i64 d, .int .i64 u, .int .i64 v, .int .i64 x] 116))
            have hR5 := Lib.hid (Rdr.alloc (hRb.out) (by omega) (.cells #[.int .i64 k, .int .i64 a, .int .i64 b, .int .i64 d, .int .i64 u, .int .i64 v, .int .i64 x] 116))
            have hC5 := Lib.hid (Chg.alloc (hCb.out) (.cells #[.int .i64 k, .int .i64 a, .int .i64 b, .int .i64 d, .int .i64 u, .int .i64 v, .int .i64 x] 116))
            go_wp2_with (at_builtin; refine wpList_append_drawn rfl (.tmp 76) (.tmp 79) rfl B R A n c pb A6 c6 os2 rfl (by exact hO5.out) (by exact hR5.out) (by exact hC5.out) hlt hB wb.heap.size 1 1 [(⟨k, a, b, d, u, v, x⟩ : St)] (by first | rfl | (simp [Act.eval])) rfl (by simpa using hNew.out) (by omega) ?_)
            intro A6 c6 w6 hO6 hR6 hC6
            have lO := Lib.hid hO6
            have lR := Lib.hid hR6
            have lC := Lib.hid hC6
            clear hO6 hR6 hC6 hO5 hR5 hC5 hNew
            go_wp2_with fail
            go_ret
            exact ⟨_, os2 ++ [(⟨k, a, b, d, u, v, x⟩ : St)], pb, rfl, lO.out, by rw [List.length_append]; show 1 ≤ _ + 1; omega, by rw [List.length_append]; have := hln2.out; show _ + 1 ≤ 10; omega, by omega, lR.out, lC.out⟩
          · have hvb : (va9 == (0 : Int)) = false := by simp [hva]
            clear hva
            go_wp2_with fail
            go_ret
            exact ⟨_, os2, p5 + 1 + 1, rfl, hOa.out, hln2.out.1, by have := hln2.out; omega, by omega, hRa.out, hCa.out⟩
      · skip
        go_wp2_with fail
        refine (pick_any R A n c _ B _ _ hR3.out (by omega) hn (by omega)).mono ?_
        rintro e wa ⟨va9, rfl, x0, x1, hra, hca⟩
        have hOa := Lib.hid (hO3.out.chg hca hlt)
        have hCa := Lib.hid (hC3.out.trans hca)
        have hRa := Lib.hid hra
        have hza := hCa.out.size
        clear hca hra
        by_cases hva : va9 = 0
        · have hvb : (va9 == (0 : Int)) = true := by simp [hva]
          clear hva
          go_wp2_with fail
          refine (l1Stmt_any R A n c _ B _ hRa.out (by omega) hn (by omega)).mono ?_
          rintro e wb ⟨k, a, b, d, u, v, x, pb, rfl, hpb, hrb, hcb⟩
          have hOb := Lib.hid (hOa.out.chg hcb hlt)
          have hCb := Lib.hid (hCa.out.trans hcb)
          have hRb := Lib.hid hrb
          have hzb := hCb.out.size
          clear hcb hrb
          have hNew := Lib.hid (new_stmt wb (⟨k, a, b, d, u, v, x⟩ : St))
          have hO5 := Lib.hid (Own.alloc (hOb.out) (.cells #[.int .i64 k, .int .i64 a, .int .i64 b, .int .i64 d, .int .i64 u, .int .i64 v, .int .i64 x] 116))
          have hR5 := Lib.hid (Rdr.alloc (hRb.out) (by omega) (.cells #[.int .i64 k, .int .i64 a, .int .i64 b, .int .i64 d, .int .i64 u, .int .i64 v, .int .i64 x] 116))
          have hC5 := Lib.hid (Chg.alloc (hCb.out) (.cells #[.int .i64 k, .int .i64 a, .int .i64 b, .int .i64 d, .int .i64 u, .int .i64 v, .int .i64 x] 116))
          go_wp2_with (at_builtin; refine wpList_append_drawn rfl (.tmp 76) (.tmp 79) rfl B R A n c pb A' c' os rfl (by exact hO5.out) (by exact hR5.out) (by exact hC5.out) hlt hB wb.heap.size 1 1 [(⟨k, a, b, d, u, v, x⟩ : St)] (by first | rfl | (simp [Act.eval])) rfl (by simpa using hNew.out) (by omega) ?_)
          intro A6 c6 w6 hO6 hR6 hC6
          have lO := Lib.hid hO6
          have lR := Lib.hid hR6
          have lC := Lib.hid hC6
          clear hO6 hR6 hC6 hO5 hR5 hC5 hNew
          go_wp2_with fail
          go_ret
          exact ⟨_, os ++ [(⟨k, a, b, d, u, v, x⟩ : St)], pb, rfl, lO.out, by rw [List.length_append]; show 1 ≤ _ + 1; omega, by rw [List.length_append]; have := hln.out; show _ + 1 ≤ 10; omega, by omega, lR.out, lC.out⟩
        · have hvb : (va9 == (0 : Int)) = false := by simp [hva]
          clear hva
          go_wp2_with fail
          go_ret
          exact ⟨_, os, p' + 1 + 1 + 1, rfl, hOa.out, hln.out.1, by have := hln.out; omega, by omega, hRa.out, hCa.out⟩
theorem DrawFactorsOf_any (A : Option Addr) (n c : Nat) (w : World) (h : Byt w w.heap.size A n) (hn : n ≤ c) (hc : c ≤ maxLen) :
    Calls Try.prog 59 #[.slice A n c] w (Anyd w) := by
  have hO := Lib.hid (l40Open_any A n c _ h hn hc)
  clear h hc
  go_enter Try.func59, Try.ntmps59
  go_wp2_with fail
  refine (hO.out).mono ?_
  rintro e w1 ⟨rfl, ⟨n', hn', hrd⟩, hb1⟩
  have hz1 : w.heap.size < w1.heap.size := hrd.lt
  clear hO
  go_wp2_with fail
  refine (l8Single_any w.heap.size A n' c 0 w.heap.size _ hrd (by omega) hn' (by omega)).mono ?_
  rintro e w2 ⟨v, os, p', rfl, hown, hl1, hl2, _, _, hc2⟩
  obtain ⟨A', c', hv, hlc, hcm⟩ := hown.form
  subst hv
  have hO1 := Lib.hid hown
  have hB := Lib.hid (hb1.trans (hc2.below (Nat.le_refl _) (by omega)))
  clear hown hrd hb1 hc2
  go_wp2
  go_ret
  exact ⟨_, os, rfl, owns_le hO1.out (by omega), by omega, hB.out⟩
end Go.Proofs.Ytghkpmafocacoaa
