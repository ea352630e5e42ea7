/- Parts of the proof: E2. -/
import Derived.Test.YtkggejmamhakaaaZAL
namespace Go.Proofs.Ytkggejmamhakaaa
set_option maxRecDepth 100000
set_option linter.unusedVariables false
open Go.RowKit
def Drwd (w : World) (B R : Nat) (A : Option Addr) (n c p : Nat) (e : Ending) (w' : World) : Prop :=
  ∃ (v : Value) (os : List St) (p' : Nat), e = .returned v ∧ Own w' w.heap.size v os ∧ os.length ≤ 20 ∧ p' ≤ p + 400 ∧ Rdr w' B R A n c p' ∧ Chg w w' R
set_option maxHeartbeats 8000000 in
theorem l6Draw_any (R : Nat) (A : Option Addr) (n c p B : Nat) (w : World) (h : Rdr w B R A n c p) (hp : p ≤ 700000) (hn : n ≤ 2000) (hB : B ≤ w.heap.size) :
    Calls Try.prog 39 #[.pointer (some ⟨R, 0, none⟩)] w (Drwd w B R A n c p) := by
  have hlt := h.lt
  go_enter Try.func39, Try.ntmps39
  go_wp2_with fail
  refine (l1Plain_any R A n c p B _ _ h (by omega) hn hB).mono ?_
  rintro e w1 ⟨v1, os, p1, rfl, hO0, hl0, hl1, hp1, hR0, hC0⟩
  obtain ⟨A', c', hv, _, _⟩ := hO0.form
  subst hv
  have hO1 := Lib.hid hO0
  have hR1 := Lib.hid hR0
  have hC1 := Lib.hid hC0
  have hz1 := hC0.size
  have hq1 := hR0.lt
  clear hO0 hR0 hC0 h
  go_wp2_with fail
  refine (pick_any R A n c _ B _ _ hR1.out (by omega) hn (by omega)).mono ?_
  rintro e w2 ⟨x2, rfl, x20, x21, hr, hc⟩
  have hO3 := Lib.hid (hO1.out.chg hc hlt)
  have hR3 := Lib.hid (hr)
  have hC3 := Lib.hid (hC1.out.trans hc)
  have hz3 := hC3.out.size
  have hq3 := hR3.out.lt
  clear hO1 hR1 hC1
  clear hr hc
  by_cases hxx2 : x2 = 0
  · subst hxx2
    go_wp2_with fail
    refine (pick_any R A n c _ B _ _ hR3.out (by omega) hn (by omega)).mono ?_
    rintro e w4 ⟨x4, rfl, x40, x41, hr, hc⟩
    have hO5 := Lib.hid (hO3.out.chg hc hlt)
    have hR5 := Lib.hid (hr)
    have hC5 := Lib.hid (hC3.out.trans hc)
    have hz5 := hC5.out.size
    have hq5 := hR5.out.lt
    clear hO3 hR3 hC3
    clear hr hc
    have hN6 := Lib.hid (show Nums (w4.alloc (.cells #[.int .i64 3, .int .i64 5] 3)) w4.heap.size 2 (fun _ => True) from fun i hi => by
      rw [(Has.new w4 3 #[.int .i64 3, .int .i64 5]).cell]
      obtain rfl | rfl : i = 0 ∨ i = 1 := by omega
      · exact ⟨_, rfl, trivial⟩
      · exact ⟨_, rfl, trivial⟩)
    have hj6 : w4.heap.size < (w4.alloc (.cells #[.int .i64 3, .int .i64 5] 3)).heap.size := by simp
    have hO7 := Lib.hid (hO5.out.alloc (.cells #[.int .i64 3, .int .i64 5] 3))
    have hR7 := Lib.hid (hR5.out.alloc (by omega) (.cells #[.int .i64 3, .int .i64 5] 3))
    have hC7 := Lib.hid (hC5.out.alloc (.cells #[.int .i64 3, .int .i64 5] 3))
    have hz7 := hC7.out.size
    have hq7 := hR7.out.lt
    clear hO5 hR5 hC5
    go_wp2_with fail
    refine (num_any R A n c _ B w4.heap.size 2 2 (fun _ => True) _ hR7.out (by omega) hn (by decide) (by decide) hj6 (by omega) hN6.out).mono ?_
    rintro e w6 ⟨x6, rfl, _, hr, hc⟩
    have hO8 := Lib.hid (hO7.out.chg hc hlt)
    have hR8 := Lib.hid (hr)
    have hC8 := Lib.hid (hC7.out.trans hc)
    have hz8 := hC8.out.size
    have hq8 := hR8.out.lt
    clear hO7 hR7 hC7
    clear hr hc
    clear hN6 hj6
    go_wp2_with fail
    refine (l1Row_any R A n c _ B _ hR8.out (by omega) hn (by omega)).mono ?_
    rintro e w9 ⟨a9, b9, d9, p9, rfl, hp9, hr, hc⟩
    have hO10 := Lib.hid (hO8.out.chg hc hlt)
    have hR10 := Lib.hid (hr)
    have hC10 := Lib.hid (hC8.out.trans hc)
    have hz10 := hC10.out.size
    have hq10 := hR10.out.lt
    clear hO8 hR8 hC8
    clear hr hc
    have hN11 := Lib.hid (new_flat w9 #[.int .i64 0, .int .i64 1, .int .i64 (-1), .int .i64 x4, .int .i64 0, .int .i64 0, .int .i64 0, .int .i64 x6, .int .i64 0, .int .i64 1, .int .i64 0, .int .i64 a9, .int .i64 b9, .int .i64 d9] [(⟨0, 1, -1, x4, 0, 0, 0⟩ : St), ⟨x6, 0, 1, 0, a9, b9, d9⟩] rfl)
    have hO12 := Lib.hid (hO10.out.alloc (.cells #[.int .i64 0, .int .i64 1, .int .i64 (-1), .int .i64 x4, .int .i64 0, .int .i64 0, .int .i64 0, .int .i64 x6, .int .i64 0, .int .i64 1, .int .i64 0, .int .i64 a9, .int .i64 b9, .int .i64 d9] 63))
    have hR12 := Lib.hid (hR10.out.alloc (by omega) (.cells #[.int .i64 0, .int .i64 1, .int .i64 (-1), .int .i64 x4, .int .i64 0, .int .i64 0, .int .i64 0, .int .i64 x6, .int .i64 0, .int .i64 1, .int .i64 0, .int .i64 a9, .int .i64 b9, .int .i64 d9] 63))
    have hC12 := Lib.hid (hC10.out.alloc (.cells #[.int .i64 0, .int .i64 1, .int .i64 (-1), .int .i64 x4, .int .i64 0, .int .i64 0, .int .i64 0, .int .i64 x6, .int .i64 0, .int .i64 1, .int .i64 0, .int .i64 a9, .int .i64 b9, .int .i64 d9] 63))
    have hz12 := hC12.out.size
    have hq12 := hR12.out.lt
    clear hO10 hR10 hC10
    go_wp2_with (at_builtin; refine wpList_append_drawn rfl (.tmp 9) (.tmp 19) rfl B R A n c _ A' c' os rfl (by exact hO12.out) (by exact hR12.out) (by exact hC12.out) hlt hB w9.heap.size 2 2 [(⟨0, 1, -1, x4, 0, 0, 0⟩ : St), ⟨x6, 0, 1, 0, a9, b9, d9⟩] (by first | rfl | (simp [Act.eval])) rfl (by simpa using hN11.out) (by omega) ?_)
    intro A13 c13 w13 hO hR hC
    have hl13 : (os ++ [(⟨0, 1, -1, x4, 0, 0, 0⟩ : St), ⟨x6, 0, 1, 0, a9, b9, d9⟩]).length = os.length + 2 := by rw [List.length_append]; rfl
    rw [← hl13]
    rw [← hl13] at hO
    generalize os ++ [(⟨0, 1, -1, x4, 0, 0, 0⟩ : St), ⟨x6, 0, 1, 0, a9, b9, d9⟩] = os13 at hO hl13 ⊢
    have hlb13 : os13.length ≤ 12 := by omega
    have hla13 : 1 ≤ os13.length := by omega
    clear hl13
    have hO14 := Lib.hid (hO)
    have hR14 := Lib.hid (hR)
    have hC14 := Lib.hid (hC)
    have hz14 := hC14.out.size
    have hq14 := hR14.out.lt
    clear hO12 hR12 hC12
    clear hO hR hC hN11
    go_wp2_with fail
    refine (pick_any R A n c _ B _ _ hR14.out (by omega) hn (by omega)).mono ?_
    rintro e w15 ⟨x15, rfl, x150, x151, hr, hc⟩
    have hO16 := Lib.hid (hO14.out.chg hc hlt)
    have hR16 := Lib.hid (hr)
    have hC16 := Lib.hid (hC14.out.trans hc)
    have hz16 := hC16.out.size
    have hq16 := hR16.out.lt
    clear hO14 hR14 hC14
    clear hr hc
    by_cases hxx15 : x15 = 0
    · subst hxx15
      have hN17 := Lib.hid (show Nums (w15.alloc (.cells #[.int .i64 2, .int .i64 4] 3)) w15.heap.size 2 (fun _ => True) from fun i hi => by
        rw [(Has.new w15 3 #[.int .i64 2, .int .i64 4]).cell]
        obtain rfl | rfl : i = 0 ∨ i = 1 := by omega
        · exact ⟨_, rfl, trivial⟩
        · exact ⟨_, rfl, trivial⟩)
      have hj17 : w15.heap.size < (w15.alloc (.cells #[.int .i64 2, .int .i64 4] 3)).heap.size := by simp
      have hO18 := Lib.hid (hO16.out.alloc (.cells #[.int .i64 2, .int .i64 4] 3))
      have hR18 := Lib.hid (hR16.out.alloc (by omega) (.cells #[.int .i64 2, .int .i64 4] 3))
      have hC18 := Lib.hid (hC16.out.alloc (.cells #[.int .i64 2, .int .i64 4] 3))
      have hz18 := hC18.out.size
      have hq18 := hR18.out.lt
      clear hO16 hR16 hC16
      go_wp2_with fail
      refine (num_any R A n c _ B w15.heap.size 2 2 (fun _ => True) _ hR18.out (by omega) hn (by decide) (by decide) hj17 (by omega) hN17.out).mono ?_
      rintro e w17 ⟨x17, rfl, _, hr, hc⟩
      have hO19 := Lib.hid (hO18.out.chg hc hlt)
      have hR19 := Lib.hid (hr)
      have hC19 := Lib.hid (hC18.out.trans hc)
      have hz19 := hC19.out.size
      have hq19 := hR19.out.lt
      clear hO18 hR18 hC18
      clear hr hc
      clear hN17 hj17
      go_wp2_with fail
      refine (pick_any R A n c _ B _ _ hR19.out (by omega) hn (by omega)).mono ?_
      rintro e w20 ⟨x20, rfl, x200, x201, hr, hc⟩
      have hO21 := Lib.hid (hO19.out.chg hc hlt)
      have hR21 := Lib.hid (hr)
      have hC21 := Lib.hid (hC19.out.trans hc)
      have hz21 := hC21.out.size
      have hq21 := hR21.out.lt
      clear hO19 hR19 hC19
      clear hr hc
      go_wp2_with fail
      refine (l1Row_any R A n c _ B _ hR21.out (by omega) hn (by omega)).mono ?_
      rintro e w22 ⟨a22, b22, d22, p22, rfl, hp22, hr, hc⟩
      have hO23 := Lib.hid (hO21.out.chg hc hlt)
      have hR23 := Lib.hid (hr)
      have hC23 := Lib.hid (hC21.out.trans hc)
      have hz23 := hC23.out.size
      have hq23 := hR23.out.lt
      clear hO21 hR21 hC21
      clear hr hc
      have hN24 := Lib.hid (new_flat w22 #[.int .i64 x17, .int .i64 0, .int .i64 0, .int .i64 0, .int .i64 1, .int .i64 2, .int .i64 x20, .int .i64 4, .int .i64 0, .int .i64 0, .int .i64 0, .int .i64 a22, .int .i64 b22, .int .i64 d22] [(⟨x17, 0, 0, 0, 1, 2, x20⟩ : St), ⟨4, 0, 0, 0, a22, b22, d22⟩] rfl)
      have hO25 := Lib.hid (hO23.out.alloc (.cells #[.int .i64 x17, .int .i64 0, .int .i64 0, .int .i64 0, .int .i64 1, .int .i64 2, .int .i64 x20, .int .i64 4, .int .i64 0, .int .i64 0, .int .i64 0, .int .i64 a22, .int .i64 b22, .int .i64 d22] 63))
      have hR25 := Lib.hid (hR23.out.alloc (by omega) (.cells #[.int .i64 x17, .int .i64 0, .int .i64 0, .int .i64 0, .int .i64 1, .int .i64 2, .int .i64 x20, .int .i64 4, .int .i64 0, .int .i64 0, .int .i64 0, .int .i64 a22, .int .i64 b22, .int .i64 d22] 63))
      have hC25 := Lib.hid (hC23.out.alloc (.cells #[.int .i64 x17, .int .i64 0, .int .i64 0, .int .i64 0, .int .i64 1, .int .i64 2, .int .i64 x20, .int .i64 4, .int .i64 0, .int .i64 0, .int .i64 0, .int .i64 a22, .int .i64 b22, .int .i64 d22] 63))
      have hz25 := hC25.out.size
      have hq25 := hR25.out.lt
      clear hO23 hR23 hC23
      go_wp2_with (at_builtin; refine wpList_append_drawn rfl (.tmp 24) (.tmp 35) rfl B R A n c _ A13 c13 os13 rfl (by exact hO25.out) (by exact hR25.out) (by exact hC25.out) hlt hB w22.heap.size 2 2 [(⟨x17, 0, 0, 0, 1, 2, x20⟩ : St), ⟨4, 0, 0, 0, a22, b22, d22⟩] (by first | rfl | (simp [Act.eval])) rfl (by simpa using hN24.out) (by omega) ?_)
      intro A26 c26 w26 hO hR hC
      have hl26 : (os13 ++ [(⟨x17, 0, 0, 0, 1, 2, x20⟩ : St), ⟨4, 0, 0, 0, a22, b22, d22⟩]).length = os13.length + 2 := by rw [List.length_append]; rfl
      rw [← hl26]
      rw [← hl26] at hO
      generalize os13 ++ [(⟨x17, 0, 0, 0, 1, 2, x20⟩ : St), ⟨4, 0, 0, 0, a22, b22, d22⟩] = os26 at hO hl26 ⊢
      have hlb26 : os26.length ≤ 14 := by omega
      have hla26 : 1 ≤ os26.length := by omega
      clear hl26
      have hO27 := Lib.hid (hO)
      have hR27 := Lib.hid (hR)
      have hC27 := Lib.hid (hC)
      have hz27 := hC27.out.size
      have hq27 := hR27.out.lt
      clear hO25 hR25 hC25
      clear hO hR hC hN24
      go_wp2_with fail
      refine (pick_any R A n c _ B _ _ hR27.out (by omega) hn (by omega)).mono ?_
      rintro e w28 ⟨x28, rfl, x280, x281, hr, hc⟩
      have hO29 := Lib.hid (hO27.out.chg hc hlt)
      have hR29 := Lib.hid (hr)
      have hC29 := Lib.hid (hC27.out.trans hc)
      have hz29 := hC29.out.size
      have hq29 := hR29.out.lt
      clear hO27 hR27 hC27
      clear hr hc
      by_cases hxx28 : x28 = 0
      · subst hxx28
        obtain ⟨g, cur, hA, hgb, hHas, hcs⟩ := own_has hO29.out (by omega)
        subst hA
        have hfz := hHas.frozen
        have hgl := hHas.lt
        have hg0 : (0 : Int) < (os26.length : Int) := by omega
        obtain ⟨u1, y1⟩ : ∃ u, w28.cell? ⟨g, 1, none⟩ = some u := by
          rw [hHas.cell]
          exact ⟨_, Array.getElem?_eq_getElem (by omega)⟩
        obtain ⟨qs, ql, qo⟩ := own_put hO29.out 1 (-1)
        have qr := hR29.out.new (q := ⟨g, 1, none⟩) (by show B ≤ g; omega) (by show R ≠ g; omega) (.int .i64 (-1))
        have qc := hC29.out.new (q := ⟨g, 1, none⟩) hgb (.int .i64 (-1))
        have kO := Lib.hid qo
        have kR := Lib.hid qr
        have kC := Lib.hid qc
        clear qo qr qc hHas hcs
        go_wp2_with fail
        go_ret
        exact ⟨_, qs, _, rfl, kO.out, by omega, by omega, kR.out, kC.out⟩
      · have hxx28b : (x28 == (0 : Int)) = false := by simp [hxx28]
        clear hxx28
        go_wp2_with fail
        go_ret
        exact ⟨_, os26, _, rfl, hO29.out, by omega, by omega, hR29.out, hC29.out⟩
    · have hxx15b : (x15 == (0 : Int)) = false := by simp [hxx15]
      clear hxx15
      go_wp2_with fail
      refine (pick_any R A n c _ B _ _ hR16.out (by omega) hn (by omega)).mono ?_
      rintro e w30 ⟨x30, rfl, x300, x301, hr, hc⟩
      have hO31 := Lib.hid (hO16.out.chg hc hlt)
      have hR31 := Lib.hid (hr)
      have hC31 := Lib.hid (hC16.out.trans hc)
      have hz31 := hC31.out.size
      have hq31 := hR31.out.lt
      clear hO16 hR16 hC16
      clear hr hc
      by_cases hxx30 : x30 = 0
      · subst hxx30
        obtain ⟨g, cur, hA, hgb, hHas, hcs⟩ := own_has hO31.out (by omega)
        subst hA
        have hfz := hHas.frozen
        have hgl := hHas.lt
        have hg0 : (0 : Int) < (os13.length : Int) := by omega
        obtain ⟨u1, y1⟩ : ∃ u, w30.cell? ⟨g, 1, none⟩ = some u := by
          rw [hHas.cell]
          exact ⟨_, Array.getElem?_eq_getElem (by omega)⟩
        obtain ⟨qs, ql, qo⟩ := own_put hO31.out 1 (-1)
        have qr := hR31.out.new (q := ⟨g, 1, none⟩) (by show B ≤ g; omega) (by show R ≠ g; omega) (.int .i64 (-1))
        have qc := hC31.out.new (q := ⟨g, 1, none⟩) hgb (.int .i64 (-1))
        have kO := Lib.hid qo
        have kR := Lib.hid qr
        have kC := Lib.hid qc
        clear qo qr qc hHas hcs
        go_wp2_with fail
        go_ret
        exact ⟨_, qs, _, rfl, kO.out, by omega, by omega, kR.out, kC.out⟩
      · have hxx30b : (x30 == (0 : Int)) = false := by simp [hxx30]
        clear hxx30
        go_wp2_with fail
        go_ret
        exact ⟨_, os13, _, rfl, hO31.out, by omega, by omega, hR31.out, hC31.out⟩
  · have hxx2b : (x2 == (0 : Int)) = false := by simp [hxx2]
    clear hxx2
    go_wp2_with fail
    refine (pick_any R A n c _ B _ _ hR3.out (by omega) hn (by omega)).mono ?_
    rintro e w32 ⟨x32, rfl, x320, x321, hr, hc⟩
    have hO33 := Lib.hid (hO3.out.chg hc hlt)
    have hR33 := Lib.hid (hr)
    have hC33 := Lib.hid (hC3.out.trans hc)
    have hz33 := hC33.out.size
    have hq33 := hR33.out.lt
    clear hO3 hR3 hC3
    clear hr hc
    by_cases hxx32 : x32 = 0
    · subst hxx32
      have hN34 := Lib.hid (show Nums (w32.alloc (.cells #[.int .i64 2, .int .i64 4] 3)) w32.heap.size 2 (fun _ => True) from fun i hi => by
        rw [(Has.new w32 3 #[.int .i64 2, .int .i64 4]).cell]
        obtain rfl | rfl : i = 0 ∨ i = 1 := by omega
        · exact ⟨_, rfl, trivial⟩
        · exact ⟨_, rfl, trivial⟩)
      have hj34 : w32.heap.size < (w32.alloc (.cells #[.int .i64 2, .int .i64 4] 3)).heap.size := by simp
      have hO35 := Lib.hid (hO33.out.alloc (.cells #[.int .i64 2, .int .i64 4] 3))
      have hR35 := Lib.hid (hR33.out.alloc (by omega) (.cells #[.int .i64 2, .int .i64 4] 3))
      have hC35 := Lib.hid (hC33.out.alloc (.cells #[.int .i64 2, .int .i64 4] 3))
      have hz35 := hC35.out.size
      have hq35 := hR35.out.lt
      clear hO33 hR33 hC33
      go_wp2_with fail
      refine (num_any R A n c _ B w32.heap.size 2 2 (fun _ => True) _ hR35.out (by omega) hn (by decide) (by decide) hj34 (by omega) hN34.out).mono ?_
      rintro e w34 ⟨x34, rfl, _, hr, hc⟩
      have hO36 := Lib.hid (hO35.out.chg hc hlt)
      have hR36 := Lib.hid (hr)
      have hC36 := Lib.hid (hC35.out.trans hc)
      have hz36 := hC36.out.size
      have hq36 := hR36.out.lt
      clear hO35 hR35 hC35
      clear hr hc
      clear hN34 hj34
      go_wp2_with fail
      refine (pick_any R A n c _ B _ _ hR36.out (by omega) hn (by omega)).mono ?_
      rintro e w37 ⟨x37, rfl, x370, x371, hr, hc⟩
      have hO38 := Lib.hid (hO36.out.chg hc hlt)
      have hR38 := Lib.hid (hr)
      have hC38 := Lib.hid (hC36.out.trans hc)
      have hz38 := hC38.out.size
      have hq38 := hR38.out.lt
      clear hO36 hR36 hC36
      clear hr hc
      go_wp2_with fail
      refine (l1Row_any R A n c _ B _ hR38.out (by omega) hn (by omega)).mono ?_
      rintro e w39 ⟨a39, b39, d39, p39, rfl, hp39, hr, hc⟩
      have hO40 := Lib.hid (hO38.out.chg hc hlt)
      have hR40 := Lib.hid (hr)
      have hC40 := Lib.hid (hC38.out.trans hc)
      have hz40 := hC40.out.size
      have hq40 := hR40.out.lt
      clear hO38 hR38 hC38
      clear hr hc
      have hN41 := Lib.hid (new_flat w39 #[.int .i64 x34, .int .i64 0, .int .i64 0, .int .i64 0, .int .i64 1, .int .i64 2, .int .i64 x37, .int .i64 4, .int .i64 0, .int .i64 0, .int .i64 0, .int .i64 a39, .int .i64 b39, .int .i64 d39] [(⟨x34, 0, 0, 0, 1, 2, x37⟩ : St), ⟨4, 0, 0, 0, a39, b39, d39⟩] rfl)
      have hO42 := Lib.hid (hO40.out.alloc (.cells #[.int .i64 x34, .int .i64 0, .int .i64 0, .int .i64 0, .int .i64 1, .int .i64 2, .int .i64 x37, .int .i64 4, .int .i64 0, .int .i64 0, .int .i64 0, .int .i64 a39, .int .i64 b39, .int .i64 d39] 63))
      have hR42 := Lib.hid (hR40.out.alloc (by omega) (.cells #[.int .i64 x34, .int .i64 0, .int .i64 0, .int .i64 0, .int .i64 1, .int .i64 2, .int .i64 x37, .int .i64 4, .int .i64 0, .int .i64 0, .int .i64 0, .int .i64 a39, .int .i64 b39, .int .i64 d39] 63))
      have hC42 := Lib.hid (hC40.out.alloc (.cells #[.int .i64 x34, .int .i64 0, .int .i64 0, .int .i64 0, .int .i64 1, .int .i64 2, .int .i64 x37, .int .i64 4, .int .i64 0, .int .i64 0, .int .i64 0, .int .i64 a39, .int .i64 b39, .int .i64 d39] 63))
      have hz42 := hC42.out.size
      have hq42 := hR42.out.lt
      clear hO40 hR40 hC40
      go_wp2_with (at_builtin; refine wpList_append_drawn rfl (.tmp 24) (.tmp 35) rfl B R A n c _ A' c' os rfl (by exact hO42.out) (by exact hR42.out) (by exact hC42.out) hlt hB w39.heap.size 2 2 [(⟨x34, 0, 0, 0, 1, 2, x37⟩ : St), ⟨4, 0, 0, 0, a39, b39, d39⟩] (by first | rfl | (simp [Act.eval])) rfl (by simpa using hN41.out) (by omega) ?_)
      intro A43 c43 w43 hO hR hC
      have hl43 : (os ++ [(⟨x34, 0, 0, 0, 1, 2, x37⟩ : St), ⟨4, 0, 0, 0, a39, b39, d39⟩]).length = os.length + 2 := by rw [List.length_append]; rfl
      rw [← hl43]
      rw [← hl43] at hO
      generalize os ++ [(⟨x34, 0, 0, 0, 1, 2, x37⟩ : St), ⟨4, 0, 0, 0, a39, b39, d39⟩] = os43 at hO hl43 ⊢
      have hlb43 : os43.length ≤ 12 := by omega
      have hla43 : 1 ≤ os43.length := by omega
      clear hl43
      have hO44 := Lib.hid (hO)
      have hR44 := Lib.hid (hR)
      have hC44 := Lib.hid (hC)
      have hz44 := hC44.out.size
      have hq44 := hR44.out.lt
      clear hO42 hR42 hC42
      clear hO hR hC hN41
      go_wp2_with fail
      refine (pick_any R A n c _ B _ _ hR44.out (by omega) hn (by omega)).mono ?_
      rintro e w45 ⟨x45, rfl, x450, x451, hr, hc⟩
      have hO46 := Lib.hid (hO44.out.chg hc hlt)
      have hR46 := Lib.hid (hr)
      have hC46 := Lib.hid (hC44.out.trans hc)
      have hz46 := hC46.out.size
      have hq46 := hR46.out.lt
      clear hO44 hR44 hC44
      clear hr hc
      by_cases hxx45 : x45 = 0
      · subst hxx45
        obtain ⟨g, cur, hA, hgb, hHas, hcs⟩ := own_has hO46.out (by omega)
        subst hA
        have hfz := hHas.frozen
        have hgl := hHas.lt
        have hg0 : (0 : Int) < (os43.length : Int) := by omega
        obtain ⟨u1, y1⟩ : ∃ u, w45.cell? ⟨g, 1, none⟩ = some u := by
          rw [hHas.cell]
          exact ⟨_, Array.getElem?_eq_getElem (by omega)⟩
        obtain ⟨qs, ql, qo⟩ := own_put hO46.out 1 (-1)
        have qr := hR46.out.new (q := ⟨g, 1, none⟩) (by show B ≤ g; omega) (by show R ≠ g; omega) (.int .i64 (-1))
        have qc := hC46.out.new (q := ⟨g, 1, none⟩) hgb (.int .i64 (-1))
        have kO := Lib.hid qo
        have kR := Lib.hid qr
        have kC := Lib.hid qc
        clear qo qr qc hHas hcs
        go_wp2_with fail
        go_ret
        exact ⟨_, qs, _, rfl, kO.out, by omega, by omega, kR.out, kC.out⟩
      · have hxx45b : (x45 == (0 : Int)) = false := by simp [hxx45]
        clear hxx45
        go_wp2_with fail
        go_ret
        exact ⟨_, os43, _, rfl, hO46.out, by omega, by omega, hR46.out, hC46.out⟩
    · have hxx32b : (x32 == (0 : Int)) = false := by simp [hxx32]
      clear hxx32
      go_wp2_with fail
      refine (pick_any R A n c _ B _ _ hR33.out (by omega) hn (by omega)).mono ?_
      rintro e w47 ⟨x47, rfl, x470, x471, hr, hc⟩
      have hO48 := Lib.hid (hO33.out.chg hc hlt)
      have hR48 := Lib.hid (hr)
      have hC48 := Lib.hid (hC33.out.trans hc)
      have hz48 := hC48.out.size
      have hq48 := hR48.out.lt
      clear hO33 hR33 hC33
      clear hr hc
      by_cases hxx47 : x47 = 0
      · subst hxx47
        obtain ⟨g, cur, hA, hgb, hHas, hcs⟩ := own_has hO48.out (by omega)
        subst hA
        have hfz := hHas.frozen
        have hgl := hHas.lt
        have hg0 : (0 : Int) < (os.length : Int) := by omega
        obtain ⟨u1, y1⟩ : ∃ u, w47.cell? ⟨g, 1, none⟩ = some u := by
          rw [hHas.cell]
          exact ⟨_, Array.getElem?_eq_getElem (by omega)⟩
        obtain ⟨qs, ql, qo⟩ := own_put hO48.out 1 (-1)
        have qr := hR48.out.new (q := ⟨g, 1, none⟩) (by show B ≤ g; omega) (by show R ≠ g; omega) (.int .i64 (-1))
        have qc := hC48.out.new (q := ⟨g, 1, none⟩) hgb (.int .i64 (-1))
        have kO := Lib.hid qo
        have kR := Lib.hid qr
        have kC := Lib.hid qc
        clear qo qr qc hHas hcs
        go_wp2_with fail
        go_ret
        exact ⟨_, qs, _, rfl, kO.out, by omega, by omega, kR.out, kC.out⟩
      · have hxx47b : (x47 == (0 : Int)) = false := by simp [hxx47]
        clear hxx47
        go_wp2_with fail
        go_ret
        exact ⟨_, os, _, rfl, hO48.out, by omega, by omega, hR48.out, hC48.out⟩
end Go.Proofs.Ytkggejmamhakaaa
