/- Drawn plain programs: the model's l1Plain, l6Draw and l6Case. -/
import Derived.Test.YtkibkmheomlafaaDr
import Derived.Test.YtkibkmheomlafaaNm
import Derived.Test.YtkibkmheomlafaaJJ
import Derived.Deep.MidRow
namespace Go.Proofs.Ytkibkmheomlafaa
set_option maxRecDepth 100000
set_option linter.unusedVariables false
open Go.RowKit

theorem Chg.but {a b c : World} {R g : Nat} (h : Chg a b R) (hk : KeptBut b c (fun i => i = g)) (hg : a.heap.size ≤ g) : Chg a c R :=
  ⟨hk.os.trans h.os, hk.tape.trans h.tape, hk.output.trans h.output, Nat.le_trans h.size hk.size,
    fun i hi hne => (hk.block i (Nat.lt_of_lt_of_le hi h.size) (fun e => by omega)).trans (h.block i hi hne)⟩
theorem Rdr.but {w w' : World} {B R g : Nat} {A : Option Addr} {n c p : Nat} (h : Rdr w B R A n c p) (hk : KeptBut w w' (fun i => i = g)) (hg : B ≤ g) (hR : R ≠ g) (hB : B ≤ w.heap.size) : Rdr w' B R A n c p :=
  ⟨(hk.block R h.lt hR).trans h.1, h.2.1, h.2.2.keep (hk.below (fun i hi e => by omega) hB)⟩
/-- A statement stored over another one. -/
def sput (w : World) (g : Nat) (s : St) : World := (((((((w.setCell ⟨g, 0, none⟩ (.int .i64 s.k)).setCell ⟨g, 1, none⟩ (.int .i64 s.a)).setCell ⟨g, 2, none⟩ (.int .i64 s.b)).setCell ⟨g, 3, none⟩ (.int .i64 s.c)).setCell ⟨g, 4, none⟩ (.int .i64 s.u)).setCell ⟨g, 5, none⟩ (.int .i64 s.v)).setCell ⟨g, 6, none⟩ (.int .i64 s.x))
def StC (s : St) : Array Value := #[.int .i64 s.k, .int .i64 s.a, .int .i64 s.b, .int .i64 s.c, .int .i64 s.u, .int .i64 s.v, .int .i64 s.x]
theorem sput_has {w : World} {g : Nat} {s0 s : St} (h : Has w g 65 (StC s0)) : Has (sput w g s) g 65 (StC s) := by
  have h7 := ((((((h.put 0 (.int .i64 s.k)).put 1 (.int .i64 s.a)).put 2 (.int .i64 s.b)).put 3 (.int .i64 s.c)).put 4 (.int .i64 s.u)).put 5 (.int .i64 s.v)).put 6 (.int .i64 s.x)
  rwa [show (((((((StC s0).setIfInBounds 0 (.int .i64 s.k)).setIfInBounds 1 (.int .i64 s.a)).setIfInBounds 2 (.int .i64 s.b)).setIfInBounds 3 (.int .i64 s.c)).setIfInBounds 4 (.int .i64 s.u)).setIfInBounds 5 (.int .i64 s.v)).setIfInBounds 6 (.int .i64 s.x) = StC s by simp [StC]] at h7
theorem sput_kept (w : World) (g : Nat) (s : St) : KeptBut w (sput w g s) (fun i => i = g) :=
  ((((((((KeptBut.refl w (fun i => i = g)).put (p := ⟨g, 0, none⟩) (fun _ => rfl) _).put (p := ⟨g, 1, none⟩) (fun _ => rfl) _).put (p := ⟨g, 2, none⟩) (fun _ => rfl) _).put (p := ⟨g, 3, none⟩) (fun _ => rfl) _).put (p := ⟨g, 4, none⟩) (fun _ => rfl) _).put (p := ⟨g, 5, none⟩) (fun _ => rfl) _).put (p := ⟨g, 6, none⟩) (fun _ => rfl) _)

theorem sput_cells (w : World) (g : Nat) (s : St) : w.setCells g 0 (StC s).toList = sput w g s := rfl
/-- A statement stored over another one, the world behind it unnamed. -/
theorem wpList_store_st {ops : Array Oper} {rest : List Oper} {op : Oper} {a : Act} {w : World} {Q : Exit → Act → World → Prop} (hgd : op.guard = none) (x y : Operand) (ho : op.op = .store 65 x y)
    (g : Nat) (s0 s : St) (hx : a.eval x = .pointer (some ⟨g, 0, none⟩)) (hy : a.eval y = .agg (StC s)) (hH : Has w g 65 (StC s0))
    (h : ∀ w', Has w' g 65 (StC s) → KeptBut w w' (fun i => i = g) → wpList Try.prog ops Q rest (a.put op.dst undef) w') : wpList Try.prog ops Q (op :: rest) a w := by
  refine wpList_store_mid hgd 65 x y ho g 0 (StC s) hx hy (fun j hj => ?_) (by kernel_rfl) (all_oneCell_toArray (cs := s.cells) (fun v hv => flat_one [s] v (by simpa [flat] using hv))) ?_
  · rw [hH.cell, hH.frozen]
    have hj7 : 0 + j < (StC s0).size := by show 0 + j < 7; have : j < 7 := hj; omega
    rw [Array.getElem?_eq_getElem hj7]
    exact ⟨rfl, rfl⟩
  · rw [sput_cells]
    exact h _ (sput_has hH) (sput_kept w g s)
/-- append of new statements onto what is drawn. -/
theorem wpList_append_drawn {w0 w : World} {ops : Array Oper} {rest : List Oper} {o : Oper} {a : Act} {Q : Exit → Act → World → Prop} (hgd : o.guard = none) (s x : Operand)
    (ho : o.op = .call { callee := .builtin .append, args := #[s, x], argTypes := #[23, 23] })
    (B R : Nat) (A : Option Addr) (n c p : Nat) (A' : Option Addr) (c' : Nat) (os : List St) (hs : a.eval s = .slice A' os.length c') (hO : Own w w0.heap.size (.slice A' os.length c') os) (hR : Rdr w B R A n c p) (hC : Chg w0 w R)
    (hRl : R < w0.heap.size) (hBl : B ≤ w0.heap.size) (g m m' : Nat) (qs : List St) (hx : a.eval x = .slice (some ⟨g, 0, none⟩) m m') (hm : qs.length = m)
    (hnew : ∀ j u, (flat qs)[j]? = some u → w.cell? ((⟨g, 0, none⟩ : Addr).add j) = some u) (h63 : os.length + m ≤ 1000)
    (h : ∀ A5 c5 w', Own w' w0.heap.size (.slice A5 (os.length + m) c5) (os ++ qs) → Rdr w' B R A n c p → Chg w0 w' R → wpList Try.prog ops Q rest (a.put o.dst (.slice A5 (os.length + m) c5)) w') :
    wpList Try.prog ops Q (o :: rest) a w := by
  obtain ⟨i0, hi0, hz0, hz1', hz2'⟩ := info_parts info_stmt
  have hz := hC.size
  refine wpList_append_own _ hgd s x _ ho w0.heap.size 65 i0 _ 7 56 Try.underlying23 hi0 hz0 hz1' hz2' rfl (by decide) (.slice A' os.length c') _ _ hs hO ⟨g, 0, none⟩ m m' (flat qs) hx (by rw [flat_length, hm]) hnew (flat_one _) (by unfold maxLen; omega) (by omega) hz (fun v' w' hown' hgrow _ => ?_)
  have hrow : ∀ k, (Value.slice A' os.length c').ownBlock = some k → w0.heap.size ≤ k := fun k hk => (World.ownsRow.lt hO k hk).1
  have hown2 : w'.ownsRow w0.heap.size 65 7 v' (os.length + qs.length) (flat os ++ flat qs) := by rw [hm]; exact hown'
  have h1 := (hO.append_ (w0 := w) (news := qs) hown2 hgrow ((Below.refl _ _).mono hz) hz).1
  obtain ⟨A5, c5, hv, _, _⟩ := h1.form
  have hl : (os ++ qs).length = os.length + m := by rw [List.length_append, hm]
  rw [hl] at hv
  subst hv
  exact h A5 c5 w' h1 (hR.grown hgrow (fun k hk => by have := hrow k hk; omega) (by omega)) (hC.grown hgrow hrow)

set_option maxHeartbeats 4000000 in
theorem l1Plain_any (R : Nat) (A : Option Addr) (n c p B : Nat) (m : Int) (w : World) (h : Rdr w B R A n c p) (hp : p ≤ 800000) (hn : n ≤ 2000) (hB : B ≤ w.heap.size) :
    Calls Try.prog 92 #[.pointer (some ⟨R, 0, none⟩), .int .i64 m] w (Prgd w B R A n c p) := by
  have hlt := h.lt
  have hown0 : Own (w.alloc (.cells #[] 65)) w.heap.size (.slice (some ⟨w.heap.size, 0, none⟩) 0 0) [] := World.ownsRow_made w #[] 0 (Nat.le_refl _) (by simp [maxLen]) rfl
  have hOwn0 := Lib.hid hown0
  clear hown0
  go_enter Try.func92, Try.ntmps92
  go_wp2_with fail
  refine (pick_any R A n c p B _ _ (h.alloc hB _) (by omega) hn (by omega)).mono ?_
  rintro e w1 ⟨v1, rfl, a0, a1, hr1, hc1⟩
  have hO1 := Lib.hid (hOwn0.out.chg hc1 hlt)
  have hC1 := Lib.hid (((Chg.refl w R).alloc (.cells #[] 65)).trans hc1)
  have hR1 := Lib.hid hr1
  clear hc1 h hOwn0 hr1
  obtain ⟨q1, rfl⟩ : ∃ q : Nat, v1 = q := ⟨v1.toNat, by omega⟩
  go_wp2_with fail
  go_loopg [5, 6, 7] (q1 + 1) (fun gn l y i wr => ∃ (j : Nat) (os : List St) (many : Int) (p' : Nat), j ≤ 6 ∧ gn = j ∧ i = .int .i64 (j : Int) ∧ y = .int .i64 many ∧ 0 ≤ many ∧ many + j ≤ 6 ∧ os.length + j ≤ 6 ∧ 1 ≤ os.length + j ∧ p' + 20 * j ≤ p + 130 ∧ Own wr w.heap.size l os ∧ Rdr wr B R A n c p' ∧ Chg w wr R)
  case atStart => exact ⟨q1 + 1, [], 0, p + 1, by omega, rfl, by go_num, rfl, by omega, by omega, by simp; omega, by simp, by omega, hO1.out, hR1.out, hC1.out⟩
  case round =>
    clear hO1 hR1 hC1
    obtain ⟨j, os, many, p', hj, hgn, rfl, rfl, hy0, hy1, hl0, hl1, hpp, hown, hr, hC⟩ := hrel
    have hgk : gk = j := hgn
    obtain ⟨A', c', hv, hlc, hcm⟩ := hown.form
    subst hv
    have hz := hC.size
    have hOw := Lib.hid hown
    have hRw := Lib.hid hr
    have hCw := Lib.hid hC
    clear hgn hown hr hC
    by_cases hj0 : 0 < j
    · go_wp2_with fail
      refine (l1Stmt_any R A n c p' B _ hRw.out (by omega) hn (by omega)).mono ?_
      rintro e w2 ⟨k, a, b, d, u, v, x, p2, rfl, hp2, hr2, hc2⟩
      have hO2 := hOw.out.chg hc2 hlt
      have hC2 := hCw.out.trans hc2
      have hz2 := hC2.size
      have hlt2 := hr2.lt
      have hne2 : ∀ k, (Value.slice A' os.length c').ownBlock = some k → k ≠ w2.heap.size := fun k hk e => by have := (World.ownsRow.lt hO2 k hk).2; omega
      have hH3 := Lib.hid (Has.new w2 65 (StC ⟨k, a, b, d, u, v, x⟩))
      have hO3 := Lib.hid (hO2.alloc (.cells (StC ⟨k, a, b, d, u, v, x⟩) 65))
      have hR3 := Lib.hid (hr2.alloc (by omega) (.cells (StC ⟨k, a, b, d, u, v, x⟩) 65))
      have hC3 := Lib.hid (hC2.alloc (.cells (StC ⟨k, a, b, d, u, v, x⟩) 65))
      clear hc2 hr2 hO2 hC2 hOw hRw hCw
      have hneh := Lib.hid hne2
      clear hne2
      go_wp2_with fail
      simp only [StC] at hH3 hO3 hR3 hC3
      generalize w2.alloc (.cells #[.int .i64 k, .int .i64 a, .int .i64 b, .int .i64 d, .int .i64 u, .int .i64 v, .int .i64 x] 65) = W2 at hH3 hO3 hR3 hC3 ⊢
      generalize hg0 : w2.heap.size = g0 at hH3 hneh ⊢
      have hgw : w.heap.size ≤ g0 := by omega
      have hgR : R < g0 := by omega
      clear hg0
      obtain ⟨gq, hgq⟩ : ∃ z, z = gk := ⟨_, rfl⟩
      obtain ⟨wq, rfl⟩ : ∃ z, z = wr := ⟨_, rfl⟩
      go_loopg [] 1 (fun gn wz => ∃ (s : St), gn ≤ 1 ∧ (gn = 0 → s.k ≠ 6) ∧ Has wz g0 65 (StC s) ∧ Own wz w.heap.size (.slice A' os.length c') os ∧ Rdr wz B R A n c p2 ∧ Chg w wz R)
      case atStart => exact ⟨⟨k, a, b, d, u, v, x⟩, Nat.le_refl _, fun h => by omega, hH3.out, hO3.out, hR3.out, hC3.out⟩
      case round =>
        clear hH3 hO3 hR3 hC3
        obtain ⟨s, hg1, hg2, hH, hO, hRd, hCd⟩ := hrel
        have hz4 := hCd.size
        have cs := hH.cell
        have fs := hH.frozen
        have gs := hH.lt
        have hHh := Lib.hid hH
        have hOh := Lib.hid hO
        have hRh := Lib.hid hRd
        have hCh := Lib.hid hCd
        simp only [StC] at cs
        clear hH hO hRd hCd
        by_cases h6 : s.k = 6
        · have h61 : (s.k == (6 : Int)) = true := by simp [h6]
          have hgk1 : gk = 1 := by
            by_cases h0 : gk = 0
            · exact absurd h6 (hg2 h0)
            · omega
          clear h6 hg2
          have hK := sput_kept wr g0 ⟨0, s.a, wrap64 (s.c - 1), 1, 0, 0, 0⟩
          have kH := Lib.hid (sput_has (s := ⟨0, s.a, wrap64 (s.c - 1), 1, 0, 0, 0⟩) hHh.out)
          have kO := Lib.hid (show Own _ w.heap.size (.slice A' os.length c') os from owns_but hOh.out hK hneh.out)
          have kR := Lib.hid (hRh.out.but hK (by omega) (by omega) (by omega))
          have kC := Lib.hid (hCh.out.but hK hgw)
          clear hHh hOh hRh hCh hK
          go_wp2_with fail
          go_roundg 0
          case measure => omega
          case rel => exact ⟨⟨0, s.a, wrap64 (s.c - 1), 1, 0, 0, 0⟩, by omega, fun _ => by simp, kH.out, kO.out, kR.out, kC.out⟩
        · have h61 : (s.k == (6 : Int)) = false := by simp [h6]
          clear h6 hg2 hg1
          by_cases hk2 : s.k = 2 ∨ s.k = 3
          · have hkd : ((s.k == (2 : Int)) = true) ∨ ((s.k == (2 : Int)) = false ∧ (s.k == (3 : Int)) = true) := by rcases hk2 with h | h <;> simp [h]
            clear hk2
            by_cases hmm : many = m
            · have hmm' : (many == m) = true := by simp [hmm]
              clear hmm
              rcases hkd with hka | ⟨hka, hkb⟩
              all_goals
                go_wp2_with fail
                refine (l1Row_any R A n c _ B _ hRh.out (by omega) hn (by omega)).mono ?_
                rintro e w9 ⟨ra, rb, rc, p9, rfl, hp9, hr9, hc9⟩
                have hz9 := hc9.size
                have hH9 := hHh.out.chg hc9 (by omega)
                have cs9 := hH9.cell
                have fs9 := hH9.frozen
                have gs9 := hH9.lt
                simp only [StC] at cs9
                clear cs fs gs
                have hHh9 := Lib.hid hH9
                have hO9 := Lib.hid (hOh.out.chg hc9 hlt)
                have hC9 := Lib.hid (hCh.out.trans hc9)
                have hR9 := Lib.hid hr9
                clear hc9 hr9 hH9 hHh hOh hRh hCh cs9
                go_wp2_with (refine wpList_store_st rfl (.tmp 8) (.tmp 41) rfl g0 s ⟨4, 0, 0, 0, ra, rb, rc⟩ (by rfl) (by rfl) hHh9.out ?_)
                intro WF hHF hK
                have kH := Lib.hid hHF
                have kO := Lib.hid (show Own WF w.heap.size (.slice A' os.length c') os from owns_but hO9.out hK hneh.out)
                have kR := Lib.hid (hR9.out.but hK (by omega) (by omega) (by omega))
                have kC := Lib.hid (hC9.out.but hK hgw)
                have gsF := hHF.lt
                clear hHF hK hHh9 hO9 hC9 hR9 fs9 gs9
                have cs := kH.out.cell
                simp only [StC] at cs
                have hzF := kC.out.size
                have hNew := Lib.hid (new_stmt WF (⟨4, 0, 0, 0, ra, rb, rc⟩ : St))
                have hO5 := Lib.hid (Own.alloc (kO.out) (.cells #[.int .i64 4, .int .i64 0, .int .i64 0, .int .i64 0, .int .i64 ra, .int .i64 rb, .int .i64 rc] 65))
                have hR5 := Lib.hid (Rdr.alloc (kR.out) (by omega) (.cells #[.int .i64 4, .int .i64 0, .int .i64 0, .int .i64 0, .int .i64 ra, .int .i64 rb, .int .i64 rc] 65))
                have hC5 := Lib.hid (Chg.alloc (kC.out) (.cells #[.int .i64 4, .int .i64 0, .int .i64 0, .int .i64 0, .int .i64 ra, .int .i64 rb, .int .i64 rc] 65))
                go_wp2_with (at_builtin; refine wpList_append_drawn rfl (.tmp 44) (.tmp 46) rfl B R A n c p9 A' c' os rfl (by exact hO5.out) (by exact hR5.out) (by exact hC5.out) hlt hB WF.heap.size 1 1 [(⟨4, 0, 0, 0, ra, rb, rc⟩ : St)] (by first | rfl | (simp [Act.eval])) rfl (by simpa using hNew.out) (by omega) ?_)
                intro A6 c6 w6 hO6 hR6 hC6
                have lO := Lib.hid hO6
                have lR := Lib.hid hR6
                have lC := Lib.hid hC6
                clear hO6 hR6 hC6 hO5 hR5 hC5 hNew
                go_wp2_with fail
                go_roundg (j - 1)
                case measure => omega
                case rel => exact ⟨j - 1, os ++ [(⟨4, 0, 0, 0, ra, rb, rc⟩ : St)], many + 1, p9, by omega, rfl, by first | go_num | exact congrArg (Value.int .i64) (by omega), rfl, by omega, by omega, by rw [List.length_append]; show os.length + 1 + (j - 1) ≤ 6; omega, by rw [List.length_append]; show 1 ≤ os.length + 1 + (j - 1); omega, by omega, lO.out, lR.out, lC.out⟩
            · have hmm' : (many == m) = false := by simp [hmm]
              clear hmm
              rcases hkd with hka | ⟨hka, hkb⟩
              all_goals
                have hNew := Lib.hid (new_stmt wr (s : St))
                have hO5 := Lib.hid (Own.alloc (hOh.out) (.cells #[.int .i64 s.k, .int .i64 s.a, .int .i64 s.b, .int .i64 s.c, .int .i64 s.u, .int .i64 s.v, .int .i64 s.x] 65))
                have hR5 := Lib.hid (Rdr.alloc (hRh.out) (by omega) (.cells #[.int .i64 s.k, .int .i64 s.a, .int .i64 s.b, .int .i64 s.c, .int .i64 s.u, .int .i64 s.v, .int .i64 s.x] 65))
                have hC5 := Lib.hid (Chg.alloc (hCh.out) (.cells #[.int .i64 s.k, .int .i64 s.a, .int .i64 s.b, .int .i64 s.c, .int .i64 s.u, .int .i64 s.v, .int .i64 s.x] 65))
                go_wp2_with (at_builtin; refine wpList_append_drawn rfl (.tmp 44) (.tmp 46) rfl B R A n c p2 A' c' os rfl (by exact hO5.out) (by exact hR5.out) (by exact hC5.out) hlt hB wr.heap.size 1 1 [(s : St)] (by first | rfl | (simp [Act.eval])) rfl (by simpa using hNew.out) (by omega) ?_)
                intro A6 c6 w6 hO6 hR6 hC6
                have lO := Lib.hid hO6
                have lR := Lib.hid hR6
                have lC := Lib.hid hC6
                clear hO6 hR6 hC6 hO5 hR5 hC5 hNew
                go_wp2_with fail
                go_roundg (j - 1)
                case measure => omega
                case rel => exact ⟨j - 1, os ++ [(s : St)], many + 1, p2, by omega, rfl, by first | go_num | exact congrArg (Value.int .i64) (by omega), rfl, by omega, by omega, by rw [List.length_append]; show os.length + 1 + (j - 1) ≤ 6; omega, by rw [List.length_append]; show 1 ≤ os.length + 1 + (j - 1); omega, by omega, lO.out, lR.out, lC.out⟩
          · have hka : (s.k == (2 : Int)) = false := by simp; omega
            have hkb : (s.k == (3 : Int)) = false := by simp; omega
            clear hk2
            have hNew := Lib.hid (new_stmt wr (s : St))
            have hO5 := Lib.hid (Own.alloc (hOh.out) (.cells #[.int .i64 s.k, .int .i64 s.a, .int .i64 s.b, .int .i64 s.c, .int .i64 s.u, .int .i64 s.v, .int .i64 s.x] 65))
            have hR5 := Lib.hid (Rdr.alloc (hRh.out) (by omega) (.cells #[.int .i64 s.k, .int .i64 s.a, .int .i64 s.b, .int .i64 s.c, .int .i64 s.u, .int .i64 s.v, .int .i64 s.x] 65))
            have hC5 := Lib.hid (Chg.alloc (hCh.out) (.cells #[.int .i64 s.k, .int .i64 s.a, .int .i64 s.b, .int .i64 s.c, .int .i64 s.u, .int .i64 s.v, .int .i64 s.x] 65))
            go_wp2_with (at_builtin; refine wpList_append_drawn rfl (.tmp 44) (.tmp 46) rfl B R A n c p2 A' c' os rfl (by exact hO5.out) (by exact hR5.out) (by exact hC5.out) hlt hB wr.heap.size 1 1 [(s : St)] (by first | rfl | (simp [Act.eval])) rfl (by simpa using hNew.out) (by omega) ?_)
            intro A6 c6 w6 hO6 hR6 hC6
            have lO := Lib.hid hO6
            have lR := Lib.hid hR6
            have lC := Lib.hid hC6
            clear hO6 hR6 hC6 hO5 hR5 hC5 hNew
            go_wp2_with fail
            go_roundg (j - 1)
            case measure => omega
            case rel => exact ⟨j - 1, os ++ [(s : St)], many, p2, by omega, rfl, by first | go_num | exact congrArg (Value.int .i64) (by omega), rfl, by omega, by omega, by rw [List.length_append]; show os.length + 1 + (j - 1) ≤ 6; omega, by rw [List.length_append]; show 1 ≤ os.length + 1 + (j - 1); omega, by omega, lO.out, lR.out, lC.out⟩
    · obtain rfl : j = 0 := by omega
      go_wp2_with fail
      go_ret
      exact ⟨_, os, p', rfl, hOw.out, by omega, by omega, by omega, hRw.out, hCw.out⟩
end Go.Proofs.Ytkibkmheomlafaa
