/- Drawn arguments of chapter 1 that are statements and numbers. -/
import Derived.Test.YtodchhakbljncaaRdS
namespace Go.Proofs.Ytodchhakbljncaa
open Go.RowKit

theorem Byt.more {w : World} {B B' : Nat} {A : Option Addr} {n : Nat} (h : Byt w B A n) (hB : B ≤ B') : Byt w B' A n := fun hn => by
  obtain ⟨g, off, e, hg, hc⟩ := h hn
  exact ⟨g, off, e, by omega, hc⟩

def StD (w : World) (e : Ending) (w' : World) : Prop :=
  ∃ (k a b d u v x : Int), e = .returned (.agg #[.int .i64 k, .int .i64 a, .int .i64 b, .int .i64 d, .int .i64 u, .int .i64 v, .int .i64 x]) ∧ Below w.heap.size w w'

set_option maxHeartbeats 4000000 in
theorem DrawStmtOk_any (A : Option Addr) (n c : Nat) (w : World) (h : Byt w w.heap.size A n) (hn : n ≤ c) (hc : c ≤ maxLen) :
    Calls Try.prog 51 #[.slice A n c] w (StD w) := by
  have h1 : Byt (w.alloc (.cells #[.int .i64 0, .int .i64 0, .int .i64 0, .int .i64 0, .int .i64 0, .int .i64 0, .int .i64 0] 32)) (w.alloc (.cells #[.int .i64 0, .int .i64 0, .int .i64 0, .int .i64 0, .int .i64 0, .int .i64 0, .int .i64 0] 32)).heap.size A n := (h.keep ((Below.refl _ _).alloc (Nat.le_refl _) _)).more (by simp)
  have hO := Lib.hid (l40Open_any A n c _ h1 hn hc)
  clear h1 h hc
  go_enter Try.func51, Try.ntmps51
  go_wp2_with fail
  refine (hO.out).mono ?_
  rintro e w1 ⟨rfl, ⟨n', hn', hrd⟩, hb1⟩
  have hres := (Has.new w 32 #[.int .i64 0, .int .i64 0, .int .i64 0, .int .i64 0, .int .i64 0, .int .i64 0, .int .i64 0]).kept hb1
  have hbw : Below w.heap.size w w1 := ((Below.refl _ _).alloc (Nat.le_refl _) _).trans (hb1.mono (by simp))
  have hz1 : w.heap.size + 1 < w1.heap.size := by have := hrd.lt; simpa using this
  have hRe : (w.alloc (.cells #[.int .i64 0, .int .i64 0, .int .i64 0, .int .i64 0, .int .i64 0, .int .i64 0, .int .i64 0] 32)).heap.size = w.heap.size + 1 := by simp
  rw [hRe] at hrd
  clear hb1 hO hRe
  go_wp2_with fail
  refine (l1Stmt_any (w.heap.size + 1) A n' c 0 (w.heap.size + 1) _ hrd (by omega) hn' (by omega)).mono ?_
  rintro e w2 ⟨k, a, b, d, u, v, x, p2, rfl, hp2, hrd2, hc2⟩
  replace hres := hres.chg hc2 (by omega)
  replace hbw := hbw.trans (hc2.below (B := w.heap.size) (by omega) (by omega))
  have hz2 := hc2.size
  clear hrd hc2
  have ho := Has.new w2 32 #[.int .i64 k, .int .i64 a, .int .i64 b, .int .i64 d, .int .i64 u, .int .i64 v, .int .i64 x]
  have hrd := hrd2.alloc (by omega) (.cells #[.int .i64 k, .int .i64 a, .int .i64 b, .int .i64 d, .int .i64 u, .int .i64 v, .int .i64 x] 32)
  replace hres := hres.alloc (.cells #[.int .i64 k, .int .i64 a, .int .i64 b, .int .i64 d, .int .i64 u, .int .i64 v, .int .i64 x] 32)
  replace hbw := hbw.alloc (by omega) (.cells #[.int .i64 k, .int .i64 a, .int .i64 b, .int .i64 d, .int .i64 u, .int .i64 v, .int .i64 x] 32)
  clear hrd2
  go_wp2_with fail
  refine (pick_any (w.heap.size + 1) A n' c p2 (w.heap.size + 1) _ _ hrd (by omega) hn' (by omega)).mono ?_
  rintro e w3 ⟨m, rfl, m0, m1, hrd3, hc3⟩
  replace ho := ho.chg hc3 (by omega)
  replace hres := hres.chg hc3 (by omega)
  replace hbw := hbw.trans (hc3.below (B := w.heap.size) (by omega) (by simp; omega))
  have hz3 : w2.heap.size + 1 ≤ w3.heap.size := by have := hc3.size; simpa using this
  clear hrd hc3
  obtain rfl | rfl | rfl | hm : m = 0 ∨ m = 1 ∨ m = 2 ∨ 2 < m := by omega
  · go_wp2_with fail
    refine (pick_any (w.heap.size + 1) A n' c _ (w.heap.size + 1) _ _ hrd3 (by omega) hn' (by omega)).mono ?_
    rintro e w4 ⟨y, rfl, y0, y1, hrd4, hcq⟩
    have hz4 := hcq.size
    replace ho := ho.chg hcq (by omega)
    replace hres := hres.chg hcq (by omega)
    replace hbw := hbw.trans (hcq.below (B := w.heap.size) (by omega) (by have h9 := hz3; simp; omega))
    clear hcq
    have co := ho.cell
    have fo := ho.frozen
    replace ho := ho.put 0 (.int .i64 (y - 1))
    replace hbw := hbw.setCell (p := ⟨w2.heap.size, 0, none⟩) (by simp; omega) (.int .i64 (y - 1))
    replace hres := hres.far (p := ⟨w2.heap.size, 0, none⟩) (by simp; omega) (.int .i64 (y - 1))
    have co := ho.cell
    have cr := hres.cell
    have fr := hres.frozen
    go_wp2
    refine bodyPost_ret (v := .agg #[.int .i64 (y - 1), .int .i64 (a), .int .i64 (b), .int .i64 (d), .int .i64 (u), .int .i64 (v), .int .i64 (x)]) (by simp [results, Try.results51, go_sem, cr]) rfl ⟨_, _, _, _, _, _, _, rfl, ?_⟩
    iterate 7 (refine Below.setCell ?_ (by simp) _)
    exact hbw
  · go_wp2_with fail
    refine (pick_any (w.heap.size + 1) A n' c _ (w.heap.size + 1) _ _ hrd3 (by omega) hn' (by omega)).mono ?_
    rintro e w4 ⟨y, rfl, y0, y1, hrd4, hcq⟩
    have hz4 := hcq.size
    replace ho := ho.chg hcq (by omega)
    replace hres := hres.chg hcq (by omega)
    replace hbw := hbw.trans (hcq.below (B := w.heap.size) (by omega) (by have h9 := hz3; simp; omega))
    clear hcq
    have hN : Nums (w4.alloc (.cells #[.int .i64 (-1), .int .i64 10, .int .i64 0] 3)) w4.heap.size 3 (fun _ => True) := Nums.of (Has.new w4 3 #[.int .i64 (-1), .int .i64 10, .int .i64 0]) (fun i hi => by
      obtain rfl | rfl | rfl : i = 0 ∨ i = 1 ∨ i = 2 := by omega
      all_goals exact ⟨_, rfl, trivial⟩)
    have hN := Lib.hid hN
    replace hres := hres.alloc (.cells #[.int .i64 (-1), .int .i64 10, .int .i64 0] 3)
    replace hbw := hbw.alloc (by omega) (.cells #[.int .i64 (-1), .int .i64 10, .int .i64 0] 3)
    replace ho := ho.alloc (.cells #[.int .i64 (-1), .int .i64 10, .int .i64 0] 3)
    go_wp2_with fail
    refine (num_any (w.heap.size + 1) A n' c _ (w.heap.size + 1) w4.heap.size 3 _ (fun _ => True) _ (hrd4.alloc (by omega) _) (by omega) hn' (by omega) (by omega) (by simp) (by omega) hN.out).mono ?_
    rintro e w5 ⟨t, rfl, _, hrd5, hcq⟩
    replace ho := ho.chg hcq (by omega)
    replace hres := hres.chg hcq (by omega)
    replace hbw := hbw.trans (hcq.below (B := w.heap.size) (by omega) (by have h9 := hz3; simp; omega))
    clear hcq
    have co := ho.cell
    have fo := ho.frozen
    obtain rfl | rfl | rfl : y = 0 ∨ y = 1 ∨ y = 2 := by omega
    · replace ho := ho.put 4 (.int .i64 (t))
      replace hbw := hbw.setCell (p := ⟨w2.heap.size, 4, none⟩) (by simp; omega) (.int .i64 (t))
      replace hres := hres.far (p := ⟨w2.heap.size, 4, none⟩) (by simp; omega) (.int .i64 (t))
      have co := ho.cell
      have cr := hres.cell
      have fr := hres.frozen
      go_wp2
      refine bodyPost_ret (v := .agg #[.int .i64 (k), .int .i64 (a), .int .i64 (b), .int .i64 (d), .int .i64 (t), .int .i64 (v), .int .i64 (x)]) (by simp [results, Try.results51, go_sem, cr]) rfl ⟨_, _, _, _, _, _, _, rfl, ?_⟩
      iterate 7 (refine Below.setCell ?_ (by simp) _)
      exact hbw
    · replace ho := ho.put 5 (.int .i64 (t))
      replace hbw := hbw.setCell (p := ⟨w2.heap.size, 5, none⟩) (by simp; omega) (.int .i64 (t))
      replace hres := hres.far (p := ⟨w2.heap.size, 5, none⟩) (by simp; omega) (.int .i64 (t))
      have co := ho.cell
      have cr := hres.cell
      have fr := hres.frozen
      go_wp2
      refine bodyPost_ret (v := .agg #[.int .i64 (k), .int .i64 (a), .int .i64 (b), .int .i64 (d), .int .i64 (u), .int .i64 (t), .int .i64 (x)]) (by simp [results, Try.results51, go_sem, cr]) rfl ⟨_, _, _, _, _, _, _, rfl, ?_⟩
      iterate 7 (refine Below.setCell ?_ (by simp) _)
      exact hbw
    · replace ho := ho.put 6 (.int .i64 (t))
      replace hbw := hbw.setCell (p := ⟨w2.heap.size, 6, none⟩) (by simp; omega) (.int .i64 (t))
      replace hres := hres.far (p := ⟨w2.heap.size, 6, none⟩) (by simp; omega) (.int .i64 (t))
      have co := ho.cell
      have cr := hres.cell
      have fr := hres.frozen
      go_wp2
      refine bodyPost_ret (v := .agg #[.int .i64 (k), .int .i64 (a), .int .i64 (b), .int .i64 (d), .int .i64 (u), .int .i64 (v), .int .i64 (t)]) (by simp [results, Try.results51, go_sem, cr]) rfl ⟨_, _, _, _, _, _, _, rfl, ?_⟩
      iterate 7 (refine Below.setCell ?_ (by simp) _)
      exact hbw
  · have co := ho.cell
    have hN : Nums (w3.alloc (.cells #[.int .i64 (-1), .int .i64 4, .int .i64 12, .int .i64 13, .int .i64 a] 3)) w3.heap.size 5 (fun _ => True) := Nums.of (Has.new w3 3 #[.int .i64 (-1), .int .i64 4, .int .i64 12, .int .i64 13, .int .i64 a]) (fun i hi => by
      obtain rfl | rfl | rfl | rfl | rfl : i = 0 ∨ i = 1 ∨ i = 2 ∨ i = 3 ∨ i = 4 := by omega
      all_goals exact ⟨_, rfl, trivial⟩)
    have hN := Lib.hid hN
    replace hres := hres.alloc (.cells #[.int .i64 (-1), .int .i64 4, .int .i64 12, .int .i64 13, .int .i64 a] 3)
    replace hbw := hbw.alloc (by omega) (.cells #[.int .i64 (-1), .int .i64 4, .int .i64 12, .int .i64 13, .int .i64 a] 3)
    replace ho := ho.alloc (.cells #[.int .i64 (-1), .int .i64 4, .int .i64 12, .int .i64 13, .int .i64 a] 3)
    go_wp2_with fail
    clear co
    refine (num_any (w.heap.size + 1) A n' c _ (w.heap.size + 1) w3.heap.size 5 _ (fun _ => True) _ (hrd3.alloc (by omega) _) (by omega) hn' (by omega) (by omega) (by simp) (by omega) hN.out).mono ?_
    rintro e w5 ⟨t, rfl, _, hrd5, hcq⟩
    replace ho := ho.chg hcq (by omega)
    replace hres := hres.chg hcq (by omega)
    replace hbw := hbw.trans (hcq.below (B := w.heap.size) (by omega) (by have h9 := hz3; simp; omega))
    clear hcq
    have co := ho.cell
    have fo := ho.frozen
    replace ho := ho.put 2 (.int .i64 (t))
    replace hbw := hbw.setCell (p := ⟨w2.heap.size, 2, none⟩) (by simp; omega) (.int .i64 (t))
    replace hres := hres.far (p := ⟨w2.heap.size, 2, none⟩) (by simp; omega) (.int .i64 (t))
    have co := ho.cell
    have cr := hres.cell
    have fr := hres.frozen
    go_wp2
    refine bodyPost_ret (v := .agg #[.int .i64 (k), .int .i64 (a), .int .i64 (t), .int .i64 (d), .int .i64 (u), .int .i64 (v), .int .i64 (x)]) (by simp [results, Try.results51, go_sem, cr]) rfl ⟨_, _, _, _, _, _, _, rfl, ?_⟩
    iterate 7 (refine Below.setCell ?_ (by simp) _)
    exact hbw
  · have m0' : (m == 0) = false := by simp; omega
    have m1' : (m == 1) = false := by simp; omega
    have m2' : (m == 2) = false := by simp; omega
    have co := ho.cell
    have cr := hres.cell
    have fr := hres.frozen
    go_wp2
    refine bodyPost_ret (v := .agg #[.int .i64 (k), .int .i64 (a), .int .i64 (b), .int .i64 (d), .int .i64 (u), .int .i64 (v), .int .i64 (x)]) (by simp [results, Try.results51, go_sem, cr]) rfl ⟨_, _, _, _, _, _, _, rfl, ?_⟩
    iterate 7 (refine Below.setCell ?_ (by simp) _)
    exact hbw

theorem DrawStmtReads_any (A : Option Addr) (n c : Nat) (w : World) (h : Byt w w.heap.size A n) (hn : n ≤ c) (hc : c ≤ maxLen) :
    Calls Try.prog 24 #[.slice A n c] w (StD w) := by
  have h1 : Byt (w.alloc (.cells #[.int .i64 0, .int .i64 0, .int .i64 0, .int .i64 0, .int .i64 0, .int .i64 0, .int .i64 0] 32)) (w.alloc (.cells #[.int .i64 0, .int .i64 0, .int .i64 0, .int .i64 0, .int .i64 0, .int .i64 0, .int .i64 0] 32)).heap.size A n := (h.keep ((Below.refl _ _).alloc (Nat.le_refl _) _)).more (by simp)
  have hO := Lib.hid (DrawStmtOk_any A n c _ h1 hn hc)
  clear h1 h hc
  go_enter Try.func24, Try.ntmps24
  go_wp2_with fail
  refine (hO.out).mono ?_
  rintro e w1 ⟨k, a, b, d, u, v, x, rfl, hb1⟩
  have hres := (Has.new w 32 #[.int .i64 0, .int .i64 0, .int .i64 0, .int .i64 0, .int .i64 0, .int .i64 0, .int .i64 0]).kept hb1
  have hbw : Below w.heap.size w w1 := ((Below.refl _ _).alloc (Nat.le_refl _) _).trans (hb1.mono (by simp))
  clear hb1 hO
  have cr := hres.cell
  have fr := hres.frozen
  go_wp2
  refine bodyPost_ret (v := .agg #[.int .i64 k, .int .i64 a, .int .i64 b, .int .i64 d, .int .i64 u, .int .i64 v, .int .i64 x]) (by simp [results, Try.results24, go_sem, cr]) rfl ⟨_, _, _, _, _, _, _, rfl, ?_⟩
  repeat (refine Below.setCell ?_ (by simp) _)
  exact hbw

def NumsD (w : World) (e : Ending) (w' : World) : Prop := ∃ s v x : Int, e = .returned (.tuple #[.int .i64 s, .int .i64 v, .int .i64 x]) ∧ Below w.heap.size w w'

theorem DrawWithValue_any (A : Option Addr) (n c : Nat) (w : World) (h : Byt w w.heap.size A n) (hn : n ≤ c) (hc : c ≤ maxLen) :
    Calls Try.prog 25 #[.slice A n c] w (NumsD w) := by
  have hO := Lib.hid (l40Open_any A n c _ h hn hc)
  clear h hc
  go_enter Try.func25, Try.ntmps25
  go_wp2_with fail
  refine (hO.out).mono ?_
  rintro e w1 ⟨rfl, ⟨n', hn', hr1⟩, hb1⟩
  have hz := hr1.lt
  clear hO
  go_wp2_with fail
  refine (pick_any w.heap.size A n' c _ w.heap.size _ _ hr1 (by omega) hn' (by omega)).mono ?_
  rintro e w2 ⟨v2, rfl, lo2, hi2, hr2, hc2⟩
  have hb2 := hb1.trans (hc2.below (B := w.heap.size) (Nat.le_refl _) (by omega))
  have hz2 := hc2.size
  go_wp2_with fail
  refine (pick_any w.heap.size A n' c _ w.heap.size _ _ hr2 (by omega) hn' (by omega)).mono ?_
  rintro e w3 ⟨v3, rfl, lo3, hi3, hr3, hc3⟩
  have hb3 := hb2.trans (hc3.below (B := w.heap.size) (Nat.le_refl _) (by omega))
  have hz3 := hc3.size
  go_wp2_with fail
  refine (pick_any w.heap.size A n' c _ w.heap.size _ _ hr3 (by omega) hn' (by omega)).mono ?_
  rintro e w4 ⟨v4, rfl, lo4, hi4, hr4, hc4⟩
  have hb4 := hb3.trans (hc4.below (B := w.heap.size) (Nat.le_refl _) (by omega))
  have hz4 := hc4.size
  go_wp2_with fail
  refine (pick_any w.heap.size A n' c _ w.heap.size _ _ hr4 (by omega) hn' (by omega)).mono ?_
  rintro e w5 ⟨v5, rfl, lo5, hi5, hr5, hc5⟩
  have hb5 := hb4.trans (hc5.below (B := w.heap.size) (Nat.le_refl _) (by omega))
  have hz5 := hc5.size
  go_wp2_with fail
  refine (pick_any w.heap.size A n' c _ w.heap.size _ _ hr5 (by omega) hn' (by omega)).mono ?_
  rintro e w6 ⟨v6, rfl, lo6, hi6, hr6, hc6⟩
  have hb6 := hb5.trans (hc6.below (B := w.heap.size) (Nat.le_refl _) (by omega))
  have hz6 := hc6.size
  go_wp2_with fail
  go_ret3
  exact ⟨_, _, _, rfl, hb6⟩

end Go.Proofs.Ytodchhakbljncaa
