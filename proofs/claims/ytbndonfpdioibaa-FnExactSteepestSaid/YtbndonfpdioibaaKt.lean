/- The laws' copies of a statement. Arguments opened: a statement by value, and lists of statements. The laws' own helpers over lists of statements. The laws' marks: a list's memory overwritten number by number, and read again. The laws' count of what came in. -/
import Derived.Test.YtbndonfpdioibaaStO
import Derived.ProofKit
import Derived.OpenShut
import Derived.Deep.Slices
import Derived.Test.YtbndonfpdioibaaUnP
import Derived.StillTailTactics
import Derived.Deep.RegionHeld3
namespace Go.Proofs.Ytbndonfpdioibaa
set_option maxRecDepth 100000
open Go.RowKit

theorem toIntA3_any (u v x : Int) (w : World) :
    Calls Try.prog 125 #[.agg #[.int .i64 u, .int .i64 v, .int .i64 x]] w fun e w' => e = .returned (.agg #[.int .i64 u, .int .i64 v, .int .i64 x]) ∧ Below w.heap.size w w' := by
  go_enter Try.func125, Try.ntmps125
  go_wp2
  go_loopw [4] (fun i wr => ∃ p q r : Int, wr = ((w.alloc (.cells #[.int .i64 u, .int .i64 v, .int .i64 x] 76)).alloc (.cells #[.int .i64 0, .int .i64 0, .int .i64 0] 76)).alloc (.cells #[.int .i64 p, .int .i64 q, .int .i64 r] 76) ∧ (i = .int .i64 0 ∨ (i = .int .i64 1 ∧ p = u) ∨ (i = .int .i64 2 ∧ p = u ∧ q = v) ∨ (i = .int .i64 3 ∧ p = u ∧ q = v ∧ r = x))) (fun i _ => 3 - (intOf i).toNat)
  case atStart => exact ⟨0, 0, 0, rfl, .inl rfl⟩
  case round =>
    obtain ⟨p, q, r, rfl, rfl | ⟨rfl, rfl⟩ | ⟨rfl, rfl, rfl⟩ | ⟨rfl, rfl, rfl, rfl⟩⟩ := hrel
    · go_wp2
      go_roundw
      case rel => exact ⟨u, q, r, rfl, .inr (.inl ⟨rfl, rfl⟩)⟩
      case measure => simp [intOf]
    · go_wp2
      go_roundw
      case rel => exact ⟨_, v, r, rfl, .inr (.inr (.inl ⟨rfl, rfl, rfl⟩))⟩
      case measure => simp [intOf]
    · go_wp2
      go_roundw
      case rel => exact ⟨_, _, x, rfl, .inr (.inr (.inr ⟨rfl, rfl, rfl, rfl⟩))⟩
      case measure => simp [intOf]
    · go_wp2
      refine bodyPost_ret (v := .agg #[.int .i64 p, .int .i64 q, .int .i64 r]) (by simp [results, Try.results125, go_sem]) rfl ⟨rfl, ?_⟩
      exact (((Below.refl _ _).alloc (Nat.le_refl _) _).alloc (by simp) _).alloc (by simp; omega) _

theorem toStmt_any (k a b c u v x : Int) (w : World) :
    Calls Try.prog 69 #[.agg #[.int .i64 k, .int .i64 a, .int .i64 b, .int .i64 c, .int .i64 u, .int .i64 v, .int .i64 x]] w fun e w' => e = .returned (.agg #[.int .i64 k, .int .i64 a, .int .i64 b, .int .i64 c, .int .i64 u, .int .i64 v, .int .i64 x]) ∧ Below w.heap.size w w' := by
  go_enter Try.func69, Try.ntmps69
  go_wp2_with fail
  refine (toIntA3_any _ _ _ _).mono ?_
  rintro e w1 ⟨rfl, hb⟩
  obtain ⟨hcell, hfz⟩ := bcell hb
  have hz : w.heap.size + 3 ≤ w1.heap.size := by have := hb.size; simp at this; omega
  go_wp2
  refine bodyPost_ret (v := .agg #[.int .i64 k, .int .i64 a, .int .i64 b, .int .i64 c, .int .i64 u, .int .i64 v, .int .i64 x]) (by simp [results, Try.results69, go_sem, hcell]) rfl ⟨rfl, ?_⟩
  repeat (refine Below.setCell ?_ (by simp; try omega) _)
  exact ((((Below.refl _ _).alloc (Nat.le_refl _) _).alloc (by simp) _).alloc (by simp; omega) _).trans (hb.mono (by simp; omega))
end Go.Proofs.Ytbndonfpdioibaa

namespace Go.Proofs.Ytbndonfpdioibaa
set_option maxRecDepth 100000
open Go.ChangeShapes Go.WideShapes Go.RowKit Go.Deep

section
variable {H : Type} {enc : TypeId × Value → H} {w : World} {base : Nat} {spare : Nat → Bool} {held : Bool}
theorem cells_int : Try.prog.cellsOf 3 = 1 := by kernel_rfl
theorem cells_w : Try.prog.cellsOf 76 = 3 := by kernel_rfl
theorem cells_lawStmt : Try.prog.cellsOf 80 = 7 := by kernel_rfl

set_option maxRecDepth 100000 in
/-- What reads as a statement is seven numbers. -/
theorem stmt_of_trod {fuel : Nat} {cs : List Value} {x : DataW H × List MemPlace} (h : DataW.trod enc Try.prog w base spare held fuel 80 cs = some x) : ∃ s : St, cs = s.cells := by
  obtain ⟨xs, n, _, _, hl, hx, hf⟩ := DataW.trod_struct Try.underlying80 h
  rw [cells_lawStmt] at hl
  match cs, hl with
  | [c0, c1, c2, c3, c4, c5, c6], _ =>
    match xs, hx with
    | [y0, y1, y2, y3, y4], _ =>
      have f0 : DataW.trod enc Try.prog w base spare held n 3 ([c0, c1, c2, c3, c4, c5, c6].take (Try.prog.cellsOf 3)) = some y0 := hf 0 _ rfl
      have f1 : DataW.trod enc Try.prog w base spare held n 3 ([c1, c2, c3, c4, c5, c6].take (Try.prog.cellsOf 3)) = some y1 := hf 1 _ rfl
      have f2 : DataW.trod enc Try.prog w base spare held n 3 ([c2, c3, c4, c5, c6].take (Try.prog.cellsOf 3)) = some y2 := hf 2 _ rfl
      have f3 : DataW.trod enc Try.prog w base spare held n 3 ([c3, c4, c5, c6].take (Try.prog.cellsOf 3)) = some y3 := hf 3 _ rfl
      have f4 : DataW.trod enc Try.prog w base spare held n 76 ([c4, c5, c6].take (Try.prog.cellsOf 76)) = some y4 := hf 4 _ rfl
      rw [cells_int] at f0 f1 f2 f3
      rw [cells_w] at f4
      obtain ⟨zs, m, _, _, _, hz, hg⟩ := DataW.trod_array Try.underlying76 f4
      match zs, hz with
      | [z0, z1, z2], _ =>
        have g0 := hg 0 (by omega)
        have g1 := hg 1 (by omega)
        have g2 := hg 2 (by omega)
        rw [cells_int] at g0 g1 g2
        obtain ⟨k, e0, _⟩ := DataW.trod_int Try.underlying3 f0
        obtain ⟨a, e1, _⟩ := DataW.trod_int Try.underlying3 f1
        obtain ⟨b, e2, _⟩ := DataW.trod_int Try.underlying3 f2
        obtain ⟨c, e3, _⟩ := DataW.trod_int Try.underlying3 f3
        obtain ⟨u, e4, _⟩ := DataW.trod_int Try.underlying3 g0
        obtain ⟨v, e5, _⟩ := DataW.trod_int Try.underlying3 g1
        obtain ⟨q, e6, _⟩ := DataW.trod_int Try.underlying3 g2
        simp at e0 e1 e2 e3 e4 e5 e6
        exact ⟨⟨k, a, b, c, u, v, q⟩, by simp [St.cells, e0, e1, e2, e3, e4, e5, e6]⟩

set_option maxRecDepth 100000 in
/-- A parameter that is a statement by value. -/
theorem open_stmt {r : Reach} {b0 : Nat} {v : Value} {d : DataW H} {p : List MemPlace} (hv : Value.okWide Try.prog w r b0 80 v) (h : DataW.Trod enc Try.prog w base spare held 80 v d p) :
    ∃ k a b c u x y : Int, v = .agg #[.int .i64 k, .int .i64 a, .int .i64 b, .int .i64 c, .int .i64 u, .int .i64 x, .int .i64 y] := by
  obtain ⟨cs, rfl, hsz⟩ := okWide_struct Try.underlying80 hv
  obtain ⟨fuel, hf⟩ := h
  obtain ⟨s, hs⟩ := stmt_of_trod hf
  obtain ⟨l⟩ := cs
  simp [Value.cells] at hs
  exact ⟨s.k, s.a, s.b, s.c, s.u, s.v, s.x, by rw [hs]; rfl⟩
end
end Go.Proofs.Ytbndonfpdioibaa

namespace Go.Proofs.Ytbndonfpdioibaa
set_option maxRecDepth 100000
open Go.ChangeShapes Go.WideShapes Go.RowKit Go.Deep

section
variable {H : Type} {enc : TypeId × Value → H} {w : World} {base : Nat}
set_option maxRecDepth 100000 in
/-- A parameter that is a list of statements. -/
theorem open_stmts {r : Reach} {b0 : Nat} {v : Value} {d : DataW H} {p : List MemPlace} (hv : Value.okWide Try.prog w r b0 22 v) (h : DataW.Trod enc Try.prog w 0 (fun _ => true) true 22 v d p) :
    ∃ (A : Option Addr) (n c : Nat) (ps : List St), v = .slice A n c ∧ n ≤ c ∧ c ≤ maxLen ∧ Lst w w.heap.size A n ps := by
  obtain ⟨A, n, c, rfl⟩ := okWide_slice Try.underlying22 hv
  obtain ⟨fuel, hf⟩ := h
  rcases open_slice Try.underlying22 hf with ⟨hcs, _⟩ | ⟨a, n', c', m, fu, D, Pl, hcs, _, hl, hm, hmm, _, hi⟩
  · simp [Value.cells] at hcs
    obtain ⟨rfl, rfl, rfl⟩ := hcs
    exact ⟨none, 0, 0, [], rfl, Nat.le_refl _, by simp [maxLen], rfl, fun h => absurd h (by omega)⟩
  · simp [Value.cells] at hcs
    obtain ⟨rfl, rfl, rfl⟩ := hcs
    have hmc : m = c := by simpa using hmm
    subst hmc
    have hex : ∀ i, ∃ s : St, i < n → ∀ j u, s.cells[j]? = some u → w.cell? (a.add (i * 7 + j)) = some u := by
      intro i
      by_cases hin : i < n
      · obtain ⟨cs', hc, ht⟩ := hi i (by omega)
        rw [cells_lawStmt] at hc
        obtain ⟨s, hs⟩ := stmt_of_trod ht
        obtain ⟨_, hlen, hat⟩ := World.cells?_some hc
        refine ⟨s, fun _ j u hu => ?_⟩
        have hj : j < 7 := by have := (List.getElem?_eq_some_iff.1 hu).1; simpa [St.cells] using this
        have := hat j hj
        rw [Go.Deep.add_add] at this
        rw [this, hs]; exact hu
      · exact ⟨⟨0, 0, 0, 0, 0, 0, 0⟩, fun h => absurd h hin⟩
    obtain ⟨f, hfx⟩ := Classical.axiomOfChoice hex
    refine ⟨some a, n, m, (List.range n).map f, rfl, hl, hm, by simp, fun hn => ?_⟩
    obtain ⟨g, off, spot⟩ := a
    have h0 := hfx 0 hn 0 _ rfl
    have hspot : spot = none := by simpa [Addr.add] using World.cell?_spot h0
    subst hspot
    have hlt := World.block_lt_of_cell? w _ h0
    refine ⟨g, off, rfl, by simpa [Addr.add] using hlt, fun k s hs => ?_⟩
    rw [List.getElem?_map] at hs
    by_cases hk : k < n
    · rw [List.getElem?_range hk] at hs
      have hs' : f k = s := by simpa using hs
      subst hs'
      intro j u hu
      have := hfx k hk j u hu
      rw [← this]
      congr 1
      unfold Addr.add
      split
      · (rename_i h0; simp; try omega)
      · (simp; try omega)
    · rw [List.getElem?_eq_none (by simp; omega)] at hs
      cases hs
end

/-- What szStmtS leaves of its first number. -/
def leftOf (n : Nat) : Int := if n ≤ 1048576 then (1048576 : Int) - n else -1

theorem szStmtS_any (A : Option Addr) (n c : Nat) (w : World) (hn : n ≤ maxLen) :
    Calls Try.prog 14 #[.slice A n c, .int .i64 1048576] w fun e w' => e = .returned (.int .i64 (leftOf n)) ∧ w = w' := by
  unfold maxLen at hn
  by_cases hb : n ≤ 1048576
  · have hR := Lib.hid (show leftOf n = 1048576 - n from if_pos hb)
    go_enter Try.func14, Try.ntmps14
    go_wp2
    go_ret
    exact ⟨ret_int hR.out, rfl⟩
  · have hR := Lib.hid (show leftOf n = -1 from if_neg hb)
    go_enter Try.func14, Try.ntmps14
    go_wp2
    go_ret
    exact ⟨ret_int hR.out, rfl⟩

theorem eqIntA3_same (u v x : Int) (w : World) :
    Calls Try.prog 127 #[.agg #[.int .i64 u, .int .i64 v, .int .i64 x], .agg #[.int .i64 u, .int .i64 v, .int .i64 x]] w fun e w' => e = .returned (.bool true) ∧ Below w.heap.size w w' := by
  go_enter Try.func127, Try.ntmps127
  go_wp2
  go_loopw [5] (fun i wr => (i = .int .i64 0 ∨ i = .int .i64 1 ∨ i = .int .i64 2 ∨ i = .int .i64 3) ∧ ∃ nq, wr = ((w.alloc (.cells #[.int .i64 u, .int .i64 v, .int .i64 x] 76)).alloc (.cells #[.int .i64 u, .int .i64 v, .int .i64 x] 76)).drewN nq) (fun i _ => 3 - (intOf i).toNat)
  case atStart => exact ⟨.inl rfl, 0, rfl⟩
  case round =>
    obtain ⟨hi, nq, rfl⟩ := hrel
    rcases hi with rfl | rfl | rfl | rfl
    · go_wp2
      go_quiet (fail)
      go_wp2
      exact ⟨⟨.inr (.inl rfl), _, rfl⟩, by simp [intOf]⟩
    · go_wp2
      go_quiet (fail)
      go_wp2
      exact ⟨⟨.inr (.inr (.inl rfl)), _, rfl⟩, by simp [intOf]⟩
    · go_wp2
      go_quiet (fail)
      go_wp2
      exact ⟨⟨.inr (.inr (.inr rfl)), _, rfl⟩, by simp [intOf]⟩
    · go_wp2
      go_ret
      exact ⟨rfl, below_drewN (((Below.refl _ _).alloc (Nat.le_refl _) _).alloc (by simp) _) _⟩

theorem eqStmt_same (s : St) (w : World) :
    Calls Try.prog 73 #[.agg #[.int .i64 s.k, .int .i64 s.a, .int .i64 s.b, .int .i64 s.c, .int .i64 s.u, .int .i64 s.v, .int .i64 s.x], .agg #[.int .i64 s.k, .int .i64 s.a, .int .i64 s.b, .int .i64 s.c, .int .i64 s.u, .int .i64 s.v, .int .i64 s.x]] w fun e w' => e = .returned (.bool true) ∧ Below w.heap.size w w' := by
  go_enter Try.func73, Try.ntmps73
  go_wp2_with (go_at_call 127; refine (eqIntA3_same _ _ _ _).mono ?_; rintro e w1 ⟨rfl, hb⟩)
  go_ret
  exact ⟨rfl, (((Below.refl _ _).alloc (Nat.le_refl _) _).alloc (by simp) _).trans (hb.mono (by simp; omega))⟩

theorem eqStmtS_same (A A2 : Option Addr) (n c c2 : Nat) (ps : List St) (w : World) (h : Lst w w.heap.size A n ps) (h2 : Lst w w.heap.size A2 n ps) (hn : n ≤ maxLen) :
    Calls Try.prog 19 #[.slice A n c, .slice A2 n c2] w fun e w' => e = .returned (.bool true) ∧ Below w.heap.size w w' := by
  unfold maxLen at hn
  have hH := Lib.hid h
  have hH2 := Lib.hid h2
  clear h h2
  go_enter Try.func19, Try.ntmps19
  go_wp2
  go_loopw [5] (fun i wr => ∃ k : Nat, k ≤ n ∧ i = .int .i64 k ∧ Below w.heap.size w wr) (fun i _ => n - (intOf i).toNat)
  case atStart => exact ⟨0, Nat.zero_le _, rfl, Below.refl _ _⟩
  case round =>
    obtain ⟨k, hk, rfl, hb⟩ := hrel
    by_cases hlt : k < n
    · obtain ⟨g, off, s, rfl, hg, hs, hat⟩ := (hH.out.below hb).at_ hlt
      obtain ⟨g2, off2, s2, rfl, hg2, hs2, hat2⟩ := (hH2.out.below hb).at_ hlt
      have e : s2 = s := by rw [hs] at hs2; injection hs2 with e; exact e.symm
      subst e
      obtain ⟨c0, c1, c2', c3, c4, c5, c6⟩ := hat.open_
      obtain ⟨d0, d1, d2, d3, d4, d5, d6⟩ := hat2.open_
      have hz := hb.size
      clear hs hs2 hat hat2
      have hk0 : (0 : Int) ≤ (k : Int) := Int.natCast_nonneg _
      have hk1 : (k : Int) < (n : Int) := by omega
      go_wp2
      go_still_tail 8, (by kernel_rfl)
      change wpList _ _ _ _ _ wr.drew
      go_wp2_with (go_at_call 73; refine (eqStmt_same s2 _).mono ?_; rintro e w1 ⟨rfl, hb1⟩)
      go_roundw
      case rel => exact ⟨k + 1, by omega, by go_num, (hb.trans (Below.refl _ _).drew).trans (hb1.mono hz)⟩
      case measure => (simp [intOf]; try omega)
    · go_wp2
      go_ret
      exact ⟨rfl, hb⟩

/-- The first k statements of a list lie in a row of cells. -/
def Fill (cs : Array Value) (ps : List St) (n k : Nat) : Prop := cs.size = n * 7 ∧ ∀ i s, i < k → ps[i]? = some s → ∀ j u, s.cells[j]? = some u → cs[i * 7 + j]? = some u

def put7 (cs : Array Value) (o : Nat) (s : St) : Array Value :=
  ((((((cs.setIfInBounds o (.int .i64 s.k)).setIfInBounds (o + 1) (.int .i64 s.a)).setIfInBounds (o + 2) (.int .i64 s.b)).setIfInBounds (o + 3) (.int .i64 s.c)).setIfInBounds (o + 4) (.int .i64 s.u)).setIfInBounds (o + 5) (.int .i64 s.v)).setIfInBounds (o + 6) (.int .i64 s.x)

theorem put_at {cs : Array Value} {i x : Nat} {v : Value} (h : x < cs.size) (e : i = x := by omega) : (cs.setIfInBounds i v)[x]? = some v := by subst e; simp [h]
theorem put_ne {cs : Array Value} {i x : Nat} {v : Value} (h : i ≠ x) : (cs.setIfInBounds i v)[x]? = cs[x]? := by simp [h]
theorem put7_size (cs : Array Value) (o : Nat) (s : St) : (put7 cs o s).size = cs.size := by simp [put7]
theorem put7_far (cs : Array Value) (o x : Nat) (s : St) (h : x < o ∨ o + 7 ≤ x) : (put7 cs o s)[x]? = cs[x]? := by
  unfold put7
  simp only [Array.getElem?_setIfInBounds, Array.size_setIfInBounds]
  repeat rw [if_neg (by omega)]
theorem put7_at (cs : Array Value) (o : Nat) (s : St) (h : o + 7 ≤ cs.size) {j : Nat} {u : Value} (hu : s.cells[j]? = some u) : (put7 cs o s)[o + j]? = some u := by
  have hj : j < 7 := by have := (List.getElem?_eq_some_iff.1 hu).1; simpa [St.cells] using this
  unfold put7
  obtain rfl | rfl | rfl | rfl | rfl | rfl | rfl : j = 0 ∨ j = 1 ∨ j = 2 ∨ j = 3 ∨ j = 4 ∨ j = 5 ∨ j = 6 := by omega
  · rw [put_ne (by omega), put_ne (by omega), put_ne (by omega), put_ne (by omega), put_ne (by omega), put_ne (by omega), put_at (by simp; omega)]; exact hu
  · rw [put_ne (by omega), put_ne (by omega), put_ne (by omega), put_ne (by omega), put_ne (by omega), put_at (by simp; omega)]; exact hu
  · rw [put_ne (by omega), put_ne (by omega), put_ne (by omega), put_ne (by omega), put_at (by simp; omega)]; exact hu
  · rw [put_ne (by omega), put_ne (by omega), put_ne (by omega), put_at (by simp; omega)]; exact hu
  · rw [put_ne (by omega), put_ne (by omega), put_at (by simp; omega)]; exact hu
  · rw [put_ne (by omega), put_at (by simp; omega)]; exact hu
  · rw [put_at (by simp; omega)]; exact hu

theorem Fill.step {cs : Array Value} {ps : List St} {n k : Nat} {s : St} (h : Fill cs ps n k) (hs : ps[k]? = some s) (hk : k < n) : Fill (put7 cs (k * 7) s) ps n (k + 1) := by
  refine ⟨by rw [put7_size]; exact h.1, fun i q hi hq j u hu => ?_⟩
  have hj : j < 7 := by have := (List.getElem?_eq_some_iff.1 hu).1; simpa [St.cells] using this
  by_cases hik : i = k
  · subst hik
    obtain rfl : s = q := Option.some.inj (hs.symm.trans hq)
    exact put7_at cs _ _ (by rw [h.1]; omega) hu
  · rw [put7_far cs _ _ _ (by omega)]
    exact h.2 i q (by omega) hq j u hu

theorem Fill.done {cs : Array Value} {ps : List St} {n : Nat} (h : Fill cs ps n n) (hL : ps.length = n) : cs.toList = flat ps := by
  apply List.ext_getElem?
  intro x
  rw [Array.getElem?_toList]
  by_cases hx : x < n * 7
  · have hi : x / 7 < ps.length := by rw [hL]; omega
    have hr : x % 7 < (ps[x / 7]).cells.length := by simp [St.cells]; omega
    have h1 := h.2 (x / 7) ps[x / 7] (by omega) (List.getElem?_eq_getElem hi) (x % 7) _ (List.getElem?_eq_getElem hr)
    have h2 := flat_at (List.getElem?_eq_getElem hi) (List.getElem?_eq_getElem hr)
    rw [show x / 7 * 7 + x % 7 = x by omega] at h1 h2
    rw [h1, h2]
  · rw [Array.getElem?_eq_none (by rw [h.1]; omega), List.getElem?_eq_none (by rw [flat_length, hL]; omega)]

theorem Has.put7 {w : World} {g : Nat} {cs : Array Value} (h : Has w g 78 cs) (o : Nat) (s : St) :
    Has (((((((w.setCell ⟨g, o, none⟩ (.int .i64 s.k)).setCell ⟨g, o + 1, none⟩ (.int .i64 s.a)).setCell ⟨g, o + 2, none⟩ (.int .i64 s.b)).setCell ⟨g, o + 3, none⟩ (.int .i64 s.c)).setCell ⟨g, o + 4, none⟩ (.int .i64 s.u)).setCell ⟨g, o + 5, none⟩ (.int .i64 s.v)).setCell ⟨g, o + 6, none⟩ (.int .i64 s.x)) g 78 (put7 cs o s) :=
  ((((((h.put o _).put (o + 1) _).put (o + 2) _).put (o + 3) _).put (o + 4) _).put (o + 5) _).put (o + 6) _

/-- A block that holds a list's cells reads as that list. -/
theorem Has.lst {w : World} {g n : Nat} {cs : Array Value} {ps : List St} (h : Has w g 78 cs) (hf : cs.toList = flat ps) (hL : ps.length = n) : Lst w w.heap.size (some ⟨g, 0, none⟩) n ps := by
  refine ⟨hL, fun _ => ⟨g, 0, rfl, h.lt, fun k s hs j u hu => ?_⟩⟩
  rw [Nat.zero_add, h.cell, ← Array.getElem?_toList, hf]
  exact flat_at hs hu

/-- How a copy of a list ends. -/
def Copied (w : World) (n : Nat) (ps : List St) (e : Ending) (w' : World) : Prop :=
  ∃ g cs, e = .returned (.slice (some ⟨g, 0, none⟩) n n) ∧ w.heap.size ≤ g ∧ Has w' g 78 cs ∧ cs.toList = flat ps ∧ Below w.heap.size w w'

/-- The statements copied into memory of the call's own. -/
theorem toStmtS_any (A : Option Addr) (n c : Nat) (ps : List St) (w : World) (h : Lst w w.heap.size A n ps) (hn : n ≤ 1048576) :
    Calls Try.prog 16 #[.slice A n c] w fun e w' => Copied w n ps e w' := by
  have hH := Lib.hid h
  have hL := Lib.hid h.1
  clear h
  obtain ⟨i0, hi0, hz0, hz1', hz2'⟩ := info_parts info_stmt
  have hmk : ∀ wx : World, (Instr.makeSlice 27 (.int .i64 (n : Int)) (.int .i64 (n : Int))).run Try.prog wx = .ok (.slice (some ⟨wx.heap.size, 0, none⟩) n n) (wx.alloc (.cells (madeCells (Value.agg #[.int .i64 0, .int .i64 0, .int .i64 0, .int .i64 0, .int .i64 0, .int .i64 0, .int .i64 0]).cells (n * 7)) 78)) := by
    intro wx
    have hr := run_make (P := Try.prog) wx 27 78 i0 _ Try.underlying27 hi0 hz0 .i64 .i64 (n : Int) (n : Int) (by omega) (by omega) (by rw [hz2']; omega) (by omega)
    rw [hz1'] at hr
    simp only [Int.toNat_natCast] at hr
    exact hr
  go_enter Try.func16, Try.ntmps16
  go_wp2
  have hhas0 := Has.new w 78 (madeCells #[.int .i64 0, .int .i64 0, .int .i64 0, .int .i64 0, .int .i64 0, .int .i64 0, .int .i64 0] (n * 7))
  have hfill0 : Fill (madeCells #[.int .i64 0, .int .i64 0, .int .i64 0, .int .i64 0, .int .i64 0, .int .i64 0, .int .i64 0] (n * 7)) ps n 0 := ⟨size_madeCells _ _, fun i s hi => absurd hi (by omega)⟩
  have hb0 : Below w.heap.size w (w.alloc (.cells (madeCells #[.int .i64 0, .int .i64 0, .int .i64 0, .int .i64 0, .int .i64 0, .int .i64 0, .int .i64 0] (n * 7)) 78)) := (Below.refl _ _).alloc (Nat.le_refl _) _
  have hF0 := Lib.hid hfill0
  have hH0 := Lib.hid hhas0
  clear hfill0 hhas0 hmk
  generalize hw0 : w.alloc (.cells (madeCells #[.int .i64 0, .int .i64 0, .int .i64 0, .int .i64 0, .int .i64 0, .int .i64 0, .int .i64 0] (n * 7)) 78) = w0 at hb0 hH0 ⊢
  clear hw0
  go_loopw [4] (fun i wr => ∃ (k : Nat) (cs : Array Value), k ≤ n ∧ i = .int .i64 k ∧ Has wr w.heap.size 78 cs ∧ Fill cs ps n k ∧ Below w.heap.size w wr) (fun i _ => n - (intOf i).toNat)
  case atStart => exact ⟨0, _, Nat.zero_le _, rfl, hH0.out, hF0.out, hb0⟩
  case round =>
    obtain ⟨k, cs, hk, rfl, hhas, hfill, hb⟩ := hrel
    have hHas := Lib.hid hhas
    have hFill := Lib.hid hfill
    have hzz := hhas.lt
    clear hhas hfill
    by_cases hlt : k < n
    · obtain ⟨g, off, s, rfl, hg, hs, hat⟩ := (hH.out.below hb).at_ hlt
      obtain ⟨c0, c1, c2, c3, c4, c5, c6⟩ := hat.open_
      have hS := Lib.hid hs
      clear hs hat
      go_wp2_with fail
      refine (toStmt_any _ _ _ _ _ _ _ _).mono ?_
      rintro e w1 ⟨rfl, hb1⟩
      have hB1 := Lib.hid (hb.trans (hb1.mono (by omega)))
      have hHas1 := Lib.hid (hHas.out.kept hb1)
      have hN := Lib.hid (hHas1.out.put7 (k * 7) s)
      have hfz := hHas1.out.frozen
      have hold : ∀ r, r < 7 → ∃ u, w1.cell? ⟨w.heap.size, k * 7 + r, none⟩ = some u := fun r hr => by
        rw [hHas1.out.cell]
        have := hFill.out.1
        exact ⟨_, Array.getElem?_eq_getElem (by omega)⟩
      obtain ⟨u0, e0⟩ := hold 0 (by omega)
      obtain ⟨u1, e1⟩ := hold 1 (by omega)
      obtain ⟨u2, e2⟩ := hold 2 (by omega)
      obtain ⟨u3, e3⟩ := hold 3 (by omega)
      obtain ⟨u4, e4⟩ := hold 4 (by omega)
      obtain ⟨u5, e5⟩ := hold 5 (by omega)
      obtain ⟨u6, e6⟩ := hold 6 (by omega)
      rw [Nat.add_zero] at e0
      clear hold hb1 c0 c1 c2 c3 c4 c5 c6
      go_wp2
      go_roundw
      case rel =>
        refine ⟨k + 1, _, by omega, by go_num, hN.out, hFill.out.step hS.out hlt, ?_⟩
        repeat (refine Below.setCell ?_ (by simp) _)
        exact hB1.out
      case measure => (simp [intOf]; try omega)
    · obtain rfl : n = k := by omega
      have hD := Lib.hid (hFill.out.done hL.out)
      go_wp2
      go_ret
      exact ⟨_, cs, rfl, Nat.le_refl _, hHas.out, hD.out, hb⟩

end Go.Proofs.Ytbndonfpdioibaa

namespace Go.Proofs.Ytbndonfpdioibaa
set_option maxRecDepth 100000
open Go.RowKit

/-- The statement whose seven numbers are m, m + 1, .., m + 6. -/
def mkSt (m : Int) : St := ⟨m, m + 1, m + 1 + 1, m + 1 + 1 + 1, m + 1 + 1 + 1 + 1, m + 1 + 1 + 1 + 1 + 1, m + 1 + 1 + 1 + 1 + 1 + 1⟩
/-- n statements, numbered through from m on. -/
def marks (m : Int) (n : Nat) : List St := (List.range n).map fun (i : Nat) => mkSt (m + 7 * i)
theorem marks_length (m : Int) (n : Nat) : (marks m n).length = n := by simp [marks]
theorem marks_get (m : Int) {n i : Nat} (h : i < n) : (marks m n)[i]? = some (mkSt (m + 7 * i)) := by
  unfold marks
  rw [List.getElem?_map, List.getElem?_range h]; rfl

/-- A slice whose cells may be written: one block of the call's own. -/
def Wr (w : World) (A : Option Addr) (n : Nat) : Prop := 0 < n → ∃ g cs, A = some ⟨g, 0, none⟩ ∧ Has w g 78 cs ∧ n * 7 ≤ cs.size

/-- Only the block of A has turned. -/
def Only (w w' : World) (A : Option Addr) : Prop := w.grownBy w' (A.map (·.block))

theorem Only.of_same {w w' : World} {A : Option Addr} (h : w = w') : Only w w' A := by subst h; exact World.grownBy.refl w _

/-- The first k statements' marks lie in a row of cells. -/
def Mk (cs : Array Value) (m : Int) (n k : Nat) : Prop := n * 7 ≤ cs.size ∧ ∀ i, i < k → ∀ j u, (mkSt (m + 7 * i)).cells[j]? = some u → cs[i * 7 + j]? = some u

theorem Mk.step {cs : Array Value} {m : Int} {n k : Nat} (h : Mk cs m n k) (hk : k < n) : Mk (put7 cs (k * 7) (mkSt (m + 7 * k))) m n (k + 1) := by
  refine ⟨by rw [put7_size]; exact h.1, fun i hi j u hu => ?_⟩
  have hj : j < 7 := by have := (List.getElem?_eq_some_iff.1 hu).1; simpa [St.cells] using this
  by_cases hik : i = k
  · subst hik
    exact put7_at cs _ _ (by have := h.1; omega) hu
  · rw [put7_far cs _ _ _ (by omega)]
    exact h.2 i (by omega) j u hu

theorem Mk.lst {w : World} {g n : Nat} {cs : Array Value} {m : Int} (hh : Has w g 78 cs) (h : Mk cs m n n) : Lst w w.heap.size (some ⟨g, 0, none⟩) n (marks m n) := by
  refine ⟨marks_length m n, fun _ => ⟨g, 0, rfl, hh.lt, fun k s hs j u hu => ?_⟩⟩
  have hk : k < n := by have := (List.getElem?_eq_some_iff.1 hs).1; rwa [marks_length] at this
  rw [marks_get m hk] at hs
  obtain rfl := Option.some.inj hs
  rw [Nat.zero_add, hh.cell]
  exact h.2 k hk j u hu

theorem heldStmtS_any (A : Option Addr) (n c : Nat) (m : Int) (w : World) (h : Lst w w.heap.size A n (marks m n)) (hm : 1 ≤ m) (hm2 : m ≤ 1000000000) (hn : n ≤ 100000000) :
    Calls Try.prog 25 #[.slice A n c, .int .i64 m] w fun e w' => e = .returned (.int .i64 (m + 7 * n)) ∧ w = w' := by
  have hH := Lib.hid h
  clear h
  go_enter Try.func25, Try.ntmps25
  go_wp2
  go_loop [1, 5] (fun q i => ∃ k : Nat, k ≤ n ∧ i = .int .i64 k ∧ q = .int .i64 (m + 7 * k)) (fun _ i => n - (intOf i).toNat)
  case atStart => exact ⟨0, Nat.zero_le _, rfl, by simp⟩
  case round =>
    obtain ⟨k, hk, rfl, rfl⟩ := hrel
    by_cases hlt : k < n
    · obtain ⟨g, off, s, rfl, hg, hs, hat⟩ := hH.out.at_ hlt
      rw [marks_get m hlt] at hs
      obtain rfl := Option.some.inj hs
      obtain ⟨c0, c1, c2, c3, c4, c5, c6⟩ := hat.open_
      simp only [mkSt] at c0 c1 c2 c3 c4 c5 c6
      clear hs hat
      go_wp2
      go_loop [1, 6] (fun q i => (i = .int .i64 0 ∧ q = .int .i64 (m + 7 * k + 1 + 1 + 1 + 1)) ∨ (i = .int .i64 1 ∧ q = .int .i64 (m + 7 * k + 1 + 1 + 1 + 1 + 1)) ∨ (i = .int .i64 2 ∧ q = .int .i64 (m + 7 * k + 1 + 1 + 1 + 1 + 1 + 1)) ∨ (i = .int .i64 3 ∧ q = .int .i64 (m + 7 * k + 1 + 1 + 1 + 1 + 1 + 1 + 1))) (fun _ i => 3 - (intOf i).toNat)
      case atStart => exact .inl ⟨rfl, rfl⟩
      case round =>
        rcases hrel with ⟨rfl, rfl⟩ | ⟨rfl, rfl⟩ | ⟨rfl, rfl⟩ | ⟨rfl, rfl⟩
        · go_wp2
          go_round
          case rel => exact .inr (.inl ⟨rfl, rfl⟩)
          case measure => simp [intOf]
        · go_wp2
          go_round
          case rel => exact .inr (.inr (.inl ⟨rfl, rfl⟩))
          case measure => simp [intOf]
        · go_wp2
          go_round
          case rel => exact .inr (.inr (.inr ⟨rfl, rfl⟩))
          case measure => simp [intOf]
        · go_wp2
          exact ⟨⟨k + 1, by omega, by go_num, congrArg (Value.int .i64) (by omega)⟩, by simp [intOf]; omega⟩
    · obtain rfl : n = k := by omega
      go_wp2
      go_ret
      exact ⟨rfl, rfl⟩

theorem only_put {w wr : World} {g : Nat} (h : w.grownBy wr (some g)) (o : Nat) (u : Value) : w.grownBy (wr.setCell ⟨g, o, none⟩ u) (some g) :=
  ⟨h.os, h.tape, h.output, by simpa [World.setCell] using h.size, fun i hi hne => (Below.heap_setCell wr _ u i (by rintro rfl; exact hne rfl)).trans (h.block i hi hne)⟩

/-- Four of seven numbers written. -/
def put4 (cs : Array Value) (o : Nat) (m : Int) : Array Value := (((cs.setIfInBounds o (.int .i64 m)).setIfInBounds (o + 1) (.int .i64 (m + 1))).setIfInBounds (o + 2) (.int .i64 (m + 1 + 1))).setIfInBounds (o + 3) (.int .i64 (m + 1 + 1 + 1))
def put5 (cs : Array Value) (o : Nat) (m : Int) : Array Value := (put4 cs o m).setIfInBounds (o + 4) (.int .i64 (m + 1 + 1 + 1 + 1))
def put6 (cs : Array Value) (o : Nat) (m : Int) : Array Value := (put5 cs o m).setIfInBounds (o + 5) (.int .i64 (m + 1 + 1 + 1 + 1 + 1))
theorem put7_eq (cs : Array Value) (o : Nat) (m : Int) : put7 cs o (mkSt m) = (put6 cs o m).setIfInBounds (o + 6) (.int .i64 (m + 1 + 1 + 1 + 1 + 1 + 1)) := rfl
theorem Has.size_cell {w : World} {g : Nat} {t : TypeId} {cs : Array Value} (h : Has w g t cs) {x : Nat} (hx : x < cs.size) : ∃ u, w.cell? ⟨g, x, none⟩ = some u := ⟨_, (h.cell x).trans (Array.getElem?_eq_getElem hx)⟩

/-- How marking ends. -/
def Marked (w : World) (A : Option Addr) (n : Nat) (m : Int) (e : Ending) (w' : World) : Prop :=
  e = .returned (.int .i64 (m + 7 * n)) ∧ Only w w' A ∧ Lst w' w'.heap.size A n (marks m n)

set_option maxHeartbeats 1000000 in
theorem markStmtS_any (A : Option Addr) (n c : Nat) (m : Int) (w : World) (h : Wr w A n) (hm : 1 ≤ m) (hm2 : m ≤ 1000000000) (hn : n ≤ 100000000) :
    Calls Try.prog 20 #[.slice A n c, .int .i64 m] w (Marked w A n m) := by
  by_cases hn0 : n = 0
  · subst hn0
    clear h
    go_enter Try.func20, Try.ntmps20
    go_wp2
    go_loop [1, 5] (fun q i => i = .int .i64 0 ∧ q = .int .i64 m) (fun _ i => 0)
    case atStart => exact ⟨rfl, rfl⟩
    case round =>
      obtain ⟨rfl, rfl⟩ := hrel
      go_wp2
      go_ret
      exact ⟨ret_int (by omega), Only.of_same rfl, rfl, fun h => absurd h (by omega)⟩
  · obtain ⟨g, cs0, rfl, hh0, hs0⟩ := h (by omega)
    have hH0 := Lib.hid hh0
    clear hh0
    go_enter Try.func20, Try.ntmps20
    go_wp2
    go_loopw [1, 5] (fun q i wr => ∃ (k : Nat) (cs : Array Value), k ≤ n ∧ i = .int .i64 k ∧ q = .int .i64 (m + 7 * k) ∧ Has wr g 78 cs ∧ Mk cs m n k ∧ w.grownBy wr (some g)) (fun _ i _ => n - (intOf i).toNat)
    case atStart => exact ⟨0, cs0, Nat.zero_le _, rfl, by simp, hH0.out, ⟨hs0, fun i hi => absurd hi (by omega)⟩, World.grownBy.refl w _⟩
    case round =>
      obtain ⟨k, cs, hk, rfl, rfl, hhas, hmk, hgr⟩ := hrel
      have hHas := Lib.hid hhas
      have hMk := Lib.hid hmk
      have hGr := Lib.hid hgr
      clear hgr
      by_cases hlt : k < n
      · have hfz := hhas.frozen
        have hsz := hmk.1
        obtain ⟨u0, e0⟩ := hhas.size_cell (x := k * 7) (by omega)
        obtain ⟨u1, e1⟩ := hhas.size_cell (x := k * 7 + 1) (by omega)
        obtain ⟨u2, e2⟩ := hhas.size_cell (x := k * 7 + 2) (by omega)
        obtain ⟨u3, e3⟩ := hhas.size_cell (x := k * 7 + 3) (by omega)
        clear hhas hmk
        go_wp2
        have hP4 := Lib.hid ((((hHas.out.put (k * 7) (.int .i64 (m + 7 * k))).put (k * 7 + 1) (.int .i64 (m + 7 * k + 1))).put (k * 7 + 2) (.int .i64 (m + 7 * k + 1 + 1))).put (k * 7 + 3) (.int .i64 (m + 7 * k + 1 + 1 + 1)))
        have hG4 := Lib.hid (only_put (only_put (only_put (only_put hGr.out (k * 7) (.int .i64 (m + 7 * k))) (k * 7 + 1) (.int .i64 (m + 7 * k + 1))) (k * 7 + 2) (.int .i64 (m + 7 * k + 1 + 1))) (k * 7 + 3) (.int .i64 (m + 7 * k + 1 + 1 + 1)))
        go_loopw [1, 6] (fun q i wq => (i = .int .i64 0 ∧ q = .int .i64 (m + 7 * k + 1 + 1 + 1 + 1) ∧ Has wq g 78 (put4 cs (k * 7) (m + 7 * k)) ∧ w.grownBy wq (some g)) ∨ (i = .int .i64 1 ∧ q = .int .i64 (m + 7 * k + 1 + 1 + 1 + 1 + 1) ∧ Has wq g 78 (put5 cs (k * 7) (m + 7 * k)) ∧ w.grownBy wq (some g)) ∨ (i = .int .i64 2 ∧ q = .int .i64 (m + 7 * k + 1 + 1 + 1 + 1 + 1 + 1) ∧ Has wq g 78 (put6 cs (k * 7) (m + 7 * k)) ∧ w.grownBy wq (some g)) ∨ (i = .int .i64 3 ∧ q = .int .i64 (m + 7 * k + 1 + 1 + 1 + 1 + 1 + 1 + 1) ∧ Has wq g 78 (put7 cs (k * 7) (mkSt (m + 7 * k))) ∧ w.grownBy wq (some g))) (fun _ i _ => 3 - (intOf i).toNat)
        case atStart => exact .inl ⟨rfl, rfl, hP4.out, hG4.out⟩
        case round =>
          clear e0 e1 e2 e3 hfz
          rcases hrel with ⟨rfl, rfl, hp, hg⟩ | ⟨rfl, rfl, hp, hg⟩ | ⟨rfl, rfl, hp, hg⟩ | ⟨rfl, rfl, hp, hg⟩
          · obtain ⟨v0, f0⟩ := hp.size_cell (x := k * 7 + 4) (by simp [put4]; omega)
            have hfz := hp.frozen
            have hN := Lib.hid (hp.put (k * 7 + 4) (.int .i64 (m + 7 * k + 1 + 1 + 1 + 1)))
            have hG := Lib.hid (only_put hg (k * 7 + 4) (.int .i64 (m + 7 * k + 1 + 1 + 1 + 1)))
            clear hp hg
            go_wp2
            go_roundw
            case rel => exact .inr (.inl ⟨rfl, rfl, hN.out, hG.out⟩)
            case measure => simp [intOf]
          · obtain ⟨v0, f0⟩ := hp.size_cell (x := k * 7 + 5) (by simp [put4, put5]; omega)
            have hfz := hp.frozen
            have hN := Lib.hid (hp.put (k * 7 + 5) (.int .i64 (m + 7 * k + 1 + 1 + 1 + 1 + 1)))
            have hG := Lib.hid (only_put hg (k * 7 + 5) (.int .i64 (m + 7 * k + 1 + 1 + 1 + 1 + 1)))
            clear hp hg
            go_wp2
            go_roundw
            case rel => exact .inr (.inr (.inl ⟨rfl, rfl, hN.out, hG.out⟩))
            case measure => simp [intOf]
          · obtain ⟨v0, f0⟩ := hp.size_cell (x := k * 7 + 6) (by simp [put4, put5, put6]; omega)
            have hfz := hp.frozen
            have hN := Lib.hid (hp.put (k * 7 + 6) (.int .i64 (m + 7 * k + 1 + 1 + 1 + 1 + 1 + 1)))
            have hG := Lib.hid (only_put hg (k * 7 + 6) (.int .i64 (m + 7 * k + 1 + 1 + 1 + 1 + 1 + 1)))
            clear hp hg
            go_wp2
            go_roundw
            case rel => exact .inr (.inr (.inr (⟨rfl, rfl, hN.out, hG.out⟩)))
            case measure => simp [intOf]
          · have hP := Lib.hid hp
            have hG := Lib.hid hg
            clear hp hg
            go_wp2
            exact ⟨⟨k + 1, _, by omega, by go_num, congrArg (Value.int .i64) (by omega), hP.out, hMk.out.step hlt, hG.out⟩, by simp [intOf]; omega⟩
      · obtain rfl : n = k := by omega
        have hLs := Lib.hid (Mk.lst hHas.out hMk.out)
        go_wp2
        go_ret
        exact ⟨rfl, hGr.out, hLs.out⟩

end Go.Proofs.Ytbndonfpdioibaa

namespace Go.Proofs.Ytbndonfpdioibaa
set_option maxRecDepth 100000
set_option linter.unusedVariables false
open Go.RowKit

theorem szS_yes (A : Option Addr) (n c : Nat) (left : Int) (w : World) (hn : n ≤ maxLen) (h0 : (n : Int) ≤ left) (h1 : left ≤ 1048576) :
    Calls Try.prog 14 #[.slice A n c, .int .i64 left] w fun e w' => e = .returned (.int .i64 (left - n)) ∧ w = w' := by
  unfold maxLen at hn
  go_enter Try.func14, Try.ntmps14
  go_wp2
  go_ret
  exact ⟨rfl, rfl⟩
theorem szS_no (A : Option Addr) (n c : Nat) (left : Int) (w : World) (hn : n ≤ maxLen) (hl : 0 ≤ left) (h0 : left < (n : Int)) (h1 : left ≤ 1048576) :
    Calls Try.prog 14 #[.slice A n c, .int .i64 left] w fun e w' => e = .returned (.int .i64 (-1)) ∧ w = w' := by
  unfold maxLen at hn
  go_enter Try.func14, Try.ntmps14
  go_wp2
  go_ret
  exact ⟨rfl, rfl⟩
end Go.Proofs.Ytbndonfpdioibaa
