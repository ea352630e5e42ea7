/- Diagrams: the laws' helpers over lists of cells. -/
import Derived.Test.YtghkpmafocacoaaO1
import Derived.Test.YtghkpmafocacoaaNm
namespace Go.Proofs.Ytghkpmafocacoaa
set_option maxRecDepth 100000
set_option linter.unusedVariables false
open Go.ChangeShapes Go.WideShapes Go.RowKit Go.Deep

theorem toCell_any (s : Ce) (w : World) :
    Calls Try.prog 68 #[.agg #[.int .i64 s.v, .int .i64 s.n, .int .i64 s.a, .int .i64 s.b, .int .i64 s.c]] w fun e w' => e = .returned (.agg #[.int .i64 s.v, .int .i64 s.n, .int .i64 s.a, .int .i64 s.b, .int .i64 s.c]) ∧ Below w.heap.size w w' := by
  go_enter Try.func68, Try.ntmps68
  go_wp2_with fail
  refine (toIntA3_any _ _ _ _).mono ?_
  rintro e w1 ⟨rfl, hb⟩
  obtain ⟨hcell, hfz⟩ := bcell hb
  have hz : w.heap.size + 3 ≤ w1.heap.size := by have := hb.size; simp at this; omega
  go_wp2
  refine bodyPost_ret (v := .agg #[.int .i64 s.v, .int .i64 s.n, .int .i64 s.a, .int .i64 s.b, .int .i64 s.c]) (by simp [results, Try.results68, go_sem, hcell]) rfl ⟨rfl, ?_⟩
  repeat (refine Below.setCell ?_ (by simp; try omega) _)
  exact ((((Below.refl _ _).alloc (Nat.le_refl _) _).alloc (by simp) _).alloc (by simp; omega) _).trans (hb.mono (by simp; omega))
section
variable {H : Type} {enc : TypeId × Value → H} {w : World} {base : Nat} {spare : Nat → Bool} {held : Bool}
theorem cells_lawCell : Try.prog.cellsOf 76 = 5 := by kernel_rfl
set_option maxRecDepth 100000 in
/-- What reads as a cell is five numbers. -/
theorem cell_of_trod {fuel : Nat} {cs : List Value} {x : DataW H × List MemPlace} (h : DataW.trod enc Try.prog w base spare held fuel 76 cs = some x) : ∃ s : Ce, cs = s.cells := by
  obtain ⟨xs, n, _, _, hl, hx, hf⟩ := DataW.trod_struct Try.underlying76 h
  rw [cells_lawCell] at hl
  match cs, hl with
  | [c0, c1, c4, c5, c6], _ =>
    match xs, hx with
    | [y0, y1, y4], _ =>
      have f0 : DataW.trod enc Try.prog w base spare held n 3 ([c0, c1, c4, c5, c6].take (Try.prog.cellsOf 3)) = some y0 := hf 0 _ rfl
      have f1 : DataW.trod enc Try.prog w base spare held n 3 ([c1, c4, c5, c6].take (Try.prog.cellsOf 3)) = some y1 := hf 1 _ rfl
      have f4 : DataW.trod enc Try.prog w base spare held n 45 ([c4, c5, c6].take (Try.prog.cellsOf 45)) = some y4 := hf 2 _ rfl
      rw [cells_int] at f0 f1
      rw [cells_w] at f4
      obtain ⟨zs, m, _, _, _, hz, hg⟩ := DataW.trod_array Try.underlying45 f4
      match zs, hz with
      | [z0, z1, z2], _ =>
        have g0 := hg 0 (by omega)
        have g1 := hg 1 (by omega)
        have g2 := hg 2 (by omega)
        rw [cells_int] at g0 g1 g2
        obtain ⟨k, e0, _⟩ := DataW.trod_int Try.underlying3 f0
        obtain ⟨a, e1, _⟩ := DataW.trod_int Try.underlying3 f1
        obtain ⟨u, e4, _⟩ := DataW.trod_int Try.underlying3 g0
        obtain ⟨v, e5, _⟩ := DataW.trod_int Try.underlying3 g1
        obtain ⟨q, e6, _⟩ := DataW.trod_int Try.underlying3 g2
        simp at e0 e1 e4 e5 e6
        exact ⟨⟨k, a, u, v, q⟩, by simp [Ce.cells, e0, e1, e4, e5, e6]⟩
end
section
variable {H : Type} {enc : TypeId × Value → H} {w : World} {base : Nat}
set_option maxRecDepth 100000 in
theorem open_cells {r : Reach} {b0 : Nat} {v : Value} {d : DataW H} {p : List MemPlace} (hv : Value.okWide Try.prog w r b0 22 v) (h : DataW.Trod enc Try.prog w 0 (fun _ => true) true 22 v d p) :
    ∃ (A : Option Addr) (n c : Nat) (ps : List Ce), v = .slice A n c ∧ n ≤ c ∧ c ≤ maxLen ∧ CLst w w.heap.size A n ps := by
  obtain ⟨A, n, c, rfl⟩ := okWide_slice Try.underlying22 hv
  obtain ⟨fuel, hf⟩ := h
  rcases open_slice Try.underlying22 hf with ⟨hcs, _⟩ | ⟨a, n', c', m, fu, D, Pl, hcs, _, hl, hm, hmm, _, hi⟩
  · simp [Value.cells] at hcs
    obtain ⟨rfl, rfl, rfl⟩ := hcs
    exact ⟨none, 0, 0, [], rfl, Nat.le_refl _, by simp [maxLen], rfl, fun h => absurd h (by omega)⟩
  · simp [Value.cells] at hcs
    obtain ⟨rfl, rfl, rfl⟩ := hcs
    have hmc : m = c := by simpa using hmm
    subst hmc
    have hex : ∀ i, ∃ s : Ce, i < n → ∀ j u, s.cells[j]? = some u → w.cell? (a.add (i * 5 + j)) = some u := by
      intro i
      by_cases hin : i < n
      · obtain ⟨cs', hc, ht⟩ := hi i (by omega)
        rw [cells_lawCell] at hc
        obtain ⟨s, hs⟩ := cell_of_trod ht
        obtain ⟨_, hlen, hat⟩ := World.cells?_some hc
        refine ⟨s, fun _ j u hu => ?_⟩
        have hj : j < 5 := by have := (List.getElem?_eq_some_iff.1 hu).1; simpa [Ce.cells] using this
        have := hat j hj
        rw [Go.Deep.add_add] at this
        rw [this, hs]; exact hu
      · exact ⟨⟨0, 0, 0, 0, 0⟩, fun h => absurd h hin⟩
    obtain ⟨f, hfx⟩ := Classical.axiomOfChoice hex
    refine ⟨some a, n, m, (List.range n).map f, rfl, hl, hm, by simp, fun hn => ?_⟩
    obtain ⟨g, off, spot⟩ := a
    have h0 := hfx 0 hn 0 _ rfl
    have hspot : spot = none := by simpa [Addr.add] using World.cell?_spot h0
    subst hspot
    have hlt := World.block_lt_of_cell? w _ h0
    refine ⟨g, off, rfl, by simpa [Addr.add] using hlt, fun k s hs => ?_⟩
    rw [List.getElem?_map] at hs
    by_cases hk : k < n
    · rw [List.getElem?_range hk] at hs
      have hs' : f k = s := by simpa using hs
      subst hs'
      intro j u hu
      have := hfx k hk j u hu
      rw [← this]
      congr 1
      unfold Addr.add
      split
      · (rename_i h0; simp; try omega)
      · (simp; try omega)
    · rw [List.getElem?_eq_none (by simp; omega)] at hs
      cases hs
end
theorem eqCell_same (s : Ce) (w : World) :
    Calls Try.prog 71 #[.agg #[.int .i64 s.v, .int .i64 s.n, .int .i64 s.a, .int .i64 s.b, .int .i64 s.c], .agg #[.int .i64 s.v, .int .i64 s.n, .int .i64 s.a, .int .i64 s.b, .int .i64 s.c]] w fun e w' => e = .returned (.bool true) ∧ Below w.heap.size w w' := by
  go_enter Try.func71, Try.ntmps71
  go_wp2_with (go_at_call 125; refine (eqIntA3_same _ _ _ _).mono ?_; rintro e w1 ⟨rfl, hb⟩)
  go_ret
  exact ⟨rfl, (((Below.refl _ _).alloc (Nat.le_refl _) _).alloc (by simp) _).trans (hb.mono (by simp; omega))⟩
theorem eqCellS_same (A A2 : Option Addr) (n c c2 : Nat) (ps : List Ce) (w : World) (h : CLst w w.heap.size A n ps) (h2 : CLst w w.heap.size A2 n ps) (hn : n ≤ maxLen) :
    Calls Try.prog 19 #[.slice A n c, .slice A2 n c2] w fun e w' => e = .returned (.bool true) ∧ Below w.heap.size w w' := by
  unfold maxLen at hn
  have hH := Lib.hid h
  have hH2 := Lib.hid h2
  clear h h2
  go_enter Try.func19, Try.ntmps19
  go_wp2
  go_loopw [5] (fun i wr => ∃ k : Nat, k ≤ n ∧ i = .int .i64 k ∧ Below w.heap.size w wr) (fun i _ => n - (intOf i).toNat)
  case atStart => exact ⟨0, Nat.zero_le _, rfl, Below.refl _ _⟩
  case round =>
    obtain ⟨k, hk, rfl, hb⟩ := hrel
    by_cases hlt : k < n
    · obtain ⟨g, off, s, rfl, hg, hs, hat⟩ := (hH.out.below hb).at_ hlt
      obtain ⟨g2, off2, s2, rfl, hg2, hs2, hat2⟩ := (hH2.out.below hb).at_ hlt
      have e : s2 = s := by rw [hs] at hs2; injection hs2 with e; exact e.symm
      subst e
      obtain ⟨c0, c1, c2', c3, c4⟩ := hat.open_
      obtain ⟨d0, d1, d2, d3, d4⟩ := hat2.open_
      have hz := hb.size
      clear hs hs2 hat hat2
      have hk0 : (0 : Int) ≤ (k : Int) := Int.natCast_nonneg _
      have hk1 : (k : Int) < (n : Int) := by omega
      go_wp2
      go_still_tail 8, (by kernel_rfl)
      change wpList _ _ _ _ _ wr.drew
      go_wp2_with (go_at_call 71; refine (eqCell_same s2 _).mono ?_; rintro e w1 ⟨rfl, hb1⟩)
      go_roundw
      case rel => exact ⟨k + 1, by omega, by go_num, (hb.trans (Below.refl _ _).drew).trans (hb1.mono hz)⟩
      case measure => (simp [intOf]; try omega)
    · go_wp2
      go_ret
      exact ⟨rfl, hb⟩

def CFill (cs : Array Value) (ps : List Ce) (n k : Nat) : Prop := cs.size = n * 5 ∧ ∀ i s, i < k → ps[i]? = some s → ∀ j u, s.cells[j]? = some u → cs[i * 5 + j]? = some u

def put5c (cs : Array Value) (o : Nat) (s : Ce) : Array Value :=
  ((((cs.setIfInBounds o (.int .i64 s.v)).setIfInBounds (o + 1) (.int .i64 s.n)).setIfInBounds (o + 2) (.int .i64 s.a)).setIfInBounds (o + 3) (.int .i64 s.b)).setIfInBounds (o + 4) (.int .i64 s.c)
theorem put5c_size (cs : Array Value) (o : Nat) (s : Ce) : (put5c cs o s).size = cs.size := by simp [put5c]
theorem put5c_far (cs : Array Value) (o x : Nat) (s : Ce) (h : x < o ∨ o + 5 ≤ x) : (put5c cs o s)[x]? = cs[x]? := by
  unfold put5c
  simp only [Array.getElem?_setIfInBounds, Array.size_setIfInBounds]
  repeat rw [if_neg (by omega)]
theorem put5c_at (cs : Array Value) (o : Nat) (s : Ce) (h : o + 5 ≤ cs.size) {j : Nat} {u : Value} (hu : s.cells[j]? = some u) : (put5c cs o s)[o + j]? = some u := by
  have hj : j < 5 := by have := (List.getElem?_eq_some_iff.1 hu).1; simpa [Ce.cells] using this
  unfold put5c
  obtain rfl | rfl | rfl | rfl | rfl : j = 0 ∨ j = 1 ∨ j = 2 ∨ j = 3 ∨ j = 4 := by omega
  · rw [put_ne (by omega), put_ne (by omega), put_ne (by omega), put_ne (by omega), put_at (by simp; omega)]; exact hu
  · rw [put_ne (by omega), put_ne (by omega), put_ne (by omega), put_at (by simp; omega)]; exact hu
  · rw [put_ne (by omega), put_ne (by omega), put_at (by simp; omega)]; exact hu
  · rw [put_ne (by omega), put_at (by simp; omega)]; exact hu
  · rw [put_at (by simp; omega)]; exact hu
theorem CFill.step {cs : Array Value} {ps : List Ce} {n k : Nat} {s : Ce} (h : CFill cs ps n k) (hs : ps[k]? = some s) (hk : k < n) : CFill (put5c cs (k * 5) s) ps n (k + 1) := by
  refine ⟨by rw [put5c_size]; exact h.1, fun i q hi hq j u hu => ?_⟩
  have hj : j < 5 := by have := (List.getElem?_eq_some_iff.1 hu).1; simpa [Ce.cells] using this
  by_cases hik : i = k
  · subst hik
    obtain rfl : s = q := Option.some.inj (hs.symm.trans hq)
    exact put5c_at cs _ _ (by rw [h.1]; omega) hu
  · rw [put5c_far cs _ _ _ (by omega)]
    exact h.2 i q (by omega) hq j u hu

theorem CFill.done {cs : Array Value} {ps : List Ce} {n : Nat} (h : CFill cs ps n n) (hL : ps.length = n) : cs.toList = cflat ps := by
  apply List.ext_getElem?
  intro x
  rw [Array.getElem?_toList]
  by_cases hx : x < n * 5
  · have hi : x / 5 < ps.length := by rw [hL]; omega
    have hr : x % 5 < (ps[x / 5]).cells.length := by simp [Ce.cells]; omega
    have h1 := h.2 (x / 5) ps[x / 5] (by omega) (List.getElem?_eq_getElem hi) (x % 5) _ (List.getElem?_eq_getElem hr)
    have h2 := cflat_at (List.getElem?_eq_getElem hi) (List.getElem?_eq_getElem hr)
    rw [show x / 5 * 5 + x % 5 = x by omega] at h1 h2
    rw [h1, h2]
  · rw [Array.getElem?_eq_none (by rw [h.1]; omega), List.getElem?_eq_none (by rw [cflat_length, hL]; omega)]

theorem Has.put5c {w : World} {g : Nat} {cs : Array Value} (h : Has w g 47 cs) (o : Nat) (s : Ce) :
    Has (((((w.setCell ⟨g, o, none⟩ (.int .i64 s.v)).setCell ⟨g, o + 1, none⟩ (.int .i64 s.n)).setCell ⟨g, o + 2, none⟩ (.int .i64 s.a)).setCell ⟨g, o + 3, none⟩ (.int .i64 s.b)).setCell ⟨g, o + 4, none⟩ (.int .i64 s.c)) g 47 (put5c cs o s) :=
  ((((h.put o _).put (o + 1) _).put (o + 2) _).put (o + 3) _).put (o + 4) _
theorem Has.clst {w : World} {g n : Nat} {cs : Array Value} {ps : List Ce} (h : Has w g 47 cs) (hf : cs.toList = cflat ps) (hL : ps.length = n) : CLst w w.heap.size (some ⟨g, 0, none⟩) n ps := by
  refine ⟨hL, fun _ => ⟨g, 0, rfl, h.lt, fun k s hs j u hu => ?_⟩⟩
  rw [Nat.zero_add, h.cell, ← Array.getElem?_toList, hf]
  exact cflat_at hs hu

def CCopied (w : World) (n : Nat) (ps : List Ce) (e : Ending) (w' : World) : Prop :=
  ∃ g cs, e = .returned (.slice (some ⟨g, 0, none⟩) n n) ∧ w.heap.size ≤ g ∧ Has w' g 47 cs ∧ cs.toList = cflat ps ∧ Below w.heap.size w w'

theorem toCellS_any (A : Option Addr) (n c : Nat) (ps : List Ce) (w : World) (h : CLst w w.heap.size A n ps) (hn : n ≤ 1048576) :
    Calls Try.prog 17 #[.slice A n c] w fun e w' => CCopied w n ps e w' := by
  have hH := Lib.hid h
  have hL := Lib.hid h.1
  clear h
  obtain ⟨i0, hi0, hz0, hz1', hz2'⟩ := info_parts info_cell
  have hmk : ∀ wx : World, (Instr.makeSlice 25 (.int .i64 (n : Int)) (.int .i64 (n : Int))).run Try.prog wx = .ok (.slice (some ⟨wx.heap.size, 0, none⟩) n n) (wx.alloc (.cells (madeCells (Value.agg #[.int .i64 0, .int .i64 0, .int .i64 0, .int .i64 0, .int .i64 0]).cells (n * 5)) 47)) := by
    intro wx
    have hr := run_make (P := Try.prog) wx 25 47 i0 _ Try.underlying25 hi0 hz0 .i64 .i64 (n : Int) (n : Int) (by omega) (by omega) (by rw [hz2']; omega) (by omega)
    rw [hz1'] at hr
    simp only [Int.toNat_natCast] at hr
    exact hr
  go_enter Try.func17, Try.ntmps17
  go_wp2
  have hhas0 := Has.new w 47 (madeCells #[.int .i64 0, .int .i64 0, .int .i64 0, .int .i64 0, .int .i64 0] (n * 5))
  have hfill0 : CFill (madeCells #[.int .i64 0, .int .i64 0, .int .i64 0, .int .i64 0, .int .i64 0] (n * 5)) ps n 0 := ⟨size_madeCells _ _, fun i s hi => absurd hi (by omega)⟩
  have hb0 : Below w.heap.size w (w.alloc (.cells (madeCells #[.int .i64 0, .int .i64 0, .int .i64 0, .int .i64 0, .int .i64 0] (n * 5)) 47)) := (Below.refl _ _).alloc (Nat.le_refl _) _
  have hF0 := Lib.hid hfill0
  have hH0 := Lib.hid hhas0
  clear hfill0 hhas0 hmk
  generalize hw0 : w.alloc (.cells (madeCells #[.int .i64 0, .int .i64 0, .int .i64 0, .int .i64 0, .int .i64 0] (n * 5)) 47) = w0 at hb0 hH0 ⊢
  clear hw0
  go_loopw [4] (fun i wr => ∃ (k : Nat) (cs : Array Value), k ≤ n ∧ i = .int .i64 k ∧ Has wr w.heap.size 47 cs ∧ CFill cs ps n k ∧ Below w.heap.size w wr) (fun i _ => n - (intOf i).toNat)
  case atStart => exact ⟨0, _, Nat.zero_le _, rfl, hH0.out, hF0.out, hb0⟩
  case round =>
    obtain ⟨k, cs, hk, rfl, hhas, hfill, hb⟩ := hrel
    have hHas := Lib.hid hhas
    have hFill := Lib.hid hfill
    have hzz := hhas.lt
    clear hhas hfill
    by_cases hlt : k < n
    · obtain ⟨g, off, s, rfl, hg, hs, hat⟩ := (hH.out.below hb).at_ hlt
      obtain ⟨c0, c1, c2, c3, c4⟩ := hat.open_
      have hS := Lib.hid hs
      clear hs hat
      go_wp2_with fail
      refine (toCell_any s _).mono ?_
      rintro e w1 ⟨rfl, hb1⟩
      have hB1 := Lib.hid (hb.trans (hb1.mono (by omega)))
      have hHas1 := Lib.hid (hHas.out.kept hb1)
      have hN := Lib.hid (hHas1.out.put5c (k * 5) s)
      have hfz := hHas1.out.frozen
      have hold : ∀ r, r < 5 → ∃ u, w1.cell? ⟨w.heap.size, k * 5 + r, none⟩ = some u := fun r hr => by
        rw [hHas1.out.cell]
        have := hFill.out.1
        exact ⟨_, Array.getElem?_eq_getElem (by omega)⟩
      obtain ⟨u0, e0⟩ := hold 0 (by omega)
      obtain ⟨u1, e1⟩ := hold 1 (by omega)
      obtain ⟨u2, e2⟩ := hold 2 (by omega)
      obtain ⟨u3, e3⟩ := hold 3 (by omega)
      obtain ⟨u4, e4⟩ := hold 4 (by omega)
      rw [Nat.add_zero] at e0
      clear hold hb1 c0 c1 c2 c3 c4
      go_wp2
      go_roundw
      case rel =>
        refine ⟨k + 1, _, by omega, by go_num, hN.out, hFill.out.step hS.out hlt, ?_⟩
        repeat (refine Below.setCell ?_ (by simp) _)
        exact hB1.out
      case measure => (simp [intOf]; try omega)
    · obtain rfl : n = k := by omega
      have hD := Lib.hid (hFill.out.done hL.out)
      go_wp2
      go_ret
      exact ⟨_, cs, rfl, Nat.le_refl _, hHas.out, hD.out, hb⟩

/-- The cell whose five numbers are m, m + 1, .., m + 4. -/
def mkCe (m : Int) : Ce := ⟨m, m + 1, m + 1 + 1, m + 1 + 1 + 1, m + 1 + 1 + 1 + 1⟩
def cmarks (m : Int) (n : Nat) : List Ce := (List.range n).map fun (i : Nat) => mkCe (m + 5 * i)
theorem cmarks_length (m : Int) (n : Nat) : (cmarks m n).length = n := by simp [cmarks]
theorem cmarks_get (m : Int) {n i : Nat} (h : i < n) : (cmarks m n)[i]? = some (mkCe (m + 5 * i)) := by
  unfold cmarks
  rw [List.getElem?_map, List.getElem?_range h]; rfl

def CWr (w : World) (A : Option Addr) (n : Nat) : Prop := 0 < n → ∃ g cs, A = some ⟨g, 0, none⟩ ∧ Has w g 47 cs ∧ n * 5 ≤ cs.size

def CMk (cs : Array Value) (m : Int) (n k : Nat) : Prop := n * 5 ≤ cs.size ∧ ∀ i, i < k → ∀ j u, (mkCe (m + 5 * i)).cells[j]? = some u → cs[i * 5 + j]? = some u

theorem CMk.step {cs : Array Value} {m : Int} {n k : Nat} (h : CMk cs m n k) (hk : k < n) : CMk (put5c cs (k * 5) (mkCe (m + 5 * k))) m n (k + 1) := by
  refine ⟨by rw [put5c_size]; exact h.1, fun i hi j u hu => ?_⟩
  have hj : j < 5 := by have := (List.getElem?_eq_some_iff.1 hu).1; simpa [Ce.cells] using this
  by_cases hik : i = k
  · subst hik
    exact put5c_at cs _ _ (by have := h.1; omega) hu
  · rw [put5c_far cs _ _ _ (by omega)]
    exact h.2 i (by omega) j u hu

theorem CMk.lst {w : World} {g n : Nat} {cs : Array Value} {m : Int} (hh : Has w g 47 cs) (h : CMk cs m n n) : CLst w w.heap.size (some ⟨g, 0, none⟩) n (cmarks m n) := by
  refine ⟨cmarks_length m n, fun _ => ⟨g, 0, rfl, hh.lt, fun k s hs j u hu => ?_⟩⟩
  have hk : k < n := by have := (List.getElem?_eq_some_iff.1 hs).1; rwa [cmarks_length] at this
  rw [cmarks_get m hk] at hs
  obtain rfl := Option.some.inj hs
  rw [Nat.zero_add, hh.cell]
  exact h.2 k hk j u hu

theorem heldCellS_any (A : Option Addr) (n c : Nat) (m : Int) (w : World) (h : CLst w w.heap.size A n (cmarks m n)) (hm : 1 ≤ m) (hm2 : m ≤ 1000000000) (hn : n ≤ 100000000) :
    Calls Try.prog 31 #[.slice A n c, .int .i64 m] w fun e w' => e = .returned (.int .i64 (m + 5 * n)) ∧ w = w' := by
  have hH := Lib.hid h
  clear h
  go_enter Try.func31, Try.ntmps31
  go_wp2
  go_loop [1, 5] (fun q i => ∃ k : Nat, k ≤ n ∧ i = .int .i64 k ∧ q = .int .i64 (m + 5 * k)) (fun _ i => n - (intOf i).toNat)
  case atStart => exact ⟨0, Nat.zero_le _, rfl, by simp⟩
  case round =>
    obtain ⟨k, hk, rfl, rfl⟩ := hrel
    by_cases hlt : k < n
    · obtain ⟨g, off, s, rfl, hg, hs, hat⟩ := hH.out.at_ hlt
      rw [cmarks_get m hlt] at hs
      obtain rfl := Option.some.inj hs
      obtain ⟨c0, c1, c2, c3, c4⟩ := hat.open_
      simp only [mkCe] at c0 c1 c2 c3 c4
      clear hs hat
      go_wp2
      go_loop [1, 6] (fun q i => (i = .int .i64 0 ∧ q = .int .i64 (m + 5 * k + 1 + 1)) ∨ (i = .int .i64 1 ∧ q = .int .i64 (m + 5 * k + 1 + 1 + 1)) ∨ (i = .int .i64 2 ∧ q = .int .i64 (m + 5 * k + 1 + 1 + 1 + 1)) ∨ (i = .int .i64 3 ∧ q = .int .i64 (m + 5 * k + 1 + 1 + 1 + 1 + 1))) (fun _ i => 3 - (intOf i).toNat)
      case atStart => exact .inl ⟨rfl, rfl⟩
      case round =>
        rcases hrel with ⟨rfl, rfl⟩ | ⟨rfl, rfl⟩ | ⟨rfl, rfl⟩ | ⟨rfl, rfl⟩
        · go_wp2
          go_round
          case rel => exact .inr (.inl ⟨rfl, rfl⟩)
          case measure => simp [intOf]
        · go_wp2
          go_round
          case rel => exact .inr (.inr (.inl ⟨rfl, rfl⟩))
          case measure => simp [intOf]
        · go_wp2
          go_round
          case rel => exact .inr (.inr (.inr ⟨rfl, rfl⟩))
          case measure => simp [intOf]
        · go_wp2
          exact ⟨⟨k + 1, by omega, by go_num, congrArg (Value.int .i64) (by omega)⟩, by simp [intOf]; omega⟩
    · obtain rfl : n = k := by omega
      go_wp2
      go_ret
      exact ⟨rfl, rfl⟩

/-- Two of five numbers written. -/
def put2c (cs : Array Value) (o : Nat) (m : Int) : Array Value := (cs.setIfInBounds o (.int .i64 m)).setIfInBounds (o + 1) (.int .i64 (m + 1))
def put3c (cs : Array Value) (o : Nat) (m : Int) : Array Value := (put2c cs o m).setIfInBounds (o + 2) (.int .i64 (m + 1 + 1))
def put4c (cs : Array Value) (o : Nat) (m : Int) : Array Value := (put3c cs o m).setIfInBounds (o + 3) (.int .i64 (m + 1 + 1 + 1))
theorem put5c_eq (cs : Array Value) (o : Nat) (m : Int) : put5c cs o (mkCe m) = (put4c cs o m).setIfInBounds (o + 4) (.int .i64 (m + 1 + 1 + 1 + 1)) := rfl
def CMarked (w : World) (A : Option Addr) (n : Nat) (m : Int) (e : Ending) (w' : World) : Prop :=
  e = .returned (.int .i64 (m + 5 * n)) ∧ Only w w' A ∧ CLst w' w'.heap.size A n (cmarks m n)

set_option maxHeartbeats 1000000 in
theorem markCellS_any (A : Option Addr) (n c : Nat) (m : Int) (w : World) (h : CWr w A n) (hm : 1 ≤ m) (hm2 : m ≤ 1000000000) (hn : n ≤ 100000000) :
    Calls Try.prog 25 #[.slice A n c, .int .i64 m] w (CMarked w A n m) := by
  by_cases hn0 : n = 0
  · subst hn0
    clear h
    go_enter Try.func25, Try.ntmps25
    go_wp2
    go_loop [1, 5] (fun q i => i = .int .i64 0 ∧ q = .int .i64 m) (fun _ i => 0)
    case atStart => exact ⟨rfl, rfl⟩
    case round =>
      obtain ⟨rfl, rfl⟩ := hrel
      go_wp2
      go_ret
      exact ⟨ret_int (by omega), Only.of_same rfl, rfl, fun h => absurd h (by omega)⟩
  · obtain ⟨g, cs0, rfl, hh0, hs0⟩ := h (by omega)
    have hH0 := Lib.hid hh0
    clear hh0
    go_enter Try.func25, Try.ntmps25
    go_wp2
    go_loopw [1, 5] (fun q i wr => ∃ (k : Nat) (cs : Array Value), k ≤ n ∧ i = .int .i64 k ∧ q = .int .i64 (m + 5 * k) ∧ Has wr g 47 cs ∧ CMk cs m n k ∧ w.grownBy wr (some g)) (fun _ i _ => n - (intOf i).toNat)
    case atStart => exact ⟨0, cs0, Nat.zero_le _, rfl, by simp, hH0.out, ⟨hs0, fun i hi => absurd hi (by omega)⟩, World.grownBy.refl w _⟩
    case round =>
      obtain ⟨k, cs, hk, rfl, rfl, hhas, hmk, hgr⟩ := hrel
      have hHas := Lib.hid hhas
      have hMk := Lib.hid hmk
      have hGr := Lib.hid hgr
      clear hgr
      by_cases hlt : k < n
      · have hfz := hhas.frozen
        have hsz := hmk.1
        obtain ⟨u0, e0⟩ := hhas.size_cell (x := k * 5) (by omega)
        obtain ⟨u1, e1⟩ := hhas.size_cell (x := k * 5 + 1) (by omega)
        clear hhas hmk
        go_wp2
        have hP4 := Lib.hid ((hHas.out.put (k * 5) (.int .i64 (m + 5 * k))).put (k * 5 + 1) (.int .i64 (m + 5 * k + 1)))
        have hG4 := Lib.hid (only_put (only_put hGr.out (k * 5) (.int .i64 (m + 5 * k))) (k * 5 + 1) (.int .i64 (m + 5 * k + 1)))
        go_loopw [1, 6] (fun q i wq => (i = .int .i64 0 ∧ q = .int .i64 (m + 5 * k + 1 + 1) ∧ Has wq g 47 (put2c cs (k * 5) (m + 5 * k)) ∧ w.grownBy wq (some g)) ∨ (i = .int .i64 1 ∧ q = .int .i64 (m + 5 * k + 1 + 1 + 1) ∧ Has wq g 47 (put3c cs (k * 5) (m + 5 * k)) ∧ w.grownBy wq (some g)) ∨ (i = .int .i64 2 ∧ q = .int .i64 (m + 5 * k + 1 + 1 + 1 + 1) ∧ Has wq g 47 (put4c cs (k * 5) (m + 5 * k)) ∧ w.grownBy wq (some g)) ∨ (i = .int .i64 3 ∧ q = .int .i64 (m + 5 * k + 1 + 1 + 1 + 1 + 1) ∧ Has wq g 47 (put5c cs (k * 5) (mkCe (m + 5 * k))) ∧ w.grownBy wq (some g))) (fun _ i _ => 3 - (intOf i).toNat)
        case atStart => exact .inl ⟨rfl, rfl, hP4.out, hG4.out⟩
        case round =>
          clear e0 e1 hfz
          rcases hrel with ⟨rfl, rfl, hp, hg⟩ | ⟨rfl, rfl, hp, hg⟩ | ⟨rfl, rfl, hp, hg⟩ | ⟨rfl, rfl, hp, hg⟩
          · obtain ⟨v0, f0⟩ := hp.size_cell (x := k * 5 + 2) (by simp [put2c]; omega)
            have hfz := hp.frozen
            have hN := Lib.hid (hp.put (k * 5 + 2) (.int .i64 (m + 5 * k + 1 + 1)))
            have hG := Lib.hid (only_put hg (k * 5 + 2) (.int .i64 (m + 5 * k + 1 + 1)))
            clear hp hg
            go_wp2
            go_roundw
            case rel => exact .inr (.inl ⟨rfl, rfl, hN.out, hG.out⟩)
            case measure => simp [intOf]
          · obtain ⟨v0, f0⟩ := hp.size_cell (x := k * 5 + 3) (by simp [put2c, put3c]; omega)
            have hfz := hp.frozen
            have hN := Lib.hid (hp.put (k * 5 + 3) (.int .i64 (m + 5 * k + 1 + 1 + 1)))
            have hG := Lib.hid (only_put hg (k * 5 + 3) (.int .i64 (m + 5 * k + 1 + 1 + 1)))
            clear hp hg
            go_wp2
            go_roundw
            case rel => exact .inr (.inr (.inl ⟨rfl, rfl, hN.out, hG.out⟩))
            case measure => simp [intOf]
          · obtain ⟨v0, f0⟩ := hp.size_cell (x := k * 5 + 4) (by simp [put2c, put3c, put4c]; omega)
            have hfz := hp.frozen
            have hN := Lib.hid (hp.put (k * 5 + 4) (.int .i64 (m + 5 * k + 1 + 1 + 1 + 1)))
            have hG := Lib.hid (only_put hg (k * 5 + 4) (.int .i64 (m + 5 * k + 1 + 1 + 1 + 1)))
            clear hp hg
            go_wp2
            go_roundw
            case rel => exact .inr (.inr (.inr (⟨rfl, rfl, hN.out, hG.out⟩)))
            case measure => simp [intOf]
          · have hP := Lib.hid hp
            have hG := Lib.hid hg
            clear hp hg
            go_wp2
            exact ⟨⟨k + 1, _, by omega, by go_num, congrArg (Value.int .i64) (by omega), hP.out, hMk.out.step hlt, hG.out⟩, by simp [intOf]; omega⟩
      · obtain rfl : n = k := by omega
        have hLs := Lib.hid (CMk.lst hHas.out hMk.out)
        go_wp2
        go_ret
        exact ⟨rfl, hGr.out, hLs.out⟩

theorem szC_yes (A : Option Addr) (n c : Nat) (left : Int) (w : World) (hn : n ≤ maxLen) (h0 : (n : Int) ≤ left) (h1 : left ≤ 1048576) :
    Calls Try.prog 15 #[.slice A n c, .int .i64 left] w fun e w' => e = .returned (.int .i64 (left - n)) ∧ w = w' := by
  unfold maxLen at hn
  go_enter Try.func15, Try.ntmps15
  go_wp2
  go_ret
  exact ⟨rfl, rfl⟩
theorem szC_no (A : Option Addr) (n c : Nat) (left : Int) (w : World) (hn : n ≤ maxLen) (hl : 0 ≤ left) (h0 : left < (n : Int)) (h1 : left ≤ 1048576) :
    Calls Try.prog 15 #[.slice A n c, .int .i64 left] w fun e w' => e = .returned (.int .i64 (-1)) ∧ w = w' := by
  unfold maxLen at hn
  go_enter Try.func15, Try.ntmps15
  go_wp2
  go_ret
  exact ⟨rfl, rfl⟩
def CLstB (lo hi : Nat) (A : Option Addr) (n : Nat) (ps : List Ce) (w : World) : Prop := CLst w w.heap.size A n ps ∧ ∀ a, A = some a → lo ≤ a.block ∧ a.block < hi
theorem CLstB.pl {w : World} {lo hi n : Nat} {A : Option Addr} {ps : List Ce} (h : CLst w w.heap.size A n ps) (hA : ∀ k, A.map (·.block) = some k → lo ≤ k ∧ k < hi) (hh : hi ≤ w.heap.size) : Pl (CLstB lo hi A n ps) lo hi w := by
  refine ⟨⟨h, fun a e => hA a.block (by rw [e]; rfl)⟩, hh, fun a b ha hs hab hk => ⟨⟨ha.1.1, fun hn => ?_⟩, ha.2⟩⟩
  obtain ⟨g, off, e, hg, hc⟩ := ha.1.2 hn
  have hg2 := ha.2 _ e
  refine ⟨g, off, e, Nat.lt_of_lt_of_le hg hab, fun k d hd j u hu => (World.cell?_of_block ?_).trans (hc k d hd j u hu)⟩
  exact hk g hg2.1 hg2.2
theorem COwn.of_has {w : World} {base g n : Nat} {cs : Array Value} {ps : List Ce} (h : Has w g 47 cs) (hf : cs.toList = cflat ps) (hL : ps.length = n) (hg : base ≤ g) (hm : n ≤ maxLen) : w.ownsRow base 47 5 (.slice (some ⟨g, 0, none⟩) n n) n (cflat ps) := by
  have hs : cs.size = n * 5 := by
    have := congrArg List.length hf
    rw [cflat_length] at this
    simpa [hL] using this
  refine ⟨by rw [cflat_length, hL], .inr ⟨g, n, cs, rfl, hg, h, Nat.le_refl _, hm, hs, ?_⟩⟩
  rw [hf, List.take_of_length_le (by rw [cflat_length, hL]; exact Nat.le_refl _)]
theorem ownC_lst {w : World} {base n c : Nat} {A : Option Addr} {ps : List Ce} (h : w.ownsRow base 47 5 (.slice A n c) n (cflat ps)) : CLst w w.heap.size A n ps := by
  have hl : ps.length = n := by have := h.1; rw [cflat_length] at this; omega
  subst hl
  exact COwn.lst h
theorem ownC_wr {w : World} {base n c : Nat} {A : Option Addr} {xs : List Value} (h : w.ownsRow base 47 5 (.slice A n c) n xs) : CWr w A n := by
  intro hn
  rcases h.2 with ⟨hv, h0⟩ | ⟨g, cap, cur, hv, hg, hh, h1, h2, h3, h4⟩
  · omega
  · injection hv with e1 e2 _
    exact ⟨g, cur, e1, hh, by rw [h3]; exact Nat.mul_le_mul_right _ h1⟩
theorem toCellS_own (A : Option Addr) (n c : Nat) (ps : List Ce) (w : World) (h : CLst w w.heap.size A n ps) (hn : n ≤ 1048576) :
    Calls Try.prog 17 #[.slice A n c] w fun e w' => ∃ g, e = .returned (.slice (some ⟨g, 0, none⟩) n n) ∧ Pl (OwnB w.heap.size w'.heap.size 47 5 n (.slice (some ⟨g, 0, none⟩) n n) (cflat ps)) w.heap.size w'.heap.size w' ∧ Below w.heap.size w w' := by
  have hL := h.1
  refine (toCellS_any A n c ps w h hn).mono ?_
  rintro e w1 ⟨g, cs, rfl, hg, hh, hf, hb⟩
  exact ⟨g, rfl, OwnB.pl (COwn.of_has hh hf hL hg (by unfold maxLen; omega)), hb⟩
theorem markC_pl (A : Option Addr) (n c lo hi : Nat) (m : Int) (xs : List Value) (w : World) (h : Pl (OwnB lo hi 47 5 n (.slice A n c) xs) lo hi w) (hm : 1 ≤ m) (hm2 : m ≤ 1000000000) (hn : n ≤ 100000000) :
    Calls Try.prog 25 #[.slice A n c, .int .i64 m] w fun e w' => e = .returned (.int .i64 (m + 5 * n)) ∧ KeptBut w w' (fun k => lo ≤ k ∧ k < hi) ∧ Pl (CLstB lo hi A n (cmarks m n)) lo hi w' := by
  refine (markCellS_any A n c m w (ownC_wr h.1.1) hm hm2 hn).mono ?_
  rintro e w1 ⟨rfl, ho, hl⟩
  have hA := OwnB.blk h.1
  exact ⟨rfl, (only_but ho).mono (fun k _ e => hA k e), CLstB.pl hl hA (Nat.le_trans h.2.1 ho.size)⟩
end Go.Proofs.Ytghkpmafocacoaa
