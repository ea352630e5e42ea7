/- Lists of statements in memory. Lists of statements that a call has made itself. -/
import Derived.Test.YtbndonfpdioibaaStZ
import Derived.Test.YtbndonfpdioibaaUn
import Derived.Deep.LoopGhost
import Derived.OwnWalk
namespace Go.Proofs.Ytbndonfpdioibaa
set_option maxRecDepth 100000
open Go.RowKit

/-- The seven cells from o on in block g are a statement. -/
def StAt (w : World) (g o : Nat) (s : St) : Prop := ∀ j u, s.cells[j]? = some u → w.cell? ⟨g, o + j, none⟩ = some u

theorem StAt.open_ {w : World} {g o : Nat} {s : St} (h : StAt w g o s) :
    w.cell? ⟨g, o, none⟩ = some (.int .i64 s.k) ∧ w.cell? ⟨g, o + 1, none⟩ = some (.int .i64 s.a) ∧ w.cell? ⟨g, o + 2, none⟩ = some (.int .i64 s.b) ∧ w.cell? ⟨g, o + 3, none⟩ = some (.int .i64 s.c) ∧
    w.cell? ⟨g, o + 4, none⟩ = some (.int .i64 s.u) ∧ w.cell? ⟨g, o + 5, none⟩ = some (.int .i64 s.v) ∧ w.cell? ⟨g, o + 6, none⟩ = some (.int .i64 s.x) :=
  ⟨h 0 _ rfl, h 1 _ rfl, h 2 _ rfl, h 3 _ rfl, h 4 _ rfl, h 5 _ rfl, h 6 _ rfl⟩

/-- A slice's value reads as a list of statements, all below block B. -/
def Lst (w : World) (B : Nat) (A : Option Addr) (n : Nat) (ps : List St) : Prop :=
  ps.length = n ∧ (0 < n → ∃ g off, A = some ⟨g, off, none⟩ ∧ g < B ∧ ∀ k s, ps[k]? = some s → StAt w g (off + k * 7) s)

theorem StAt.keep {w w' : World} {g o : Nat} {s : St} (h : StAt w g o s) (hk : ∀ p : Addr, p.block = g → w'.cell? p = w.cell? p) : StAt w' g o s := fun j u hu => (hk _ rfl).trans (h j u hu)
theorem Lst.keep {w w' : World} {B : Nat} {A : Option Addr} {n : Nat} {ps : List St} (h : Lst w B A n ps) (hk : ∀ p : Addr, p.block < B → w'.cell? p = w.cell? p) : Lst w' B A n ps :=
  ⟨h.1, fun hn => by
    obtain ⟨g, off, e, hg, hc⟩ := h.2 hn
    exact ⟨g, off, e, hg, fun k s hs => (hc k s hs).keep fun p hp => hk p (by omega)⟩⟩
theorem Lst.below {w w' : World} {B : Nat} {A : Option Addr} {n : Nat} {ps : List St} (h : Lst w B A n ps) (hb : Below B w w') : Lst w' B A n ps := h.keep fun _ hp => hb.cell hp
theorem Lst.more {w : World} {B B' : Nat} {A : Option Addr} {n : Nat} {ps : List St} (h : Lst w B A n ps) (hB : B ≤ B') : Lst w B' A n ps :=
  ⟨h.1, fun hn => by
    obtain ⟨g, off, e, hg, hc⟩ := h.2 hn
    exact ⟨g, off, e, by omega, hc⟩⟩
theorem Lst.at_ {w : World} {B : Nat} {A : Option Addr} {n k : Nat} {ps : List St} (h : Lst w B A n ps) (hk : k < n) :
    ∃ (g off : Nat) (s : St), A = some ⟨g, off, none⟩ ∧ g < B ∧ ps[k]? = some s ∧ StAt w g (off + k * 7) s := by
  obtain ⟨g, off, e, hg, hc⟩ := h.2 (by omega)
  have hl : k < ps.length := by have := h.1; omega
  exact ⟨g, off, ps[k], e, hg, List.getElem?_eq_getElem hl, hc k _ (List.getElem?_eq_getElem hl)⟩

theorem all_take_succ {ps : List St} {k : Nat} {s : St} (h : ps[k]? = some s) (f : St → Bool) : (ps.take (k + 1)).all f = ((ps.take k).all f && f s) := by
  have hl : k < ps.length := (List.getElem?_eq_some_iff.1 h).1
  rw [List.take_succ_eq_append_getElem hl, List.all_append]
  have : ps[k] = s := (List.getElem?_eq_some_iff.1 h).2
  simp [this]
theorem all_no {ps : List St} {k : Nat} {s : St} (h : ps[k]? = some s) {f : St → Bool} (hf : f s = false) : ps.all f = false := by
  rw [List.all_eq_false]
  exact ⟨s, List.mem_of_getElem? h, by simp [hf]⟩

theorem StmtOk_st (s : St) (w : World) :
    Calls Try.prog 144 #[.agg #[.int .i64 s.k, .int .i64 s.a, .int .i64 s.b, .int .i64 s.c, .int .i64 s.u, .int .i64 s.v, .int .i64 s.x]] w fun e w' => e = .returned (.bool s.ok) ∧ Below w.heap.size w w' := StmtOk_any s.k s.a s.b s.c s.u s.v s.x w
theorem specStmtOk_st (s : St) (w : World) :
    Calls Try.prog 118 #[.agg #[.int .i64 s.k, .int .i64 s.a, .int .i64 s.b, .int .i64 s.c, .int .i64 s.u, .int .i64 s.v, .int .i64 s.x]] w fun e w' => e = .returned (.bool s.ok) ∧ Below w.heap.size w w' := specStmtOk_any s.k s.a s.b s.c s.u s.v s.x w

theorem stmtsOk_any (A : Option Addr) (n c : Nat) (ps : List St) (w : World) (h : Lst w w.heap.size A n ps) (hn : n ≤ maxLen) :
    Calls Try.prog 88 #[.slice A n c] w fun e w' => e = .returned (.bool (ps.all St.ok)) ∧ Below w.heap.size w w' := by
  unfold maxLen at hn
  have hL := Lib.hid h.1
  have hH := Lib.hid h
  clear h
  go_enter Try.func88, Try.ntmps88
  go_wp2
  go_loopw [7] (fun i wr => ∃ k : Nat, k ≤ n ∧ i = .int .i64 k ∧ (ps.take k).all St.ok = true ∧ Below w.heap.size w wr) (fun i _ => n - (intOf i).toNat)
  case atStart => exact ⟨0, Nat.zero_le _, rfl, by simp, Below.refl _ _⟩
  case round =>
    obtain ⟨k, hk, rfl, hall, hb⟩ := hrel
    have hAll := Lib.hid hall
    clear hall
    by_cases hlt : k < n
    · obtain ⟨g, off, s, rfl, hg, hs, hat⟩ := (hH.out.below hb).at_ hlt
      obtain ⟨c0, c1, c2, c3, c4, c5, c6⟩ := hat.open_
      have hS := Lib.hid hs
      have hz := hb.size
      clear hs hat
      cases hok : s.ok
      · have hR := Lib.hid (all_no hS.out hok)
        go_wp2_with (go_at_call 144; refine (StmtOk_st s _).mono ?_; rw [hok]; rintro e w1 ⟨rfl, hb1⟩)
        go_ret
        exact ⟨ret_bool hR.out, (hb.alloc hz _).trans (hb1.mono (by simp; omega))⟩
      · have hR := Lib.hid ((all_take_succ hS.out St.ok).trans (by rw [hAll.out, hok, Bool.and_self]))
        go_wp2_with (go_at_call 144; refine (StmtOk_st s _).mono ?_; rw [hok]; rintro e w1 ⟨rfl, hb1⟩)
        go_roundw
        case rel => exact ⟨k + 1, by omega, by go_num, hR.out, (hb.alloc hz _).trans (hb1.mono (by simp; omega))⟩
        case measure => (simp [intOf]; try omega)
    · obtain rfl : k = n := by omega
      have hR := Lib.hid (show ps.all St.ok = true by have := hAll.out; rwa [List.take_of_length_le (by rw [hL.out]; omega)] at this)
      go_wp2
      go_ret
      exact ⟨ret_bool hR.out, hb⟩

theorem bodyOk_any (A : Option Addr) (n c : Nat) (ps : List St) (m : Int) (w : World) (h : Lst w w.heap.size A n ps) (hn : n ≤ c) (hc : c ≤ maxLen) (hm : 0 ≤ m) :
    Calls Try.prog 89 #[.slice A n c, .int .i64 m] w fun e w' => e = .returned (.bool (decide (m ≤ n) && (ps.take m.toNat).all St.notLoop)) ∧ Below w.heap.size w w' := by
  unfold maxLen at hc
  have hL := Lib.hid h.1
  have hH := Lib.hid h
  clear h
  obtain ⟨m, rfl⟩ : ∃ k : Nat, m = k := ⟨m.toNat, by omega⟩
  rw [Int.toNat_natCast]
  by_cases hmn : n < m
  · have hR := Lib.hid (show (decide ((m : Int) ≤ n) && (ps.take m).all St.notLoop) = false by rw [decide_eq_false (by omega)]; rfl)
    go_enter Try.func89, Try.ntmps89
    go_wp2
    go_ret
    exact ⟨ret_bool hR.out, Below.refl _ _⟩
  · have hR := Lib.hid (show (decide ((m : Int) ≤ n) && (ps.take m).all St.notLoop) = (ps.take m).all St.notLoop by rw [decide_eq_true (by omega)]; rfl)
    go_enter Try.func89, Try.ntmps89
    go_wp2
    go_loopw [15] (fun i wr => ∃ k : Nat, k ≤ m ∧ i = .int .i64 k ∧ (ps.take k).all St.notLoop = true ∧ Below w.heap.size w wr) (fun i _ => m - (intOf i).toNat)
    case atStart => exact ⟨0, Nat.zero_le _, rfl, by simp, Below.refl _ _⟩
    case round =>
      obtain ⟨k, hk, rfl, hall, hb⟩ := hrel
      have hAll := Lib.hid hall
      clear hall
      by_cases hlt : k < m
      · obtain ⟨g, off, s, rfl, hg, hs, hat⟩ := (hH.out.below hb).at_ (show k < n by omega)
        obtain ⟨c0, c1, c2, c3, c4, c5, c6⟩ := hat.open_
        have hS := Lib.hid hs
        have hz := hb.size
        clear hs hat
        cases hnl : s.notLoop
        · have h7 : (s.k == 7) = true := by unfold St.notLoop at hnl; cases h : (s.k == 7) <;> simp_all
          have hR2 := Lib.hid (show (ps.take m).all St.notLoop = false from all_no (k := k) (by rw [List.getElem?_take, if_pos hlt]; exact hS.out) hnl)
          go_wp2
          go_ret
          exact ⟨ret_bool (hR.out.trans hR2.out), hb.alloc hz _⟩
        · have h7 : (s.k == 7) = false := by unfold St.notLoop at hnl; cases h : (s.k == 7) <;> simp_all
          have hR2 := Lib.hid ((all_take_succ hS.out St.notLoop).trans (by rw [hAll.out, hnl, Bool.and_self]))
          go_wp2
          go_roundw
          case rel => exact ⟨k + 1, by omega, by go_num, hR2.out, hb.alloc hz _⟩
          case measure => (simp [intOf]; try omega)
      · obtain rfl : k = m := by omega
        go_wp2
        go_ret
        exact ⟨ret_bool (hR.out.trans hAll.out), hb⟩
end Go.Proofs.Ytbndonfpdioibaa

namespace Go.Proofs.Ytbndonfpdioibaa
set_option maxRecDepth 100000
open Go.RowKit

def flat (os : List St) : List Value := os.flatMap St.cells
theorem flat_nil : flat [] = [] := rfl
theorem flat_append (a b : List St) : flat (a ++ b) = flat a ++ flat b := List.flatMap_append
theorem flat_length (os : List St) : (flat os).length = os.length * 7 := by
  induction os with
  | nil => rfl
  | cons s r ih =>
    have : flat (s :: r) = s.cells ++ flat r := rfl
    rw [this, List.length_append, ih, List.length_cons]
    simp [St.cells]; omega
theorem flat_one : ∀ (os : List St), ∀ u ∈ flat os, u.oneCell' = true := by
  intro os u hu
  obtain ⟨s, _, hs⟩ := List.mem_flatMap.1 hu
  simp only [St.cells, List.mem_cons, List.not_mem_nil, or_false] at hs
  rcases hs with rfl | rfl | rfl | rfl | rfl | rfl | rfl <;> rfl

/-- Where a cell of a flat list comes from. -/
theorem flat_get : ∀ {qs : List St} {j : Nat} {u : Value}, (flat qs)[j]? = some u → ∃ i r s, j = i * 7 + r ∧ qs[i]? = some s ∧ s.cells[r]? = some u
  | [], j, u, h => by simp [flat] at h
  | s :: qs, j, u, h => by
    have e : flat (s :: qs) = s.cells ++ flat qs := rfl
    rw [e] at h
    by_cases hj : j < 7
    · exact ⟨0, j, s, by omega, rfl, by rwa [List.getElem?_append_left (by simpa [St.cells] using hj)] at h⟩
    · rw [List.getElem?_append_right (by simp [St.cells]; omega)] at h
      obtain ⟨i, r, q, h1, h2, h3⟩ := flat_get h
      have h1' : j - 7 = i * 7 + r := h1
      exact ⟨i + 1, r, q, by omega, h2, h3⟩
theorem flat_at : ∀ {qs : List St} {i r : Nat} {s : St} {u : Value}, qs[i]? = some s → s.cells[r]? = some u → (flat qs)[i * 7 + r]? = some u
  | [], i, r, s, u, h, _ => by simp at h
  | q :: qs, 0, r, s, u, h, hu => by
    have hq : q = s := by simpa using h
    subst hq
    have hr : r < 7 := by have := (List.getElem?_eq_some_iff.1 hu).1; simpa [St.cells] using this
    have e : flat (q :: qs) = q.cells ++ flat qs := rfl
    rw [e, Nat.zero_mul, Nat.zero_add, List.getElem?_append_left (by simpa [St.cells] using hr)]
    exact hu
  | q :: qs, i + 1, r, s, u, h, hu => by
    have e : flat (q :: qs) = q.cells ++ flat qs := rfl
    rw [e, List.getElem?_append_right (by simp [St.cells]; omega)]
    have : (i + 1) * 7 + r - q.cells.length = i * 7 + r := by simp [St.cells]; omega
    rw [this]
    exact flat_at (by simpa using h) hu

/-- A slice's value that the call itself has made, from block 'base' on: it holds these statements. -/
def Own (w : World) (base : Nat) (v : Value) (os : List St) : Prop := w.ownsRow base 78 7 v os.length (flat os)

theorem Own.nil (w : World) (base : Nat) : Own w base (.slice none 0 0) [] := World.ownsRow_nil w base _ _
theorem Own.alloc {w : World} {base : Nat} {v : Value} {os : List St} (h : Own w base v os) (o : Obj) : Own (w.alloc o) base v os := World.ownsRow.alloc h o
theorem Own.below {w w' : World} {base : Nat} {v : Value} {os : List St} (h : Own w base v os) (hb : Below w.heap.size w w') : Own w' base v os := by
  refine ⟨h.1, ?_⟩
  rcases h.2 with hn | ⟨g, cap, cur, hv, hg, hh, rest⟩
  · exact .inl hn
  · exact .inr ⟨g, cap, cur, hv, hg, (hb.block g (Array.getElem?_eq_some_iff.1 hh).1).trans hh, rest⟩
theorem Own.form {w : World} {base : Nat} {v : Value} {os : List St} (h : Own w base v os) : ∃ A c, v = .slice A os.length c ∧ os.length ≤ c ∧ c ≤ maxLen := by
  rcases h.2 with ⟨hv, hn⟩ | ⟨g, cap, cur, hv, _, _, h1, h2, _⟩
  · exact ⟨none, 0, by rw [hv, hn], by omega, by simp [maxLen]⟩
  · exact ⟨_, cap, hv, h1, h2⟩
/-- What a call has made reads as a list. -/
theorem Own.lst {w : World} {base : Nat} {A : Option Addr} {n c : Nat} {os : List St} (h : Own w base (.slice A n c) os) : Lst w w.heap.size A n os := by
  rcases h.2 with ⟨hv, hn⟩ | ⟨g, cap, cur, hv, hg, hh, h1, h2, h3, h4⟩
  · injection hv with _ e2 _
    exact ⟨by omega, fun h0 => by omega⟩
  · injection hv with e1 e2 _
    refine ⟨by omega, fun h0 => ⟨g, 0, e1, (Array.getElem?_eq_some_iff.1 hh).1, fun k s hs j u hu => ?_⟩⟩
    have hf := flat_at hs hu
    rw [Nat.zero_add, cell_of_row w g _ cur 78 (0, 0) hh]
    rw [← h4, List.getElem?_take] at hf
    split at hf
    · simpa using hf
    · cases hf

theorem info_stmt : (Try.prog.info? 78).map (fun i => (i.zero, i.size, i.bytes)) = some (some (.agg #[.int .i64 0, .int .i64 0, .int .i64 0, .int .i64 0, .int .i64 0, .int .i64 0, .int .i64 0]), 7, 56) := by kernel_rfl

/-- The cells of a part of a list, from its head on. -/
theorem Lst.part {w : World} {B n k m g off : Nat} {ps : List St} (h : Lst w B (some ⟨g, off, none⟩) n ps) (hm : 0 < m) (hk : k + m ≤ n) :
    ∀ j u, (flat ((ps.drop k).take m))[j]? = some u → w.cell? ((⟨g, off + k * 7, none⟩ : Addr).add j) = some u := by
  intro j u hu
  obtain ⟨i, r, s, rfl, hs, hr⟩ := flat_get hu
  obtain ⟨g', off', e, hg, hc⟩ := h.2 (by omega)
  injection e with e
  injection e with e1 e2 _
  subst e1 e2
  rw [List.getElem?_take, List.getElem?_drop] at hs
  split at hs
  · have hx := hc (k + i) s hs r u hr
    have ha : ((⟨g, off + k * 7, none⟩ : Addr).add (i * 7 + r)) = ⟨g, off + (k + i) * 7 + r, none⟩ := by
      unfold Addr.add
      split
      · (rename_i h0; simp at h0 ⊢; try omega)
      · (simp; try omega)
    rw [ha]; exact hx
  · cases hs

/-- The rest of a list, from a place on. -/
theorem Lst.drop_ {w : World} {B n k g off : Nat} {A' : Option Addr} {ps : List St} (h : Lst w B (some ⟨g, off, none⟩) n ps) (hA : n - k = 0 ∨ A' = some ⟨g, off + k * 7, none⟩) : Lst w B A' (n - k) (ps.drop k) := by
  refine ⟨by rw [List.length_drop, h.1], fun hn => ?_⟩
  obtain ⟨g', off', e, hg, hc⟩ := h.2 (by omega)
  injection e with e
  injection e with e1 e2 _
  subst e1 e2
  rcases hA with h0 | rfl
  · omega
  · refine ⟨g, _, rfl, hg, fun i s hs => ?_⟩
    rw [List.getElem?_drop] at hs
    have := hc (k + i) s hs
    rwa [show off + (k + i) * 7 = off + k * 7 + i * 7 by omega] at this

/-- Behind an append: what the call owns now, and that nothing below has turned. -/
theorem Own.append_ {w w' : World} {base : Nat} {v v' : Value} {os news : List St} (hown : Own w base v os) (h : w'.ownsRow base 78 7 v' (os.length + news.length) (flat os ++ flat news)) (hg : w.grownBy w' v.ownBlock)
    {w0 : World} (hb : Below base w0 w) (hB : base ≤ w.heap.size) : Own w' base v' (os ++ news) ∧ Below base w0 w' := by
  refine ⟨?_, hb.grown hg hB fun k hk => ((World.ownsRow.lt hown) k hk).1⟩
  unfold Own
  rw [List.length_append, flat_append]
  exact h

end Go.Proofs.Ytbndonfpdioibaa
