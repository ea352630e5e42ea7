/- The program's tracer: what holds of it on its way (plain), and how it lies in memory. The program's tracer in memory: what its stores and appends do to it. -/
import Derived.Test.YtbndonfpdioibaaNm
import Derived.Test.YtbndonfpdioibaaTrv
import Derived.Test.YtbndonfpdioibaaMem
import Derived.Test.YtbndonfpdioibaaTx
namespace Go.Proofs.Ytbndonfpdioibaa
set_option maxRecDepth 100000
set_option linter.unusedVariables false
open Go.RowKit

/-- What holds of a tracer's row, stack and run. -/
structure Inv (os : List St) (row : List Int) (stk : List Rn) (now : Rn) : Prop where
  len : row.length = stk.length
  fit : now.fit
  val : ∀ d ∈ row, 0 ≤ d ∧ d ≤ 2
  at_ : ∀ (j : Nat) (r : Rn), stk[j]? = some r → r.fit ∧ r.wt ≠ 0 ∧ j ≤ r.pos ∧ ∃ s, os[r.pos]? = some s ∧ s.draws = true ∧ s.ok = true
  pos : row.length ≤ now.pos

theorem Inv.start (os : List St) : Inv os [] [] ⟨0, 0, 1⟩ := ⟨rfl, Rn.fit_start, fun d h => by simp at h, fun j r h => by simp at h, Nat.zero_le _⟩
theorem step_pos (s : St) (r : Rn) (x : Int) : r.pos + 1 ≤ (Rn.step s r x).pos := by
  show r.pos + 1 ≤ r.pos + 1 + s.jump r.st
  omega
theorem Inv.own {os : List St} {row : List Int} {stk : List Rn} {now : Rn} {s : St} (h : Inv os row stk now) (hok : s.ok = true) : Inv os row stk (Rn.step s now 0) :=
  ⟨h.len, h.fit.step hok (by decide), h.val, h.at_, Nat.le_trans h.pos (by have := step_pos s now 0; omega)⟩
theorem Inv.draw {os : List St} {row : List Int} {stk : List Rn} {now : Rn} {s : St} (h : Inv os row stk now) (hs : os[now.pos]? = some s) (hok : s.ok = true) (hd : s.draws = true) (hw : now.wt ≠ 0) : Inv os (row ++ [0]) (stk ++ [now]) (Rn.step s now 0) := by
  refine ⟨by simp [h.len], h.fit.step hok (by decide), fun d hd' => ?_, fun j r hr => ?_, ?_⟩
  · rcases List.mem_append.1 hd' with hd' | hd'
    · exact h.val d hd'
    · rw [List.mem_singleton] at hd'
      subst hd'
      decide
  · by_cases hj : j < stk.length
    · rw [List.getElem?_append_left hj] at hr
      exact h.at_ j r hr
    · rw [List.getElem?_append_right (by omega)] at hr
      have hj0 : j - stk.length = 0 := by
        have := (List.getElem?_eq_some_iff.1 hr).1
        simp at this; omega
      rw [hj0] at hr
      have hr' : now = r := by simpa using hr
      subst hr'
      refine ⟨h.fit, hw, ?_, s, hs, hd, hok⟩
      have := h.pos
      have := h.len
      omega
  · have h1 := step_pos s now 0
    have h2 := h.pos
    rw [List.length_append, List.length_singleton]
    omega
theorem Inv.up {os : List St} {row : List Int} {stk : List Rn} {now r : Rn} {s : St} {j : Nat} {d : Int} (h : Inv os row stk now) (hd : row[j]? = some d) (hd1 : d ≤ 1) (hr : stk[j]? = some r) (hs : os[r.pos]? = some s) :
    Inv os (row.take j ++ [d + 1]) (stk.take (j + 1)) (Rn.step s r (d + 1)) := by
  have hl := (List.getElem?_eq_some_iff.1 hd).1
  have hl2 := (List.getElem?_eq_some_iff.1 hr).1
  obtain ⟨hf, hw, hp, s', hs', hdr, hok⟩ := h.at_ j r hr
  obtain rfl : s' = s := Option.some.inj (hs'.symm.trans hs)
  have hdv := h.val d (List.mem_of_getElem? hd)
  refine ⟨by simp; omega, hf.step hok (by omega), fun x hx => ?_, fun i q hq => ?_, ?_⟩
  · rcases List.mem_append.1 hx with hx | hx
    · exact h.val x (List.mem_of_mem_take hx)
    · rw [List.mem_singleton] at hx
      subst hx
      omega
  · rw [List.getElem?_take] at hq
    split at hq
    · exact h.at_ i q hq
    · cases hq
  · have h1 := step_pos s' r (d + 1)
    rw [List.length_append, List.length_singleton, List.length_take]
    omega

/-- The cells of runs, one behind the other. -/
def Rn.cells (r : Rn) : List Value := [.int .i64 r.pos, .int .i64 r.st, .int .i64 r.wt]
def rnflat (rs : List Rn) : List Value := rs.flatMap Rn.cells
theorem rnflat_append (a b : List Rn) : rnflat (a ++ b) = rnflat a ++ rnflat b := List.flatMap_append
theorem rnflat_length (rs : List Rn) : (rnflat rs).length = rs.length * 3 := by
  induction rs with
  | nil => rfl
  | cons s r ih =>
    have : rnflat (s :: r) = s.cells ++ rnflat r := rfl
    rw [this, List.length_append, ih, List.length_cons]
    simp [Rn.cells]; omega
theorem rnflat_one (rs : List Rn) : ∀ u ∈ rnflat rs, u.oneCell' = true := by
  intro u hu
  obtain ⟨s, _, hs⟩ := List.mem_flatMap.1 hu
  simp only [Rn.cells, List.mem_cons, List.not_mem_nil, or_false] at hs
  rcases hs with rfl | rfl | rfl <;> rfl

/-- The blocks that a tracer may turn. -/
def TrB (g : Nat) (vr vs : Value) (i : Nat) : Prop := i = g ∨ vr.ownBlock = some i ∨ vs.ownBlock = some i
/-- How a step of a tracer leaves memory. -/
def Trd (w w' : World) (g : Nat) (vr vs vr' vs' : Value) : Prop :=
  KeptBut w w' (TrB g vr vs) ∧ (∀ k, vr'.ownBlock = some k → vr.ownBlock = some k ∨ w.heap.size ≤ k) ∧ (∀ k, vs'.ownBlock = some k → vs.ownBlock = some k ∨ w.heap.size ≤ k)
theorem Trd.trans {a b c : World} {g : Nat} {vr vs vr' vs' vr2 vs2 : Value} (h : Trd a b g vr vs vr' vs') (k : Trd b c g vr' vs' vr2 vs2) : Trd a c g vr vs vr2 vs2 := by
  have hz := h.1.size
  refine ⟨KeptBut.trans h.1 k.1 (fun i hi e => ?_), fun i hi => ?_, fun i hi => ?_⟩
  · rcases e with e | e | e
    · exact .inl e
    · rcases h.2.1 i e with e' | e'
      · exact .inr (.inl e')
      · omega
    · rcases h.2.2 i e with e' | e'
      · exact .inr (.inr e')
      · omega
  · rcases k.2.1 i hi with e | e
    · exact h.2.1 i e
    · exact .inr (by omega)
  · rcases k.2.2 i hi with e | e
    · exact h.2.2 i e
    · exact .inr (by omega)
end Go.Proofs.Ytbndonfpdioibaa

namespace Go.Proofs.Ytbndonfpdioibaa
set_option maxRecDepth 100000
set_option linter.unusedVariables false
open Go.RowKit

theorem tty_c : (3 : TypeId) ≠ 101 := by decide

theorem Trd.below {w0 w w' : World} {g : Nat} {vr0 vs0 vr vs : Value} (h : Trd w0 w g vr0 vs0 vr vs) (hb : Below w.heap.size w w') : Trd w0 w' g vr0 vs0 vr vs :=
  ⟨KeptBut.trans h.1 (KeptBut.of_below hb (fun _ => False)) (fun _ _ e => e.elim), h.2.1, h.2.2⟩

theorem at_g {w : World} {g m : Nat} {A : Option Addr} {os : List St} (h : Lst w g A m os) (i : Nat) (u : Value) : Lst (w.setCell ⟨g, i, none⟩ u) g A m os := h.below (Below.setCell (p := ⟨g, i, none⟩) (Below.refl g w) (Nat.le_refl g) u)
theorem owns_put {w : World} {g base size n i : Nat} {e : TypeId} {v u : Value} {xs : List Value} (h : w.ownsRow base e size v n xs) (hb : g < base) : (w.setCell ⟨g, i, none⟩ u).ownsRow base e size v n xs :=
  owns_but h (KeptBut.put (KeptBut.refl w (fun j => j = g)) (p := ⟨g, i, none⟩) (fun _ => rfl) u) (fun k hk e => by have := (World.ownsRow.lt h k hk).1; omega)

theorem Trd.put {w0 w : World} {g : Nat} {vr0 vs0 vr vs : Value} (h : Trd w0 w g vr0 vs0 vr vs) (i : Nat) (u : Value) : Trd w0 (w.setCell ⟨g, i, none⟩ u) g vr0 vs0 vr vs :=
  ⟨h.1.put (fun _ => .inl rfl) u, h.2.1, h.2.2⟩

theorem Trd.push_row {w0 w w' : World} {g : Nat} {vr0 vs0 vr vs v' : Value} (h : Trd w0 w g vr0 vs0 vr vs) (hk : KeptBut w w' (fun i => vr.ownBlock = some i)) (hb : ∀ k, v'.ownBlock = some k → vr.ownBlock = some k ∨ w.heap.size ≤ k) : Trd w0 (w'.setCell ⟨g, 1, none⟩ v') g vr0 vs0 v' vs := by
  have hz := h.1.size
  refine ⟨KeptBut.put (KeptBut.trans h.1 hk (fun i hi e => ?_)) (fun _ => .inl rfl) _, fun k e => ?_, h.2.2⟩
  · rcases h.2.1 i e with e' | e'
    · exact .inr (.inl e')
    · omega
  · rcases hb k e with e' | e'
    · exact h.2.1 k e'
    · exact .inr (by omega)
theorem Trd.push_stk {w0 w w' : World} {g : Nat} {vr0 vs0 vr vs v' : Value} (h : Trd w0 w g vr0 vs0 vr vs) (hk : KeptBut w w' (fun i => vs.ownBlock = some i)) (hb : ∀ k, v'.ownBlock = some k → vs.ownBlock = some k ∨ w.heap.size ≤ k) : Trd w0 (w'.setCell ⟨g, 2, none⟩ v') g vr0 vs0 vr v' := by
  have hz := h.1.size
  refine ⟨KeptBut.put (KeptBut.trans h.1 hk (fun i hi e => ?_)) (fun _ => .inl rfl) _, h.2.1, fun k e => ?_⟩
  · rcases h.2.2 i e with e' | e'
    · exact .inr (.inr e')
    · omega
  · rcases hb k e with e' | e'
    · exact h.2.2 k e'
    · exact .inr (by omega)

theorem new_run (w : World) (r : Rn) : ∀ j u, r.cells[j]? = some u → (w.alloc (.cells #[.int .i64 r.pos, .int .i64 r.st, .int .i64 r.wt] 101)).cell? ((⟨w.heap.size, 0, none⟩ : Addr).add j) = some u := by
  intro j u hu
  have hc := (Has.new w 101 #[.int .i64 r.pos, .int .i64 r.st, .int .i64 r.wt]).cell j
  have e : ((⟨w.heap.size, 0, none⟩ : Addr).add j) = ⟨w.heap.size, j, none⟩ := by
    unfold Addr.add
    split
    · (rename_i h0; simp at h0 ⊢; try omega)
    · (simp; try omega)
  rw [e, hc]
  simpa [Rn.cells] using hu
theorem info_run : (Try.prog.info? 101).map (fun i => (i.zero, i.size, i.bytes)) = some (some (.agg #[.int .i64 0, .int .i64 0, .int .i64 0]), 3, 24) := by kernel_rfl
/-- Behind an append: all but the slice's own block is as it was. -/
theorem grown_but {w w' : World} {o : Obj} {row : Option Nat} (h : (w.alloc o).grownBy w' row) : KeptBut w w' (fun i => row = some i) :=
  KeptBut.trans (KeptBut.alloc (KeptBut.refl w (fun i => row = some i)) o) ⟨h.os, h.tape, h.output, h.size, fun i hi hn => h.block i hi (fun e => hn e.symm)⟩ (fun _ _ e => e)
theorem grown_but_d {w w' : World} {o : Obj} {row : Option Nat} (h : (w.alloc o).drew.grownBy w' row) : KeptBut w w' (fun i => row = some i) :=
  KeptBut.trans (KeptBut.alloc (KeptBut.refl w (fun i => row = some i)) o) ⟨h.os, h.tape, h.output, h.size, fun i hi hn => h.block i hi (fun e => hn e.symm)⟩ (fun _ _ e => e)

theorem owns_open {w : World} {base size n c : Nat} {e : TypeId} {A : Option Addr} {xs : List Value} (h : w.ownsRow base e size (.slice A n c) n xs) (hn : 0 < n) :
    ∃ b cur, A = some ⟨b, 0, none⟩ ∧ base ≤ b ∧ Has w b e cur ∧ n ≤ c ∧ c ≤ maxLen ∧ n * size ≤ cur.size ∧ ∀ i, i < n * size → w.cell? ⟨b, i, none⟩ = xs[i]? := by
  rcases h.2 with ⟨hv, h0⟩ | ⟨b, cap, cur, hv, hg, hh, h1, h2, h3, h4⟩
  · omega
  · injection hv with e1 _ e3
    subst e1 e3
    have hcs : n * size ≤ cur.size := by rw [h3]; exact Nat.mul_le_mul_right _ h1
    refine ⟨b, cur, rfl, hg, hh, h1, h2, hcs, fun i hi => ?_⟩
    rw [cell_of_row w b i cur e (0, 0) hh, ← h4, List.getElem?_take, if_pos hi]
    simp
theorem owns_take {w : World} {base size n c k : Nat} {e : TypeId} {A : Option Addr} {xs : List Value} (h : w.ownsRow base e size (.slice A n c) n xs) (h0 : 0 < k) (hk : k ≤ n) : w.ownsRow base e size (.slice A k c) k (xs.take (k * size)) := by
  have hm : k * size ≤ n * size := Nat.mul_le_mul_right _ hk
  refine ⟨by rw [List.length_take, h.1]; omega, ?_⟩
  rcases h.2 with ⟨hv, h0'⟩ | ⟨b, cap, cur, hv, hg, hh, h1, h2, h3, h4⟩
  · omega
  · injection hv with e1 _ e3
    subst e1 e3
    refine .inr ⟨b, c, cur, rfl, hg, hh, by omega, h2, h3, ?_⟩
    rw [← h4, List.take_take, Nat.min_eq_left hm]
theorem owns_set {w : World} {base n c b j : Nat} {ds : List Int} {x : Int} (h : w.ownsRow base 3 1 (.slice (some ⟨b, 0, none⟩) n c) n (ints ds)) (hj : j < n) : (w.setCell ⟨b, j, none⟩ (.int .i64 x)).ownsRow base 3 1 (.slice (some ⟨b, 0, none⟩) n c) n (ints (ds.set j x)) := by
  have hl : ds.length = n := by have := h.1; rw [ints_length] at this; omega
  refine ⟨by rw [ints_length, List.length_set]; omega, ?_⟩
  rcases h.2 with ⟨hv, h0'⟩ | ⟨b', cap, cur, hv, hg, hh, h1, h2, h3, h4⟩
  · omega
  · injection hv with e1 _ e3
    injection e1 with e1
    injection e1 with e1 _ _
    subst e1 e3
    refine .inr ⟨b, c, cur.setIfInBounds j (.int .i64 x), rfl, hg, Has.put (t := 3) hh j _, h1, h2, by simpa using h3, ?_⟩
    rw [Array.toList_setIfInBounds, List.take_set, h4]
    unfold ints
    rw [List.map_set]
theorem take_set (ds : List Int) (j : Nat) (x : Int) (hj : j < ds.length) : (ds.take (j + 1)).set j x = ds.take j ++ [x] := by
  rw [List.take_succ_eq_append_getElem hj, List.set_append_right _ _ (by rw [List.length_take]; omega)]
  rw [List.length_take, Nat.min_eq_left (by omega), Nat.sub_self]
  rfl
theorem rnflat_at : ∀ {rs : List Rn} {i q : Nat} {r : Rn} {u : Value}, rs[i]? = some r → r.cells[q]? = some u → (rnflat rs)[i * 3 + q]? = some u
  | [], i, q, r, u, h, _ => by simp at h
  | s :: rs, 0, q, r, u, h, hu => by
    have hq : s = r := by simpa using h
    subst hq
    have hl : q < 3 := by have := (List.getElem?_eq_some_iff.1 hu).1; simpa [Rn.cells] using this
    have e : rnflat (s :: rs) = s.cells ++ rnflat rs := rfl
    rw [e, Nat.zero_mul, Nat.zero_add, List.getElem?_append_left (by simpa [Rn.cells] using hl)]
    exact hu
  | s :: rs, i + 1, q, r, u, h, hu => by
    have e : rnflat (s :: rs) = s.cells ++ rnflat rs := rfl
    rw [e, List.getElem?_append_right (by simp [Rn.cells]; omega)]
    have : (i + 1) * 3 + q - s.cells.length = i * 3 + q := by simp [Rn.cells]; omega
    rw [this]
    exact rnflat_at (by simpa using h) hu
theorem rnflat_take : ∀ (rs : List Rn) (k : Nat), (rnflat rs).take (k * 3) = rnflat (rs.take k)
  | rs, 0 => by simp [rnflat]
  | [], k + 1 => by simp [rnflat]
  | s :: rs, k + 1 => by
    have e : rnflat (s :: rs) = s.cells ++ rnflat rs := rfl
    have e2 : rnflat ((s :: rs).take (k + 1)) = s.cells ++ rnflat (rs.take k) := rfl
    have hl : s.cells.length = 3 := by simp [Rn.cells]
    rw [e, e2, List.take_append, hl, List.take_of_length_le (by omega), show (k + 1) * 3 - 3 = k * 3 by omega, rnflat_take rs k]
theorem ints_take (ds : List Int) (k : Nat) : (ints ds).take k = ints (ds.take k) := by
  unfold ints; rw [List.map_take]

theorem far3 {w : World} {g : Nat} {x y z v : Value} {p : Addr} (hp : p.block ≠ g ∨ (p.off ≠ 3 ∧ p.off ≠ 4 ∧ p.off ≠ 5)) (h : w.cell? p = some v) : (((w.setCell ⟨g, 3, none⟩ x).setCell ⟨g, 4, none⟩ y).setCell ⟨g, 5, none⟩ z).cell? p = some v := by
  have h3 : p ≠ ⟨g, 3, none⟩ := by rintro rfl; simp at hp
  have h4 : p ≠ ⟨g, 4, none⟩ := by rintro rfl; simp at hp
  have h5 : p ≠ ⟨g, 5, none⟩ := by rintro rfl; simp at hp
  rw [World.cell?_setCell_other _ _ _ _ (Ne.symm h5), World.cell?_setCell_other _ _ _ _ (Ne.symm h4), World.cell?_setCell_other _ _ _ _ (Ne.symm h3)]
  exact h

theorem Inv.len_le {os : List St} {row : List Int} {stk : List Rn} {now : Rn} (h : Inv os row stk now) : row.length ≤ os.length := by
  have hl := h.len
  by_cases h0 : row.length = 0
  · omega
  · obtain ⟨r, hr⟩ : ∃ r, stk[row.length - 1]? = some r := ⟨_, List.getElem?_eq_getElem (by omega)⟩
    obtain ⟨_, _, hp, s, hs, _⟩ := h.at_ _ r hr
    have := (List.getElem?_eq_some_iff.1 hs).1
    omega

theorem Trd.cut {w0 w : World} {g n cr cs b : Nat} {As : Option Addr} {vr0 vs0 : Value} {j : Nat} {x : Int} (h : Trd w0 w g vr0 vs0 (.slice (some ⟨b, 0, none⟩) n cr) (.slice As n cs)) :
    Trd w0 (((w.setCell ⟨g, 1, none⟩ (.slice (some ⟨b, 0, none⟩) (j + 1) cr)).setCell ⟨g, 2, none⟩ (.slice As (j + 1) cs)).setCell ⟨b, j, none⟩ (.int .i64 x)) g vr0 vs0 (.slice (some ⟨b, 0, none⟩) (j + 1) cr) (.slice As (j + 1) cs) := by
  refine ⟨KeptBut.put ((h.1.put (p := ⟨g, 1, none⟩) (fun _ => .inl rfl) _).put (p := ⟨g, 2, none⟩) (fun _ => .inl rfl) _) (fun hb => ?_) _, h.2.1, fun k hk => h.2.2 k ?_⟩
  · rcases h.2.1 b rfl with e | e
    · exact .inr (.inl e)
    · have : b < w0.heap.size := hb
      omega
  · cases As with
    | none => cases hk
    | some a => exact hk
end Go.Proofs.Ytbndonfpdioibaa
