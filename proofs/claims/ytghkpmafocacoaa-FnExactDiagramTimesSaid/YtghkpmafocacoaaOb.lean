/- Diagrams: a weaver in memory; the program's cellFor. -/
import Derived.Test.YtghkpmafocacoaaO9
import Derived.StillTailTactics
import Derived.Deep.AppendLies
namespace Go.Proofs.Ytghkpmafocacoaa
set_option maxRecDepth 100000
set_option linter.unusedVariables false
open Go.RowKit

/-- The cells of a weaver behind others. -/
def wvC (pre : List Value) (v : Value) (sl : List Int) : Array Value := (pre ++ v :: ints sl).toArray
theorem wvC_get (pre : List Value) (v : Value) (sl : List Int) (i : Nat) : (wvC pre v sl)[i]? = (pre ++ v :: ints sl)[i]? := by unfold wvC; rw [List.getElem?_toArray]
theorem wvC_head {pre : List Value} {o : Nat} (ho : pre.length = o) (v : Value) (sl : List Int) : (wvC pre v sl)[o]? = some v := by
  subst ho
  rw [wvC_get, List.getElem?_append_right (Nat.le_refl _), Nat.sub_self]
  rfl
theorem wvC_slot {pre : List Value} {o j : Nat} (ho : pre.length = o) (v : Value) {sl : List Int} (hj : j < sl.length) : (wvC pre v sl)[o + 1 + j]? = some (.int .i64 (sl.getD j 0)) := by
  subst ho
  rw [wvC_get, List.getElem?_append_right (by omega), show pre.length + 1 + j - pre.length = j + 1 by omega, List.getElem?_cons_succ]
  exact ints_get (by rw [List.getD_eq_getElem?_getD, List.getElem?_eq_getElem hj]; rfl)
theorem wvC_putv {pre : List Value} {o : Nat} (ho : pre.length = o) (v u : Value) (sl : List Int) : (wvC pre v sl).setIfInBounds o u = wvC pre u sl := by
  subst ho
  apply Array.ext_getElem?
  intro i
  rw [Array.getElem?_setIfInBounds, wvC_get, wvC_get]
  by_cases e : pre.length = i
  · subst e
    rw [if_pos rfl, if_pos (by unfold wvC; simp), List.getElem?_append_right (Nat.le_refl _), Nat.sub_self]
    rfl
  · rw [if_neg e]
    by_cases h : i < pre.length
    · rw [List.getElem?_append_left h, List.getElem?_append_left h]
    · rw [List.getElem?_append_right (by omega), List.getElem?_append_right (by omega)]
      obtain ⟨k, hk⟩ : ∃ k, i - pre.length = k + 1 := ⟨i - pre.length - 1, by omega⟩
      rw [hk, List.getElem?_cons_succ, List.getElem?_cons_succ]
theorem wvC_puts {pre : List Value} {o j : Nat} (ho : pre.length = o) (v : Value) {sl : List Int} (hj : j < sl.length) (x : Int) : (wvC pre v sl).setIfInBounds (o + 1 + j) (.int .i64 x) = wvC pre v (sl.set j x) := by
  subst ho
  apply Array.ext_getElem?
  intro i
  rw [Array.getElem?_setIfInBounds, wvC_get, wvC_get]
  by_cases e : pre.length + 1 + j = i
  · subst e
    rw [if_pos rfl, if_pos (by unfold wvC; simp [ints_length]; omega), List.getElem?_append_right (by omega), show pre.length + 1 + j - pre.length = j + 1 by omega, List.getElem?_cons_succ]
    exact (ints_get (by rw [List.getElem?_set_self hj])).symm
  · rw [if_neg e]
    by_cases h : i < pre.length
    · rw [List.getElem?_append_left h, List.getElem?_append_left h]
    · rw [List.getElem?_append_right (by omega), List.getElem?_append_right (by omega)]
      by_cases h0 : i - pre.length = 0
      · rw [h0]; rfl
      · obtain ⟨k, hk⟩ : ∃ k, i - pre.length = k + 1 := ⟨i - pre.length - 1, by omega⟩
        rw [hk, List.getElem?_cons_succ, List.getElem?_cons_succ]
        unfold ints
        rw [List.getElem?_map, List.getElem?_map, List.getElem?_set_ne (by omega)]
/-- A weaver lies in a block, its cells in memory of the call's own. -/
structure Wv (w : World) (B G : Nat) (T : TypeId) (pre : List Value) (v : Value) (sl : List Int) (ds : List Ce) : Prop where
  has : Has w G T (wvC pre v sl)
  own : COwn w B v ds
  tab : Tab slotC ds sl
  le : B ≤ w.heap.size
/-- What the weaver's calls turn: its block, and that of its cells; these go to new ones at most. -/
structure Wf2 (w w' : World) (G : Nat) (v v' : Value) : Prop where
  but : KeptBut w w' (fun k => k = G ∨ v.ownBlock = some k)
  new : ∀ k, v'.ownBlock = some k → v.ownBlock = some k ∨ w.heap.size ≤ k
theorem Wf2.refl (w : World) (G : Nat) (v : Value) : Wf2 w w G v v := ⟨KeptBut.refl _ _, fun k h => .inl h⟩
theorem Wf2.trans {a b c : World} {G : Nat} {u v x : Value} (h : Wf2 a b G u v) (k : Wf2 b c G v x) : Wf2 a c G u x := by
  refine ⟨h.but.trans k.but fun i hi e => ?_, fun i e => ?_⟩
  · rcases e with e | e
    · exact .inl e
    · rcases h.new i e with e | e
      · exact .inr e
      · omega
  · rcases k.new i e with e | e
    · exact h.new i e
    · exact .inr (Nat.le_trans h.but.size e)
theorem Wf2.of_below {w w' : World} (h : Below w.heap.size w w') (G : Nat) (v : Value) : Wf2 w w' G v v := ⟨KeptBut.of_below h _, fun k e => .inl e⟩
theorem Wv.below {w w' : World} {B G : Nat} {T : TypeId} {pre : List Value} {v : Value} {sl : List Int} {ds : List Ce} (h : Wv w B G T pre v sl ds) (hb : Below w.heap.size w w') : Wv w' B G T pre v sl ds :=
  ⟨h.has.kept hb, h.own.below hb, h.tab, Nat.le_trans h.le hb.size⟩
theorem eqWd (d : Nat) (u v x a b c : Int) (w : World) : (Op.equalIn (d + 2) 45 (.agg #[.int .i64 u, .int .i64 v, .int .i64 x]) (.agg #[.int .i64 a, .int .i64 b, .int .i64 c])).run Try.prog w = .ok (eq3 u v x a b c) w := by
  have u3 := Try.underlying3
  have a3 := Try.isAgg3
  have z3 := Try.sizeOf3
  rw [show d + 2 = (d + 1) + 1 from rfl, Op.equalIn]
  simp only [Sem.run_bind, run_underlying Try.underlying45, Result.andThen_ok]
  simp only [Std.Legacy.Range.forIn_eq_forIn_range', Std.Legacy.Range.size, Nat.sub_zero, Nat.add_sub_cancel, Nat.div_one, List.range'_succ, List.range'_zero, List.forIn_cons, List.forIn_nil]
  go_simp
  by_cases h1 : u = a <;> by_cases h2 : v = b <;> by_cases h3 : x = c <;> simp [h1, h2, h3, eq3]
/-- A cell held against another. -/
def ceq (s t : Ce) : Bool := s.v == t.v && (s.n == t.n && eq3 s.a s.b s.c t.a t.b t.c)
theorem ceq_iff {s t : Ce} : ceq s t = true ↔ s = t := by
  unfold ceq eq3
  simp only [Bool.and_eq_true, beq_iff_eq]
  rw [← ce_inj]
  constructor
  · rintro ⟨h1, h2, ⟨h3, h4⟩, h5⟩
    exact ⟨h1, h2, h3, h4, h5⟩
  · rintro ⟨h1, h2, h3, h4, h5⟩
    exact ⟨h1, h2, ⟨h3, h4⟩, h5⟩
theorem ceq_not {s t : Ce} (h : ceq s t = false) : s ≠ t := fun e => by rw [ceq_iff.2 e] at h; cases h
theorem eqCe (s t : Ce) (w : World) : (Op.equalIn 10000 47 (.agg #[.int .i64 s.v, .int .i64 s.n, .int .i64 s.a, .int .i64 s.b, .int .i64 s.c]) (.agg #[.int .i64 t.v, .int .i64 t.n, .int .i64 t.a, .int .i64 t.b, .int .i64 t.c])).run Try.prog w = .ok (ceq s t) w := by
  have u3 := Try.underlying3
  have a3 := Try.isAgg3
  have z3 := Try.sizeOf3
  have a30 := Try.isAgg45
  have z30 := Try.sizeOf45
  have hS : Try.prog.underlying 47 = some (.struct (Try.prog.fieldsOf 47)) := by kernel_rfl
  have he := fun w => eqWd 9997 s.a s.b s.c t.a t.b t.c w
  rw [show (10000 : Nat) = 9999 + 1 from rfl, run_equalIn_agg w 9999 47 _ _ hS (by kernel_rfl)]
  simp only [Program.fieldsOf, Try.underlying47]
  unfold ceq
  by_cases h1 : s.v = t.v <;> by_cases h2 : s.n = t.n
  all_goals
    go_simp
    try simp [h1, h2]
    try (cases eq3 s.a s.b s.c t.a t.b t.c <;> rfl)
end Go.Proofs.Ytghkpmafocacoaa
