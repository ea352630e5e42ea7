/- All states as a set; a run that begins at a place; whether a skip leads to a place: the program's allStates, runAt and isSkippedTo. -/
import Derived.Test.YtkggejmamhakaaaPo
import Derived.Deep.MidRow
import Derived.Deep.WholeRow
namespace Go.Proofs.Ytkggejmamhakaaa
set_option maxRecDepth 100000
set_option linter.unusedVariables false
open Go.RowKit

/-- The cells of a set of states. -/
def SetA (fa : Array Value) (f : Int → Bool) : Prop := fa.size = 81 ∧ ∀ q : Nat, q < 81 → fa[q]? = some (.bool (f q))
/-- Cells written in the midst of a block. -/
theorem has_setCells {g : Nat} {t : TypeId} : ∀ (vs : List Value) (o : Nat) (w : World) (cs : Array Value), Has w g t cs → o + vs.length ≤ cs.size →
    ∃ cs', Has (w.setCells g o vs) g t cs' ∧ cs'.size = cs.size ∧ (∀ j v, vs[j]? = some v → cs'[o + j]? = some v) ∧ ∀ i, (i < o ∨ o + vs.length ≤ i) → cs'[i]? = cs[i]?
  | [], o, w, cs, h, hl => ⟨cs, h, rfl, fun j v hv => by simp at hv, fun i _ => rfl⟩
  | u :: vs, o, w, cs, h, hl => by
    rw [List.length_cons] at hl
    obtain ⟨cs', h1, h2, h3, h4⟩ := has_setCells vs (o + 1) (w.setCell ⟨g, o, none⟩ u) (cs.setIfInBounds o u) (h.put o u) (by simp; omega)
    refine ⟨cs', h1, by rw [h2]; simp, fun j v hv => ?_, fun i hi => ?_⟩
    · cases j with
      | zero =>
        have e : u = v := by simpa using hv
        subst e
        rw [Nat.add_zero, h4 o (by omega), Array.getElem?_setIfInBounds, if_pos rfl, if_pos (by omega)]
      | succ j =>
        have := h3 j v (by simpa using hv)
        rwa [show o + (j + 1) = o + 1 + j by omega]
    · rw [List.length_cons] at hi
      rw [h4 i (by omega), Array.getElem?_setIfInBounds, if_neg (by omega)]
theorem has_setCells_far {g b : Nat} {t : TypeId} {cs : Array Value} (hne : g ≠ b) : ∀ (vs : List Value) (o : Nat) (w : World), Has w g t cs → Has (w.setCells b o vs) g t cs
  | [], o, w, h => h
  | u :: vs, o, w, h => has_setCells_far hne vs (o + 1) _ (h.far (p := ⟨b, o, none⟩) hne u)
theorem below_setCells {B b : Nat} {w0 : World} (hb : B ≤ b) : ∀ (vs : List Value) (o : Nat) (w : World), Below B w0 w → Below B w0 (w.setCells b o vs)
  | [], o, w, h => h
  | u :: vs, o, w, h => below_setCells hb vs (o + 1) _ (h.setCell (p := ⟨b, o, none⟩) hb u)
theorem has_there {w : World} {g : Nat} {t : TypeId} {cs : Array Value} (h : Has w g t cs) {o n : Nat} (hn : o + n ≤ cs.size) : w.there g o n := fun j hj => by
  refine ⟨?_, h.frozen _⟩
  rw [h.cell, Array.getElem?_eq_getElem (by omega)]; rfl
theorem has_range {w : World} {g : Nat} {t : TypeId} {cs : Array Value} (h : Has w g t cs) {o : Nat} {vs : List Value} (hv : ∀ j v, vs[j]? = some v → cs[o + j]? = some v) : w.rangeAt g o vs := fun j v hj => (h.cell _).trans (hv j v hj)
theorem SetA.one {fa : Array Value} {f : Int → Bool} (h : SetA fa f) : fa.all (·.oneCell') = true := by
  refine Array.all_eq_true_iff_forall_mem.2 fun u hu => ?_
  obtain ⟨i, hi, rfl⟩ := Array.mem_iff_getElem.1 hu
  have h2 := h.2 i (by rw [← h.1]; exact hi)
  rw [Array.getElem?_eq_getElem hi] at h2
  rw [Option.some.inj h2]; rfl

theorem results_cell {fn : Func} {p : Tmp} {ty : TypeId} (h : fn.results = #[.cell p ty]) (tmps : Array Value) (P : Program) (w : World) :
    (results fn tmps).run P w = ((asAddr (tmps.getD p undef)).run P w).andThen fun a w₁ => (loadVar ty a).run P w₁ := by
  simp only [results, h]
  simp [Sem.run_bind, Result.andThen]

/-- A skip at a place leads to another. -/
def Leads (os : List St) (j i : Nat) : Prop := ∃ s, os[i]? = some s ∧ s.k = 6 ∧ min (i + 1 + s.b.toNat) os.length = j

end Go.Proofs.Ytkggejmamhakaaa
