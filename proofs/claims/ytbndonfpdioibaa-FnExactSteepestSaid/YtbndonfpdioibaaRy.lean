/- A region that draws its order, by what stands behind each operation, whatever the order. -/
import Derived.Test.YtbndonfpdioibaaMem
import Derived.Deep.RegionLaw
namespace Go.Proofs.Ytbndonfpdioibaa
set_option maxRecDepth 100000
set_option linter.unusedVariables false
open Go.RowKit

section
variable {P : Program} {ops : Array Oper} {Q : Exit → Act → World → Prop} {md : Region.Mode}

def openOps (listed : Array Bool) : Nat := (listed.toList.filter fun b => !b).length
theorem open_list : ∀ (l : List Bool) (i : Nat), l[i]? = some false → ((l.set i true).filter fun b => !b).length + 1 = (l.filter fun b => !b).length
  | [], i, h => by simp at h
  | b :: l, 0, h => by
    have e : b = false := by simpa using h
    subst e
    simp
  | b :: l, i + 1, h => by
    have ih := open_list l i (by simpa using h)
    cases b <;> simp <;> omega
theorem open_set {listed : Array Bool} {i : Nat} (h : listed[i]? = some false) : openOps (listed.setIfInBounds i true) + 1 = openOps listed := by
  unfold openOps
  rw [Array.toList_setIfInBounds]
  exact open_list _ _ (by simpa using h)
theorem getD_false {listed : Array Bool} {i : Nat} (h : listed.getD i true = false) : listed[i]? = some false := by
  rw [Array.getD_eq_getD_getElem?] at h
  cases he : listed[i]? with
  | none => rw [he] at h; cases h
  | some b => rw [he] at h; simp at h; rw [h]
theorem open_none {listed : Array Bool} (h : openOps listed = 0) {i : Nat} : listed[i]? ≠ some false := fun e => by
  have := open_set e
  omega

/-- A REGION THAT DRAWS ITS ORDER, by what holds of what is listed: one proof for each operation. -/
theorem wpAny_inv {I : Array Bool → Act → World → Prop} (hs : ∀ listed a w, I listed a w → ∀ i ∈ Region.ready md ops listed, wpOp P ops Q i (I (listed.setIfInBounds i true)) a w)
    (he : ∀ listed a w, I listed a w → Region.ready md ops listed = [] → Q .normal a w) : ∀ (fuel : Nat) (listed : Array Bool) (a : Act) (w : World), I listed a w → openOps listed ≤ fuel → wpAny P md ops Q fuel listed a w
  | 0, listed, a, w, h, hf => by
    have hr : Region.ready md ops listed = [] := by
      apply List.eq_nil_iff_forall_not_mem.2
      intro i hi
      exact open_none (by omega) (getD_false (mem_ready.1 hi).1)
    exact ⟨hr, he listed a w h hr⟩
  | fuel + 1, listed, a, w, h, hf => by
    refine ⟨fun hr => he listed a w h hr, fun i hi => wpOp_mono (fun a' w' h' => ?_) (hs listed a w h i hi)⟩
    have := open_set (getD_false (mem_ready.1 hi).1)
    exact wpAny_inv hs he fuel _ a' w' h' (by omega)
/-- Where nothing is ready, all is listed. -/
theorem ready_done {listed : Array Bool} (hz : listed.size = ops.size) (hlt : (List.range ops.size).all (fun k => ((ops[k]?).map fun o => o.after.all fun e => decide (e.on < k)).getD true) = true) (hr : Region.ready md ops listed = []) :
    ∀ k, k < ops.size → listed.getD k false = true := by
  intro k
  induction k using Nat.strongRecOn with
  | _ k ih =>
    intro hk
    apply Classical.byContradiction
    intro h0
    have hkl : k < listed.size := by omega
    have hb : listed[k]? = some false := by
      rw [Array.getElem?_eq_getElem hkl]
      rw [Array.getD_eq_getD_getElem?, Array.getElem?_eq_getElem hkl] at h0
      simp at h0
      rw [h0]
    have hm : k ∈ Region.ready md ops listed := by
      refine mem_ready.2 ⟨by rw [Array.getD_eq_getD_getElem?, hb]; rfl, ops[k], Array.getElem?_eq_getElem hk, fun e he _ => ?_⟩
      have h1 := List.all_eq_true.1 hlt k (List.mem_range.2 hk)
      rw [Array.getElem?_eq_getElem hk] at h1
      have h2 : ops[k].after.all (fun e => decide (e.on < k)) = true := h1
      have h3 := Array.all_eq_true_iff_forall_mem.1 h2 e he
      have h4 : e.on < k := by simpa using h3
      exact ih e.on h4 (by omega)
    rw [hr] at hm
    cases hm
theorem listed_ne {listed : Array Bool} {i k : Nat} (hk : i ≠ k) (e : (listed.setIfInBounds i true).getD k false = true) : listed.getD k false = true := by
  rwa [getD_set_ne false hk] at e
end

/-- All blocks that are known are as they were. -/
def Kp (w w' : World) : Prop := ∀ b t cs, Has w b t cs → Has w' b t cs
theorem Kp.alloc (w : World) (o : Obj) : Kp w (w.alloc o) := fun _ _ _ h => h.alloc o
theorem Kp.below {w w' : World} (h : Below w.heap.size w w') : Kp w w' := fun _ _ _ k => k.kept h
end Go.Proofs.Ytbndonfpdioibaa
