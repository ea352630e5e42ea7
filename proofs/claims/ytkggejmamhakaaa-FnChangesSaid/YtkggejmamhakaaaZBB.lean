/- Parts of the proof: Bb, Bc, Rg. -/
import Derived.Deep.MidRow
import Derived.Deep.WholeRow
import Derived.Test.YtkggejmamhakaaaZBA
import Derived.Deep.LoopGhost
import Derived.StillTailTactics
import Derived.IntWalk
import Derived.Deep.RegionLaw
import Derived.Deep.QuietTactic
import Derived.BigQuiet
namespace Go.Proofs.Ytkggejmamhakaaa
set_option maxRecDepth 100000
set_option linter.unusedVariables false
open Go.RowKit
/-- The cells of a set of states. -/
def SetA (fa : Array Value) (f : Int → Bool) : Prop := fa.size = 81 ∧ ∀ q : Nat, q < 81 → fa[q]? = some (.bool (f q))
theorem SetA.one {fa : Array Value} {f : Int → Bool} (h : SetA fa f) : fa.all (·.oneCell') = true := by
  refine Array.all_eq_true_iff_forall_mem.2 fun u hu => ?_
  obtain ⟨i, hi, rfl⟩ := Array.mem_iff_getElem.1 hu
  have h2 := h.2 i (by rw [← h.1]; exact hi)
  rw [Array.getElem?_eq_getElem hi] at h2
  rw [Option.some.inj h2]; rfl
end Go.Proofs.Ytkggejmamhakaaa

namespace Go.Proofs.Ytkggejmamhakaaa
set_option maxRecDepth 100000
set_option linter.unusedVariables false
open Go.RowKit
/-- The cells of sets of states. -/
def LedA (cs : Array Value) (m : Nat) (led : Nat → Int → Bool) : Prop := cs.size = (m + 1) * 81 ∧ ∀ i q : Nat, i ≤ m → q < 81 → cs[i * 81 + q]? = some (.bool (led i q))
def upL (led : Nat → Int → Bool) (p : Nat) (z : Int) : Nat → Int → Bool := fun i st => if i = p ∧ st = z then true else led i st
theorem LedA.upd {cs : Array Value} {m : Nat} {led : Nat → Int → Bool} (h : LedA cs m led) {p z : Nat} (hp : p ≤ m) (hz : z < 81) : LedA (cs.setIfInBounds (p * 81 + z) (.bool true)) m (upL led p z) := by
  refine ⟨by simpa using h.1, fun i q hi hq => ?_⟩
  rw [Array.getElem?_setIfInBounds]
  unfold upL
  by_cases he : p * 81 + z = i * 81 + q
  · have h1 : i = p := by omega
    subst h1
    have h2 : q = z := by omega
    subst h2
    rw [if_pos rfl, if_pos (by rw [h.1]; omega), if_pos ⟨rfl, rfl⟩]
  · rw [if_neg he, if_neg (by rintro ⟨rfl, e⟩; exact he (by omega))]
    exact h.2 i q hi hq
/-- Whither runs lead from a place and a state is whole. -/
def ClAt (os : List St) (led : Nat → Int → Bool) (i : Nat) (st : Int) : Prop := ∀ s, os[i]? = some s → led i st = true → ∀ r ∈ prt os.length s ⟨i, st, 1⟩, r.wt ≠ 0 → led r.pos r.st = true
theorem upL_mono {led : Nat → Int → Bool} {p i : Nat} {z st : Int} (h : led i st = true) : upL led p z i st = true := by
  unfold upL
  split
  · rfl
  · exact h
theorem upL_ne {led : Nat → Int → Bool} {p i : Nat} {z st : Int} (h : i ≠ p) : upL led p z i st = led i st := if_neg fun e => h e.1
theorem ClAt.upd {os : List St} {led : Nat → Int → Bool} {i p : Nat} {st z : Int} (h : ClAt os led i st) (hp : i ≠ p) : ClAt os (upL led p z) i st := fun s hs hl r hr hw => upL_mono (h s hs (by rwa [upL_ne hp] at hl) r hr hw)
def LedI (os : List St) (f : Int → Bool) (k : Nat) (ledk : Int → Bool) (q : Nat) (led : Nat → Int → Bool) : Prop :=
  (∀ st, led k st = ledk st) ∧ (∀ st, 0 ≤ st ∧ st ≤ 80 → led 0 st = f st) ∧ (∀ i, i < k → ∀ st, 0 ≤ st ∧ st ≤ 80 → ClAt os led i st) ∧ (∀ st : Int, 0 ≤ st ∧ st < (q : Int) → ClAt os led k st)
theorem LedI.upd {os : List St} {f : Int → Bool} {k p q : Nat} {ledk : Int → Bool} {led : Nat → Int → Bool} {z : Int} (h : LedI os f k ledk q led) (hp : k < p) : LedI os f k ledk q (upL led p z) :=
  ⟨fun st => by rw [upL_ne (by omega)]; exact h.1 st, fun st hs => by rw [upL_ne (by omega)]; exact h.2.1 st hs, fun i hi st hs => (h.2.2.1 i hi st hs).upd (by omega), fun st hs => (h.2.2.2 st hs).upd (by omega)⟩
/-- The first parts of a run are led. -/
def LedP (led : Nat → Int → Bool) (rs : List Rn) (d : Nat) : Prop := ∀ i r, i < d → rs[i]? = some r → r.wt ≠ 0 → led r.pos r.st = true
theorem LedP.upd {led : Nat → Int → Bool} {rs : List Rn} {d : Nat} {r : Rn} (h : LedP led rs d) (hr : rs[d]? = some r) : LedP (upL led r.pos r.st) rs (d + 1) := fun i r' hi hr' hw => by
  by_cases hid : i = d
  · subst hid
    obtain rfl : r = r' := Option.some.inj (hr.symm.trans hr')
    exact if_pos ⟨rfl, rfl⟩
  · exact upL_mono (h i r' (by omega) hr' hw)
theorem LedI.next {os : List St} {f : Int → Bool} {k q : Nat} {ledk : Int → Bool} {led : Nat → Int → Bool} {s : St} (h : LedI os f k ledk q led) (hs : os[k]? = some s) (hp : ledk q = true → LedP led (prt os.length s ⟨k, q, 1⟩) s.many) : LedI os f k ledk (q + 1) led :=
  ⟨h.1, h.2.1, h.2.2.1, fun st hst => by
    by_cases he : st = q
    · subst he
      intro s' hs' hl r hr hw
      obtain rfl : s = s' := Option.some.inj (hs.symm.trans hs')
      obtain ⟨i, hi⟩ := List.mem_iff_getElem?.1 hr
      have hl' := (List.getElem?_eq_some_iff.1 hi).1
      rw [prt_length] at hl'
      exact hp (by rw [← h.1]; exact hl) i r hl' hi hw
    · exact h.2.2.2 st (by omega)⟩
theorem LedI.on {os : List St} {f : Int → Bool} {k : Nat} {ledk : Int → Bool} {led : Nat → Int → Bool} (h : LedI os f k ledk 81 led) : LedI os f (k + 1) (led (k + 1)) 0 led :=
  ⟨fun _ => rfl, h.2.1, fun i hi st hs => by
    by_cases he : i = k
    · subst he
      exact h.2.2.2 st (by omega)
    · exact h.2.2.1 i (by omega) st hs, fun st hs => by omega⟩
theorem LedI.start {os : List St} {f : Int → Bool} {led : Nat → Int → Bool} : LedI os f 0 f 0 (fun i st => if i = 0 then f st else led i st) :=
  ⟨fun _ => rfl, fun _ _ => rfl, fun i hi => by omega, fun st hs => by omega⟩
/-- One of the sets of states. -/
theorem LedA.part {cs : Array Value} {m : Nat} {led : Nat → Int → Bool} (h : LedA cs m led) {k : Nat} (hk : k ≤ m) : SetA (cs.extract (k * 81) (k * 81 + 81)) (led k) := by
  have hz : k * 81 + 81 ≤ cs.size := by rw [h.1]; omega
  refine ⟨by simp; omega, fun q hq => ?_⟩
  rw [Array.getElem?_extract]
  rw [if_pos (by omega)]
  exact h.2 k q hk hq
end Go.Proofs.Ytkggejmamhakaaa

namespace Go.Proofs.Ytkggejmamhakaaa
set_option maxRecDepth 100000
set_option linter.unusedVariables false
open Go.RowKit
section
variable {P : Program} {ops : Array Oper} {Q : Exit → Act → World → Prop} {md : Region.Mode}
def openOps (listed : Array Bool) : Nat := (listed.toList.filter fun b => !b).length
theorem open_list : ∀ (l : List Bool) (i : Nat), l[i]? = some false → ((l.set i true).filter fun b => !b).length + 1 = (l.filter fun b => !b).length
  | [], i, h => by simp at h
  | b :: l, 0, h => by
    have e : b = false := by simpa using h
    subst e
    simp
  | b :: l, i + 1, h => by
    have ih := open_list l i (by simpa using h)
    cases b <;> simp <;> omega
theorem open_set {listed : Array Bool} {i : Nat} (h : listed[i]? = some false) : openOps (listed.setIfInBounds i true) + 1 = openOps listed := by
  unfold openOps
  rw [Array.toList_setIfInBounds]
  exact open_list _ _ (by simpa using h)
theorem getD_false {listed : Array Bool} {i : Nat} (h : listed.getD i true = false) : listed[i]? = some false := by
  rw [Array.getD_eq_getD_getElem?] at h
  cases he : listed[i]? with
  | none => rw [he] at h; cases h
  | some b => rw [he] at h; simp at h; rw [h]
theorem open_none {listed : Array Bool} (h : openOps listed = 0) {i : Nat} : listed[i]? ≠ some false := fun e => by
  have := open_set e
  omega
/-- A REGION THAT DRAWS ITS ORDER, by what holds of what is listed: one proof for each operation. -/
theorem wpAny_inv {I : Array Bool → Act → World → Prop} (hs : ∀ listed a w, I listed a w → ∀ i ∈ Region.ready md ops listed, wpOp P ops Q i (I (listed.setIfInBounds i true)) a w)
    (he : ∀ listed a w, I listed a w → Region.ready md ops listed = [] → Q .normal a w) : ∀ (fuel : Nat) (listed : Array Bool) (a : Act) (w : World), I listed a w → openOps listed ≤ fuel → wpAny P md ops Q fuel listed a w
  | 0, listed, a, w, h, hf => by
    have hr : Region.ready md ops listed = [] := by
      apply List.eq_nil_iff_forall_not_mem.2
      intro i hi
      exact open_none (by omega) (getD_false (mem_ready.1 hi).1)
    exact ⟨hr, he listed a w h hr⟩
  | fuel + 1, listed, a, w, h, hf => by
    refine ⟨fun hr => he listed a w h hr, fun i hi => wpOp_mono (fun a' w' h' => ?_) (hs listed a w h i hi)⟩
    have := open_set (getD_false (mem_ready.1 hi).1)
    exact wpAny_inv hs he fuel _ a' w' h' (by omega)
/-- Where nothing is ready, all is listed. -/
theorem ready_done {listed : Array Bool} (hz : listed.size = ops.size) (hlt : (List.range ops.size).all (fun k => ((ops[k]?).map fun o => o.after.all fun e => decide (e.on < k)).getD true) = true) (hr : Region.ready md ops listed = []) :
    ∀ k, k < ops.size → listed.getD k false = true := by
  intro k
  induction k using Nat.strongRecOn with
  | _ k ih =>
    intro hk
    apply Classical.byContradiction
    intro h0
    have hkl : k < listed.size := by omega
    have hb : listed[k]? = some false := by
      rw [Array.getElem?_eq_getElem hkl]
      rw [Array.getD_eq_getD_getElem?, Array.getElem?_eq_getElem hkl] at h0
      simp at h0
      rw [h0]
    have hm : k ∈ Region.ready md ops listed := by
      refine mem_ready.2 ⟨by rw [Array.getD_eq_getD_getElem?, hb]; rfl, ops[k], Array.getElem?_eq_getElem hk, fun e he _ => ?_⟩
      have h1 := List.all_eq_true.1 hlt k (List.mem_range.2 hk)
      rw [Array.getElem?_eq_getElem hk] at h1
      have h2 : ops[k].after.all (fun e => decide (e.on < k)) = true := h1
      have h3 := Array.all_eq_true_iff_forall_mem.1 h2 e he
      have h4 : e.on < k := by simpa using h3
      exact ih e.on h4 (by omega)
    rw [hr] at hm
    cases hm
theorem listed_ne {listed : Array Bool} {i k : Nat} (hk : i ≠ k) (e : (listed.setIfInBounds i true).getD k false = true) : listed.getD k false = true := by
  rwa [getD_set_ne false hk] at e
end
/-- All blocks that are known are as they were. -/
def Kp (w w' : World) : Prop := ∀ b t cs, Has w b t cs → Has w' b t cs
theorem Kp.alloc (w : World) (o : Obj) : Kp w (w.alloc o) := fun _ _ _ h => h.alloc o
theorem Kp.below {w w' : World} (h : Below w.heap.size w w') : Kp w w' := fun _ _ _ k => k.kept h
end Go.Proofs.Ytkggejmamhakaaa
