/- The program's tracer: what holds of it on its way (plain), and how it lies in memory. -/
import Derived.Test.YtjokiminlplbcaaRws
import Derived.Test.YtjokiminlplbcaaTrf
import Derived.Test.YtjokiminlplbcaaMem
namespace Go.Proofs.Ytjokiminlplbcaa
set_option maxRecDepth 100000
set_option linter.unusedVariables false
open Go.RowKit

/-- What holds of a tracer's row, stack and run. -/
structure Inv (os : List St) (row : List Int) (stk : List Rn) (now : Rn) : Prop where
  len : row.length = stk.length
  fit : now.fit
  val : ∀ d ∈ row, 0 ≤ d ∧ d ≤ 2
  at_ : ∀ (j : Nat) (r : Rn), stk[j]? = some r → r.fit ∧ r.wt ≠ 0 ∧ j ≤ r.pos ∧ ∃ s, os[r.pos]? = some s ∧ s.draws = true ∧ s.ok = true
  pos : row.length ≤ now.pos

theorem Inv.start (os : List St) : Inv os [] [] ⟨0, 0, 1⟩ := ⟨rfl, Rn.fit_start, fun d h => by simp at h, fun j r h => by simp at h, Nat.zero_le _⟩
theorem step_pos (s : St) (r : Rn) (x : Int) : r.pos + 1 ≤ (Rn.step s r x).pos := by
  show r.pos + 1 ≤ r.pos + 1 + s.jump r.st
  omega
theorem Inv.own {os : List St} {row : List Int} {stk : List Rn} {now : Rn} {s : St} (h : Inv os row stk now) (hok : s.ok = true) : Inv os row stk (Rn.step s now 0) :=
  ⟨h.len, h.fit.step hok (by decide), h.val, h.at_, Nat.le_trans h.pos (by have := step_pos s now 0; omega)⟩
theorem Inv.draw {os : List St} {row : List Int} {stk : List Rn} {now : Rn} {s : St} (h : Inv os row stk now) (hs : os[now.pos]? = some s) (hok : s.ok = true) (hd : s.draws = true) (hw : now.wt ≠ 0) : Inv os (row ++ [0]) (stk ++ [now]) (Rn.step s now 0) := by
  refine ⟨by simp [h.len], h.fit.step hok (by decide), fun d hd' => ?_, fun j r hr => ?_, ?_⟩
  · rcases List.mem_append.1 hd' with hd' | hd'
    · exact h.val d hd'
    · rw [List.mem_singleton] at hd'
      subst hd'
      decide
  · by_cases hj : j < stk.length
    · rw [List.getElem?_append_left hj] at hr
      exact h.at_ j r hr
    · rw [List.getElem?_append_right (by omega)] at hr
      have hj0 : j - stk.length = 0 := by
        have := (List.getElem?_eq_some_iff.1 hr).1
        simp at this; omega
      rw [hj0] at hr
      have hr' : now = r := by simpa using hr
      subst hr'
      refine ⟨h.fit, hw, ?_, s, hs, hd, hok⟩
      have := h.pos
      have := h.len
      omega
  · have h1 := step_pos s now 0
    have h2 := h.pos
    rw [List.length_append, List.length_singleton]
    omega
theorem Inv.up {os : List St} {row : List Int} {stk : List Rn} {now r : Rn} {s : St} {j : Nat} {d : Int} (h : Inv os row stk now) (hd : row[j]? = some d) (hd1 : d ≤ 1) (hr : stk[j]? = some r) (hs : os[r.pos]? = some s) :
    Inv os (row.take j ++ [d + 1]) (stk.take (j + 1)) (Rn.step s r (d + 1)) := by
  have hl := (List.getElem?_eq_some_iff.1 hd).1
  have hl2 := (List.getElem?_eq_some_iff.1 hr).1
  obtain ⟨hf, hw, hp, s', hs', hdr, hok⟩ := h.at_ j r hr
  obtain rfl : s' = s := Option.some.inj (hs'.symm.trans hs)
  have hdv := h.val d (List.mem_of_getElem? hd)
  refine ⟨by simp; omega, hf.step hok (by omega), fun x hx => ?_, fun i q hq => ?_, ?_⟩
  · rcases List.mem_append.1 hx with hx | hx
    · exact h.val x (List.mem_of_mem_take hx)
    · rw [List.mem_singleton] at hx
      subst hx
      omega
  · rw [List.getElem?_take] at hq
    split at hq
    · exact h.at_ i q hq
    · cases hq
  · have h1 := step_pos s' r (d + 1)
    rw [List.length_append, List.length_singleton, List.length_take]
    omega

/-- The cells of runs, one behind the other. -/
def Rn.cells (r : Rn) : List Value := [.int .i64 r.pos, .int .i64 r.st, .int .i64 r.wt]
def rnflat (rs : List Rn) : List Value := rs.flatMap Rn.cells
theorem rnflat_append (a b : List Rn) : rnflat (a ++ b) = rnflat a ++ rnflat b := List.flatMap_append
theorem rnflat_length (rs : List Rn) : (rnflat rs).length = rs.length * 3 := by
  induction rs with
  | nil => rfl
  | cons s r ih =>
    have : rnflat (s :: r) = s.cells ++ rnflat r := rfl
    rw [this, List.length_append, ih, List.length_cons]
    simp [Rn.cells]; omega
theorem rnflat_one (rs : List Rn) : ∀ u ∈ rnflat rs, u.oneCell' = true := by
  intro u hu
  obtain ⟨s, _, hs⟩ := List.mem_flatMap.1 hu
  simp only [Rn.cells, List.mem_cons, List.not_mem_nil, or_false] at hs
  rcases hs with rfl | rfl | rfl <;> rfl

/-- A tracer in memory: its block g, the program's list below it, its row and its stack in memory of their own. -/
def Trcr (w : World) (g m : Nat) (A : Option Addr) (c : Nat) (os : List St) (row : List Int) (stk : List Rn) (now : Rn) (vr vs : Value) : Prop :=
  Has w g 68 #[.slice A m c, vr, vs, .int .i64 now.pos, .int .i64 now.st, .int .i64 now.wt] ∧ Lst w g A m os ∧ IOwn w (g + 1) vr row ∧ w.ownsRow (g + 1) 66 3 vs stk.length (rnflat stk)
/-- The blocks that a tracer may turn. -/
def TrB (g : Nat) (vr vs : Value) (i : Nat) : Prop := i = g ∨ vr.ownBlock = some i ∨ vs.ownBlock = some i
/-- How a step of a tracer leaves memory. -/
def Trd (w w' : World) (g : Nat) (vr vs vr' vs' : Value) : Prop :=
  KeptBut w w' (TrB g vr vs) ∧ (∀ k, vr'.ownBlock = some k → vr.ownBlock = some k ∨ w.heap.size ≤ k) ∧ (∀ k, vs'.ownBlock = some k → vs.ownBlock = some k ∨ w.heap.size ≤ k)
theorem Trd.trans {a b c : World} {g : Nat} {vr vs vr' vs' vr2 vs2 : Value} (h : Trd a b g vr vs vr' vs') (k : Trd b c g vr' vs' vr2 vs2) : Trd a c g vr vs vr2 vs2 := by
  have hz := h.1.size
  refine ⟨KeptBut.trans h.1 k.1 (fun i hi e => ?_), fun i hi => ?_, fun i hi => ?_⟩
  · rcases e with e | e | e
    · exact .inl e
    · rcases h.2.1 i e with e' | e'
      · exact .inr (.inl e')
      · omega
    · rcases h.2.2 i e with e' | e'
      · exact .inr (.inr e')
      · omega
  · rcases k.2.1 i hi with e | e
    · exact h.2.1 i e
    · exact .inr (by omega)
  · rcases k.2.2 i hi with e | e
    · exact h.2.2 i e
    · exact .inr (by omega)
end Go.Proofs.Ytjokiminlplbcaa
