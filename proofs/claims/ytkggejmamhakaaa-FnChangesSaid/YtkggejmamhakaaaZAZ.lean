/- Parts of the proof: Ba. -/
import Derived.Test.YtkggejmamhakaaaZAO
namespace Go.Proofs.Ytkggejmamhakaaa
set_option maxRecDepth 100000
set_option linter.unusedVariables false
/-- How many values a statement draws from. -/
def St.many (s : St) : Nat := if s.draws then 3 else 1
theorem many_le (s : St) : s.many ≤ 3 := by unfold St.many; split <;> omega
theorem many_pos (s : St) : 1 ≤ s.many := by unfold St.many; split <;> omega
/-- A run that is at the end at the most. -/
def clp (m : Nat) (r : Rn) : Rn := ⟨min r.pos m, r.st, r.wt⟩
/-- The runs that come of one. -/
def prt (m : Nat) (s : St) (r : Rn) : List Rn := (List.range s.many).map fun (d : Nat) => clp m (Rn.step s r d)
theorem prt_length (m : Nat) (s : St) (r : Rn) : (prt m s r).length = s.many := by simp [prt]
theorem prt_at {m : Nat} {s : St} {r : Rn} {d : Nat} (h : d < s.many) : (prt m s r)[d]? = some (clp m (Rn.step s r d)) := by
  unfold prt
  rw [List.getElem?_map, List.getElem?_range h]; rfl
theorem with_with {st v a b : Int} (hs : 0 ≤ st ∧ st ≤ 80) (hv : 0 ≤ v ∧ v ≤ 3) (ha : 0 ≤ a ∧ a ≤ 2) (hb : 0 ≤ b ∧ b ≤ 2) : withValue (withValue st v a) v b = withValue st v b := by
  have h2 := with_bd hs hv ha
  obtain ⟨e1, f1⟩ := valueAt_with hs hv ha
  obtain ⟨e2, f2⟩ := valueAt_with hs hv hb
  obtain ⟨e3, f3⟩ := valueAt_with h2 hv hb
  refine agree_all (with_bd h2 hv hb) (with_bd hs hv hb) fun i hi _ => ?_
  by_cases h : (i : Int) = v
  · rw [h, e2, e3]
  · rw [f3 i (by omega) (by omega) h, f1 i (by omega) (by omega) h, f2 i (by omega) (by omega) h]
/-- The cells of a row that has a number for each state. -/
def RowA (cs : Array Value) (g : Int → Int) : Prop := cs.size = 81 ∧ ∀ q : Nat, q < 81 → cs[q]? = some (.int .i64 (g q))
theorem RowA.congr {cs : Array Value} {g g' : Int → Int} (h : RowA cs g) (e : ∀ st, 0 ≤ st ∧ st ≤ 80 → g st = g' st) : RowA cs g' := ⟨h.1, fun q hq => by rw [← e q (by omega)]; exact h.2 q hq⟩
end Go.Proofs.Ytkggejmamhakaaa
