/- The model's walk through all traces. The model's TracesOf. -/
import Derived.Test.YtghkpmafocacoaaRt
import Derived.Test.YtghkpmafocacoaaNm
import Derived.Test.YtghkpmafocacoaaTx
import Derived.Deep.AppendLies
import Derived.Deep.RegionLaw
namespace Go.Proofs.Ytghkpmafocacoaa
set_option maxRecDepth 100000
set_option linter.unusedVariables false
open Go.RowKit

theorem lv_len : ∀ (os : List St) (k : Nat) (st wt : Int), (lv os k st wt).length ≤ 3 ^ os.length
  | [], k, st, wt => by simp [lv]
  | s :: r, k + 1, st, wt => by
    rw [lv]
    have := lv_len r k st wt
    rw [List.length_cons, Nat.pow_succ]
    omega
  | s :: r, 0, st, wt => by
    rw [lv, List.length_cons, Nat.pow_succ]
    have hp : 0 < 3 ^ r.length := Nat.pow_pos (by decide)
    split
    · simp; omega
    · split
      · simp only [List.length_append, List.length_map]
        have h0 := lv_len r 0 (s.next st 0) (wt * s.fac (s.next st 0))
        have h1 := lv_len r 0 (s.next st 1) (wt * s.fac (s.next st 1))
        have h2 := lv_len r 0 (s.next st 2) (wt * s.fac (s.next st 2))
        omega
      · have h0 := lv_len r (s.jump st) (s.next st 0) (wt * s.fac (s.next st 0))
        omega
theorem lvR_len {os : List St} (r : Rn) (h : os.length ≤ 12) : (lvR os r).length ≤ 531441 := by
  unfold lvR
  refine Nat.le_trans (lv_len _ _ _ _) (Nat.le_trans (Nat.pow_le_pow_right (by decide) (show (os.drop r.pos).length ≤ 12 by rw [List.length_drop]; omega)) (by decide))
/-- The rows of runs. -/
def rowsOf (pre : List Int) (ls : List Leaf) : List (List Int) := (filt ls).map fun l => pre ++ l.1
theorem rowsOf_append (pre : List Int) (a b : List Leaf) : rowsOf pre (a ++ b) = rowsOf pre a ++ rowsOf pre b := by
  unfold rowsOf; rw [filt_append, List.map_append]
theorem rowsOf_map (pre q : List Int) (ls : List Leaf) : rowsOf pre (ls.map (lpre q)) = rowsOf (pre ++ q) ls := by
  unfold rowsOf
  rw [filt_map, List.map_map]
  congr 1
  funext l
  simp [lpre]
theorem rowsOf_zero (pre : List Int) (st : Int) : rowsOf pre [([], st, 0)] = [] := by
  unfold rowsOf
  rw [filt_no rfl]; rfl
theorem rowsOf_leaf (pre : List Int) {st wt : Int} (h : wt ≠ 0) : rowsOf pre [([], st, wt)] = [pre] := by
  unfold rowsOf
  rw [filt_yes h]
  simp [filt]
theorem rowsOf_len (pre : List Int) (ls : List Leaf) : (rowsOf pre ls).length ≤ ls.length := by
  unfold rowsOf filt
  rw [List.length_map]
  exact List.length_filter_le _ _

/-- The runs that draw less than d. -/
def brs (os : List St) (s : St) (r : Rn) : Nat → List Leaf
  | 0 => []
  | d + 1 => brs os s r d ++ (lvR os (Rn.step s r d)).map (lpre [(d : Int)])
theorem brs_all {os : List St} {r : Rn} {s : St} (h : os[r.pos]? = some s) (hd : s.draws = true) (hw : r.wt ≠ 0) : brs os s r 3 = lvR os r := by
  rw [lvR_draw h hd hw]
  simp [brs]
theorem brs_len {os : List St} {r : Rn} {s : St} (h : os[r.pos]? = some s) (hd : s.draws = true) (hw : r.wt ≠ 0) {d : Nat} (hlt : d < 3) : (brs os s r d).length + (lvR os (Rn.step s r d)).length ≤ (lvR os r).length := by
  rw [← brs_all h hd hw]
  obtain rfl | rfl | rfl : d = 0 ∨ d = 1 ∨ d = 2 := by omega
  all_goals simp [brs]
  all_goals omega

theorem ty_c : (174 : TypeId) ≠ 31 := by decide
theorem info_row : (Try.prog.info? 31).map (fun i => (i.zero, i.size, i.bytes)) = some (some (.slice none 0 0), 1, 24) := by kernel_rfl

end Go.Proofs.Ytghkpmafocacoaa

namespace Go.Proofs.Ytghkpmafocacoaa
set_option maxRecDepth 100000
set_option linter.unusedVariables false
open Go.RowKit

theorem RowsV.le {w : World} {base base' : Nat} {v : Value} {rs : List (List Int)} {vs : List Value} (h : RowsV w base v rs vs) (hb : base' ≤ base) : RowsV w base' v rs vs :=
  ⟨owns_le h.1 hb, fun i x hx => by
    obtain ⟨ds, hd, ho⟩ := h.2 i x hx
    exact ⟨ds, hd, owns_le ho hb⟩⟩

/-- The rows of a program's traces. -/
def rowsT (o : Option (List Leaf)) : List (List Int) := (o.getD []).map fun l => l.1
/-- How telling all traces ends. -/
def TrOd (w : World) (o : Option (List Leaf)) (e : Ending) (w' : World) : Prop :=
  ∃ v vs, e = .returned (.tuple #[v, .bool o.isSome]) ∧ RowsV w' w.heap.size v (rowsT o) vs ∧ Below w.heap.size w w'
theorem TrOd.no {w w' : World} {o : Option (List Leaf)} (h : o = none) (hb : Below w.heap.size w w') : TrOd w o (.returned (.tuple #[.slice none 0 0, .bool false])) w' := by
  subst h; exact ⟨_, [], rfl, RowsV.nil _ _, hb⟩

theorem tracesOf_none {ps : List St} (h : unrolled ps = none) : tracesOf ps = none := by unfold tracesOf; rw [h]; rfl
theorem tracesOf_many {ps os : List St} (h : unrolled ps = some os) (hd : 6 < (os.filter St.draws).length) : tracesOf ps = none := by
  unfold tracesOf; rw [h]
  exact if_neg (by omega)
theorem tracesOf_some {ps os : List St} (h : unrolled ps = some os) (hd : (os.filter St.draws).length ≤ 6) : tracesOf ps = some (traces os) := by
  unfold tracesOf; rw [h]
  exact if_pos hd

end Go.Proofs.Ytghkpmafocacoaa
