/- All runs of a program, one behind the other, as the tracer goes through them; plain functions. -/
import Derived.Test.YtjokiminlplbcaaTrc
namespace Go.Proofs.Ytjokiminlplbcaa
set_option maxRecDepth 100000

/-- How a run ended: what was drawn, the state and the weight. -/
abbrev Leaf := List Int × Int × Int
def lpre (pre : List Int) (l : Leaf) : Leaf := (pre ++ l.1, l.2)
theorem lpre_nil (ls : List Leaf) : ls.map (lpre []) = ls := by
  have : lpre [] = id := by funext l; rfl
  rw [this, List.map_id]
theorem lpre_lpre (a b : List Int) (ls : List Leaf) : (ls.map (lpre b)).map (lpre a) = ls.map (lpre (a ++ b)) := by
  rw [List.map_map]
  congr 1
  funext l
  simp [lpre]

/-- All ends of runs from a place on; a run whose weight is 0 ends there. -/
def lv : List St → Nat → Int → Int → List Leaf
  | [], _, st, wt => [([], st, wt)]
  | _ :: r, k + 1, st, wt => lv r k st wt
  | s :: r, 0, st, wt =>
    if wt = 0 then [([], st, 0)]
    else if s.draws then
      (lv r 0 (s.next st 0) (wt * s.fac (s.next st 0))).map (lpre [0]) ++ ((lv r 0 (s.next st 1) (wt * s.fac (s.next st 1))).map (lpre [1]) ++ (lv r 0 (s.next st 2) (wt * s.fac (s.next st 2))).map (lpre [2]))
    else lv r (s.jump st) (s.next st 0) (wt * s.fac (s.next st 0))

theorem lv_skip : ∀ (os : List St) (k : Nat) (st wt : Int), lv os k st wt = lv (os.drop k) 0 st wt
  | os, 0, _, _ => by simp
  | [], k + 1, st, wt => by simp [lv]
  | _ :: r, k + 1, st, wt => by
    rw [lv, lv_skip r k]; rfl

def lvR (os : List St) (r : Rn) : List Leaf := lv (os.drop r.pos) 0 r.st r.wt

theorem lvR_end {os : List St} {r : Rn} (h : os.length ≤ r.pos) : lvR os r = [([], r.st, r.wt)] := by
  unfold lvR
  rw [List.drop_eq_nil_of_le h]; rfl
theorem lvR_zero {os : List St} {r : Rn} (h : r.wt = 0) : lvR os r = [([], r.st, r.wt)] := by
  by_cases hl : os.length ≤ r.pos
  · exact lvR_end hl
  · unfold lvR
    rw [List.drop_eq_getElem_cons (by omega), lv, if_pos h, h]
theorem lvR_own {os : List St} {r : Rn} {s : St} (h : os[r.pos]? = some s) (hd : s.draws = false) (hw : r.wt ≠ 0) : lvR os r = lvR os (Rn.step s r 0) := by
  unfold lvR Rn.step
  rw [drop_cons' h, lv, if_neg hw, if_neg (by simp [hd]), lv_skip, List.drop_drop]
theorem lvR_draw {os : List St} {r : Rn} {s : St} (h : os[r.pos]? = some s) (hd : s.draws = true) (hw : r.wt ≠ 0) :
    lvR os r = (lvR os (Rn.step s r 0)).map (lpre [0]) ++ ((lvR os (Rn.step s r 1)).map (lpre [1]) ++ (lvR os (Rn.step s r 2)).map (lpre [2])) := by
  unfold lvR Rn.step
  rw [drop_cons' h, lv, if_neg hw, if_pos hd]
  simp only [jump_draw hd, Nat.add_zero]

/-- The runs that draw d where r is. -/
def bran (os : List St) (pre : List Int) (s : St) (r : Rn) (d : Int) : List Leaf := (lvR os (Rn.step s r d)).map (lpre (pre ++ [d]))

/-- The runs behind those that draw what the row has in place j. -/
def restAt (os : List St) (row : List Int) (stk : List Rn) (j : Nat) : List Leaf :=
  match row[j]?, stk[j]? with
  | some d, some r =>
    match os[r.pos]? with
    | some s => (if d < 1 then bran os (row.take j) s r 1 else []) ++ (if d < 2 then bran os (row.take j) s r 2 else [])
    | none => []
  | _, _ => []
def rest (os : List St) (row : List Int) (stk : List Rn) : Nat → List Leaf
  | 0 => []
  | j + 1 => restAt os row stk j ++ rest os row stk j
def todo (os : List St) (row : List Int) (stk : List Rn) (now : Rn) : List Leaf := (lvR os now).map (lpre row) ++ rest os row stk row.length

theorem restAt_congr {os : List St} {row row' : List Int} {stk stk' : List Rn} {j : Nat} (h1 : row'.take (j + 1) = row.take (j + 1)) (h2 : stk'[j]? = stk[j]?) : restAt os row' stk' j = restAt os row stk j := by
  have e1 : row'[j]? = row[j]? := by
    have a : (row'.take (j + 1))[j]? = row'[j]? := by rw [List.getElem?_take]; simp
    have b : (row.take (j + 1))[j]? = row[j]? := by rw [List.getElem?_take]; simp
    rw [← a, ← b, h1]
  have e2 : row'.take j = row.take j := by
    have a : (row'.take (j + 1)).take j = row'.take j := by rw [List.take_take]; congr 1; omega
    have b : (row.take (j + 1)).take j = row.take j := by rw [List.take_take]; congr 1; omega
    rw [← a, ← b, h1]
  unfold restAt
  rw [e1, e2, h2]
theorem rest_congr {os : List St} {row row' : List Int} {stk stk' : List Rn} : ∀ {n : Nat}, row'.take n = row.take n → (∀ j, j < n → stk'[j]? = stk[j]?) → rest os row' stk' n = rest os row stk n
  | 0, _, _ => rfl
  | n + 1, h1, h2 => by
    have e2 : row'.take n = row.take n := by
      have a : (row'.take (n + 1)).take n = row'.take n := by rw [List.take_take]; congr 1; omega
      have b : (row.take (n + 1)).take n = row.take n := by rw [List.take_take]; congr 1; omega
      rw [← a, ← b, h1]
    rw [rest, rest, restAt_congr h1 (h2 n (by omega)), rest_congr e2 (fun j hj => h2 j (by omega))]

theorem todo_own {os : List St} {row : List Int} {stk : List Rn} {now : Rn} {s : St} (h : os[now.pos]? = some s) (hd : s.draws = false) (hw : now.wt ≠ 0) : todo os row stk now = todo os row stk (Rn.step s now 0) := by
  unfold todo
  rw [lvR_own h hd hw]
theorem todo_draw {os : List St} {row : List Int} {stk : List Rn} {now : Rn} {s : St} (hl : row.length = stk.length) (h : os[now.pos]? = some s) (hd : s.draws = true) (hw : now.wt ≠ 0) :
    todo os row stk now = todo os (row ++ [0]) (stk ++ [now]) (Rn.step s now 0) := by
  unfold todo
  have hR : restAt os (row ++ [0]) (stk ++ [now]) row.length = bran os row s now 1 ++ bran os row s now 2 := by
    unfold restAt
    rw [show (row ++ [0])[row.length]? = some 0 by simp, show (stk ++ [now])[row.length]? = some now by simp [hl]]
    simp [h]
  rw [lvR_draw h hd hw, List.map_append, List.map_append, lpre_lpre, lpre_lpre, lpre_lpre, List.length_append, List.length_singleton, rest, hR,
    rest_congr (row := row) (stk := stk) (row' := row ++ [0]) (stk' := stk ++ [now]) (by simp) (fun j hj => by rw [List.getElem?_append_left (by omega)])]
  simp [bran]
theorem todo_leaf {os : List St} {row : List Int} {stk : List Rn} {now : Rn} (h : os.length ≤ now.pos ∨ now.wt = 0) : todo os row stk now = (row, now.st, now.wt) :: rest os row stk row.length := by
  have e : lvR os now = [([], now.st, now.wt)] := h.elim lvR_end lvR_zero
  unfold todo
  rw [e]
  simp [lpre]

theorem rest_done {os : List St} {row : List Int} {stk : List Rn} {j : Nat} (h : row[j]? = some 2) : rest os row stk (j + 1) = rest os row stk j := by
  rw [rest]
  unfold restAt
  rw [h]
  cases stk[j]? with
  | none => simp
  | some r =>
    dsimp only
    cases os[r.pos]? <;> simp
theorem rest_up {os : List St} {row : List Int} {stk : List Rn} {j : Nat} {d : Int} {r : Rn} {s : St} (h : row[j]? = some d) (hd : 0 ≤ d ∧ d < 2) (hr : stk[j]? = some r) (hs : os[r.pos]? = some s) :
    rest os row stk (j + 1) = todo os (row.take j ++ [d + 1]) (stk.take (j + 1)) (Rn.step s r (d + 1)) := by
  have hl : j < row.length := (List.getElem?_eq_some_iff.1 h).1
  have hl2 : j < stk.length := (List.getElem?_eq_some_iff.1 hr).1
  have ht : (row.take j).length = j := by rw [List.length_take]; omega
  unfold todo
  rw [List.length_append, List.length_singleton, ht, rest, rest,
    rest_congr (row := row) (stk := stk) (row' := row.take j ++ [d + 1]) (stk' := stk.take (j + 1)) (n := j) (by rw [List.take_append_of_le_length (by omega), List.take_take]; congr 1; omega) (fun i hi => by rw [List.getElem?_take]; simp; omega)]
  have e1 : (row.take j ++ [d + 1])[j]? = some (d + 1) := by
    rw [List.getElem?_append_right (by omega), ht]; simp
  have e2 : (stk.take (j + 1))[j]? = some r := by rw [List.getElem?_take]; simp [hr]
  have e3 : (row.take j ++ [d + 1]).take j = row.take j := by rw [List.take_append_of_le_length (by omega), List.take_take]; congr 1; omega
  unfold restAt
  rw [h, hr, e1, e2, e3]
  dsimp only
  rw [hs]
  dsimp only
  obtain rfl | rfl : d = 0 ∨ d = 1 := by omega
  · simp [bran]
  · simp [bran]

/-- The runs with a weight. -/
def filt (ls : List Leaf) : List Leaf := ls.filter fun l => !(l.2.2 == 0)
theorem filt_append (a b : List Leaf) : filt (a ++ b) = filt a ++ filt b := List.filter_append _ _
theorem filt_map (pre : List Int) (ls : List Leaf) : filt (ls.map (lpre pre)) = (filt ls).map (lpre pre) := by
  unfold filt
  rw [List.filter_map]; rfl
theorem filt_yes {l : Leaf} {ls : List Leaf} (h : l.2.2 ≠ 0) : filt (l :: ls) = l :: filt ls := by
  unfold filt
  rw [List.filter_cons_of_pos (by simpa using h)]
theorem filt_no {l : Leaf} {ls : List Leaf} (h : l.2.2 = 0) : filt (l :: ls) = filt ls := by
  unfold filt
  rw [List.filter_cons_of_neg (by simpa using h)]

/-- All traces of an unrolled program, in order, with their states and weights. -/
def traces (os : List St) : List Leaf := filt (lvR os ⟨0, 0, 1⟩)
def tracesOf (ps : List St) : Option (List Leaf) := (unrolled ps).bind fun os => if (os.filter St.draws).length ≤ 6 then some (traces os) else none

/-- The first of the greatest weight, if one has more than b has. -/
def bestL : List Leaf → List Int × Int → List Int × Int
  | [], b => b
  | l :: r, b => bestL r (if b.2 < l.2.2 then (l.1, l.2.2) else b)

end Go.Proofs.Ytjokiminlplbcaa
