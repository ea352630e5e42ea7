/- Runs and traces, as plain functions on lists of statements. All runs of a program, one behind the other, as the tracer goes through them; plain functions. Runs and traces are one: what a trace leads to, and that each run with a weight is a trace; plain functions. What stands in a state behind a change; the factor of a draw, reckoned ahead of it. What is worth in a state, ahead of statements, what is told of the states in the end; plain functions. -/
import Derived.Test.YtbndonfpdioibaaUn
import Derived.Test.YtbndonfpdioibaaStO
namespace Go.Proofs.Ytbndonfpdioibaa
set_option maxRecDepth 100000

/-- The state behind a statement; what is drawn is x. -/
def St.next (s : St) (st x : Int) : Int :=
  if s.k = 0 then withValue st s.a ((s.c + if s.b = -1 then 0 else valueAt st s.b) % 3)
  else if s.k = 1 then withValue st s.a ((valueAt st s.a + valueAt st s.b) % 3)
  else if s.k = 2 ∨ s.k = 3 then withValue st s.a x
  else st
def St.wgt (s : St) (n : Int) : Int := if n = 0 then s.u else if n = 1 then s.v else s.x
/-- With what a statement multiplies the weight; st is the state behind it. -/
def St.fac (s : St) (st : Int) : Int :=
  if s.k = 2 ∨ s.k = 4 then s.wgt (valueAt st s.a)
  else if s.k = 3 ∨ s.k = 5 then s.wgt ((valueAt st s.a + valueAt st s.b) % 3)
  else 1
/-- How many statements are passed over. -/
def St.jump (s : St) (st : Int) : Nat := if s.k = 6 ∧ valueAt st s.a = s.c then s.b.toNat else 0

/-- Where a run is. -/
structure Rn where
  pos : Nat
  st : Int
  wt : Int

def Rn.step (s : St) (r : Rn) (x : Int) : Rn := ⟨r.pos + 1 + s.jump r.st, s.next r.st x, r.wt * s.fac (s.next r.st x)⟩

/-- The end of a run from a place on, of these draws. -/
def run : List St → Nat → Int → Int → List Int → Option (Int × Int)
  | [], _, st, wt, ds => if ds.isEmpty then some (st, wt) else none
  | _ :: r, k + 1, st, wt, ds => run r k st wt ds
  | s :: r, 0, st, wt, ds =>
    if s.draws then
      match ds with
      | [] => none
      | d :: ds => if inB d 0 2 then run r 0 (s.next st d) (wt * s.fac (s.next st d)) ds else none
    else run r (s.jump st) (s.next st 0) (wt * s.fac (s.next st 0)) ds

theorem run_at (s : St) (r : List St) (st wt : Int) (ds : List Int) : run (s :: r) 0 st wt ds =
    if s.draws then
      match ds with
      | [] => none
      | d :: ds => if inB d 0 2 then run r 0 (s.next st d) (wt * s.fac (s.next st d)) ds else none
    else run r (s.jump st) (s.next st 0) (wt * s.fac (s.next st 0)) ds := by
  cases ds <;> rfl

theorem run_skip : ∀ (os : List St) (k : Nat) (st wt : Int) (ds : List Int), run os k st wt ds = run (os.drop k) 0 st wt ds
  | os, 0, _, _, _ => by simp
  | [], k + 1, st, wt, ds => by cases ds <;> simp [run]
  | _ :: r, k + 1, st, wt, ds => by
    rw [run, run_skip r k]; rfl

/-- From a run's place on. -/
def runR (os : List St) (r : Rn) (ds : List Int) : Option (Int × Int) := run (os.drop r.pos) 0 r.st r.wt ds

theorem drop_cons' {os : List St} {k : Nat} {s : St} (h : os[k]? = some s) : os.drop k = s :: os.drop (k + 1) := by
  have hl : k < os.length := (List.getElem?_eq_some_iff.1 h).1
  rw [List.drop_eq_getElem_cons hl, (List.getElem?_eq_some_iff.1 h).2]

theorem jump_draw {s : St} (h : s.draws = true) (st : Int) : s.jump st = 0 := by
  unfold St.draws at h
  unfold St.jump
  rw [if_neg]
  rintro ⟨h6, _⟩
  rw [h6] at h
  simp at h

theorem runR_own {os : List St} {r : Rn} {s : St} {ds : List Int} (h : os[r.pos]? = some s) (hd : s.draws = false) : runR os r ds = runR os (Rn.step s r 0) ds := by
  unfold runR Rn.step
  rw [drop_cons' h, run_at, if_neg (by simp [hd]), run_skip, List.drop_drop]
theorem runR_draw {os : List St} {r : Rn} {s : St} {ds : List Int} {d : Int} (h : os[r.pos]? = some s) (hd : s.draws = true) (hx : inB d 0 2 = true) : runR os r (d :: ds) = runR os (Rn.step s r d) ds := by
  unfold runR Rn.step
  rw [drop_cons' h, run_at, if_pos hd]
  simp [hx, jump_draw hd]
theorem runR_bad {os : List St} {r : Rn} {s : St} {ds : List Int} {d : Int} (h : os[r.pos]? = some s) (hd : s.draws = true) (hx : inB d 0 2 = false) : runR os r (d :: ds) = none := by
  unfold runR
  rw [drop_cons' h, run_at, if_pos hd]
  simp [hx]
theorem runR_short {os : List St} {r : Rn} {s : St} (h : os[r.pos]? = some s) (hd : s.draws = true) : runR os r [] = none := by
  unfold runR
  rw [drop_cons' h, run_at, if_pos hd]
theorem runR_end {os : List St} {r : Rn} (h : os.length ≤ r.pos) : runR os r [] = some (r.st, r.wt) := by
  unfold runR
  rw [List.drop_eq_nil_of_le h]; rfl
theorem runR_long {os : List St} {r : Rn} {d : Int} {ds : List Int} (h : os.length ≤ r.pos) : runR os r (d :: ds) = none := by
  unfold runR
  rw [List.drop_eq_nil_of_le h]; rfl

/-- What a run is of these statements: none of a program that is none. -/
def runTrace (ps : List St) (ds : List Int) : Option (Int × Int) := (unrolled ps).bind fun os => runR os ⟨0, 0, 1⟩ ds

/-- What holds of each run on its way. -/
def Rn.fit (r : Rn) : Prop := 0 ≤ r.st ∧ r.st ≤ 80 ∧ 0 ≤ r.wt ∧ r.wt ≤ 9 ^ r.pos

theorem Rn.fit_start : Rn.fit ⟨0, 0, 1⟩ := ⟨by decide, by decide, by decide, by decide⟩
theorem pow9_le {a b : Nat} (h : a ≤ b) : (9 : Int) ^ a ≤ 9 ^ b := by
  obtain ⟨c, rfl⟩ := Nat.exists_eq_add_of_le h
  rw [Int.pow_add]
  have h1 : (0 : Int) < 9 ^ a := Int.pow_pos (by decide)
  have h2 : (0 : Int) < 9 ^ c := Int.pow_pos (by decide)
  have := Int.mul_le_mul_of_nonneg_left (show (1 : Int) ≤ 9 ^ c by omega) (Int.le_of_lt h1)
  omega
theorem Rn.fit.small {r : Rn} (h : r.fit) (hp : r.pos ≤ 12) : r.wt ≤ 282429536481 := by
  have := pow9_le hp
  have e : (9 : Int) ^ 12 = 282429536481 := by decide
  have := h.2.2.2
  omega

theorem wgt_bd {s : St} (h : wOk s.u s.v s.x = true) (n : Int) : 0 ≤ s.wgt n ∧ s.wgt n ≤ 9 := by
  unfold wOk at h
  simp [inB_iff] at h
  unfold St.wgt
  split
  · omega
  · split <;> omega

theorem fac_bd {s : St} (h : s.ok = true) (st : Int) : 0 ≤ s.fac st ∧ s.fac st ≤ 9 := by
  obtain ⟨k, a, b, c, u, v, x⟩ := s
  unfold St.fac
  dsimp only
  split
  · rename_i hk
    refine wgt_bd (s := ⟨k, a, b, c, u, v, x⟩) ?_ _
    rcases hk with rfl | rfl
    · rw [ok_2] at h; simp at h; exact h.2
    · rw [ok_4] at h; simp at h; exact h.2
  · split
    · rename_i hk
      refine wgt_bd (s := ⟨k, a, b, c, u, v, x⟩) ?_ _
      rcases hk with rfl | rfl
      · rw [ok_3] at h; simp at h; exact h.2
      · rw [ok_5] at h; simp at h; exact h.2
    · omega

theorem with_bd {st v x : Int} (hs : 0 ≤ st ∧ st ≤ 80) (hv : 0 ≤ v ∧ v ≤ 3) (hx : 0 ≤ x ∧ x ≤ 2) : 0 ≤ withValue st v x ∧ withValue st v x ≤ 80 := by
  obtain ⟨k, rfl, hk⟩ := nat4 hv.1 hv.2
  rw [withValue_yes hs.1 hs.2 rfl hk hx.1 hx.2]
  obtain rfl | rfl | rfl | rfl : k = 0 ∨ k = 1 ∨ k = 2 ∨ k = 3 := by omega
  all_goals simp only [p3]; omega

theorem next_bd {s : St} (h : s.ok = true) {st x : Int} (hs : 0 ≤ st ∧ st ≤ 80) (hx : 0 ≤ x ∧ x ≤ 2) : 0 ≤ s.next st x ∧ s.next st x ≤ 80 := by
  obtain ⟨k, a, b, c, u, v, y⟩ := s
  have hr := ok_rng h
  unfold St.next
  dsimp only
  split
  · exact with_bd hs (by omega) (by omega)
  · split
    · exact with_bd hs (by omega) (by omega)
    · split
      · exact with_bd hs (by omega) hx
      · exact hs

theorem Rn.fit.step {s : St} {r : Rn} {x : Int} (h : r.fit) (hs : s.ok = true) (hx : 0 ≤ x ∧ x ≤ 2) : (Rn.step s r x).fit := by
  obtain ⟨h0, h1, h2, h3⟩ := h
  obtain ⟨n0, n1⟩ := next_bd hs ⟨h0, h1⟩ hx
  obtain ⟨f0, f1⟩ := fac_bd hs (s.next r.st x)
  refine ⟨n0, n1, Int.mul_nonneg h2 f0, ?_⟩
  have e1 : r.wt * s.fac (s.next r.st x) ≤ r.wt * 9 := Int.mul_le_mul_of_nonneg_left f1 h2
  have e2 : r.wt * 9 ≤ 9 ^ r.pos * 9 := Int.mul_le_mul_of_nonneg_right h3 (by decide)
  have e3 : (9 : Int) ^ (r.pos + 1) = 9 ^ r.pos * 9 := Int.pow_succ 9 r.pos
  have e4 := pow9_le (show r.pos + 1 ≤ r.pos + 1 + s.jump r.st by omega)
  show r.wt * s.fac (s.next r.st x) ≤ 9 ^ (r.pos + 1 + s.jump r.st)
  omega

end Go.Proofs.Ytbndonfpdioibaa

namespace Go.Proofs.Ytbndonfpdioibaa
set_option maxRecDepth 100000

/-- How a run ended: what was drawn, the state and the weight. -/
abbrev Leaf := List Int × Int × Int
def lpre (pre : List Int) (l : Leaf) : Leaf := (pre ++ l.1, l.2)
theorem lpre_nil (ls : List Leaf) : ls.map (lpre []) = ls := by
  have : lpre [] = id := by funext l; rfl
  rw [this, List.map_id]
theorem lpre_lpre (a b : List Int) (ls : List Leaf) : (ls.map (lpre b)).map (lpre a) = ls.map (lpre (a ++ b)) := by
  rw [List.map_map]
  congr 1
  funext l
  simp [lpre]

/-- All ends of runs from a place on; a run whose weight is 0 ends there. -/
def lv : List St → Nat → Int → Int → List Leaf
  | [], _, st, wt => [([], st, wt)]
  | _ :: r, k + 1, st, wt => lv r k st wt
  | s :: r, 0, st, wt =>
    if wt = 0 then [([], st, 0)]
    else if s.draws then
      (lv r 0 (s.next st 0) (wt * s.fac (s.next st 0))).map (lpre [0]) ++ ((lv r 0 (s.next st 1) (wt * s.fac (s.next st 1))).map (lpre [1]) ++ (lv r 0 (s.next st 2) (wt * s.fac (s.next st 2))).map (lpre [2]))
    else lv r (s.jump st) (s.next st 0) (wt * s.fac (s.next st 0))

theorem lv_skip : ∀ (os : List St) (k : Nat) (st wt : Int), lv os k st wt = lv (os.drop k) 0 st wt
  | os, 0, _, _ => by simp
  | [], k + 1, st, wt => by simp [lv]
  | _ :: r, k + 1, st, wt => by
    rw [lv, lv_skip r k]; rfl

def lvR (os : List St) (r : Rn) : List Leaf := lv (os.drop r.pos) 0 r.st r.wt

theorem lvR_end {os : List St} {r : Rn} (h : os.length ≤ r.pos) : lvR os r = [([], r.st, r.wt)] := by
  unfold lvR
  rw [List.drop_eq_nil_of_le h]; rfl
theorem lvR_zero {os : List St} {r : Rn} (h : r.wt = 0) : lvR os r = [([], r.st, r.wt)] := by
  by_cases hl : os.length ≤ r.pos
  · exact lvR_end hl
  · unfold lvR
    rw [List.drop_eq_getElem_cons (by omega), lv, if_pos h, h]
theorem lvR_own {os : List St} {r : Rn} {s : St} (h : os[r.pos]? = some s) (hd : s.draws = false) (hw : r.wt ≠ 0) : lvR os r = lvR os (Rn.step s r 0) := by
  unfold lvR Rn.step
  rw [drop_cons' h, lv, if_neg hw, if_neg (by simp [hd]), lv_skip, List.drop_drop]
theorem lvR_draw {os : List St} {r : Rn} {s : St} (h : os[r.pos]? = some s) (hd : s.draws = true) (hw : r.wt ≠ 0) :
    lvR os r = (lvR os (Rn.step s r 0)).map (lpre [0]) ++ ((lvR os (Rn.step s r 1)).map (lpre [1]) ++ (lvR os (Rn.step s r 2)).map (lpre [2])) := by
  unfold lvR Rn.step
  rw [drop_cons' h, lv, if_neg hw, if_pos hd]
  simp only [jump_draw hd, Nat.add_zero]

/-- The runs that draw d where r is. -/
def bran (os : List St) (pre : List Int) (s : St) (r : Rn) (d : Int) : List Leaf := (lvR os (Rn.step s r d)).map (lpre (pre ++ [d]))

/-- The runs behind those that draw what the row has in place j. -/
def restAt (os : List St) (row : List Int) (stk : List Rn) (j : Nat) : List Leaf :=
  match row[j]?, stk[j]? with
  | some d, some r =>
    match os[r.pos]? with
    | some s => (if d < 1 then bran os (row.take j) s r 1 else []) ++ (if d < 2 then bran os (row.take j) s r 2 else [])
    | none => []
  | _, _ => []
def rest (os : List St) (row : List Int) (stk : List Rn) : Nat → List Leaf
  | 0 => []
  | j + 1 => restAt os row stk j ++ rest os row stk j
def todo (os : List St) (row : List Int) (stk : List Rn) (now : Rn) : List Leaf := (lvR os now).map (lpre row) ++ rest os row stk row.length

theorem restAt_congr {os : List St} {row row' : List Int} {stk stk' : List Rn} {j : Nat} (h1 : row'.take (j + 1) = row.take (j + 1)) (h2 : stk'[j]? = stk[j]?) : restAt os row' stk' j = restAt os row stk j := by
  have e1 : row'[j]? = row[j]? := by
    have a : (row'.take (j + 1))[j]? = row'[j]? := by rw [List.getElem?_take]; simp
    have b : (row.take (j + 1))[j]? = row[j]? := by rw [List.getElem?_take]; simp
    rw [← a, ← b, h1]
  have e2 : row'.take j = row.take j := by
    have a : (row'.take (j + 1)).take j = row'.take j := by rw [List.take_take]; congr 1; omega
    have b : (row.take (j + 1)).take j = row.take j := by rw [List.take_take]; congr 1; omega
    rw [← a, ← b, h1]
  unfold restAt
  rw [e1, e2, h2]
theorem rest_congr {os : List St} {row row' : List Int} {stk stk' : List Rn} : ∀ {n : Nat}, row'.take n = row.take n → (∀ j, j < n → stk'[j]? = stk[j]?) → rest os row' stk' n = rest os row stk n
  | 0, _, _ => rfl
  | n + 1, h1, h2 => by
    have e2 : row'.take n = row.take n := by
      have a : (row'.take (n + 1)).take n = row'.take n := by rw [List.take_take]; congr 1; omega
      have b : (row.take (n + 1)).take n = row.take n := by rw [List.take_take]; congr 1; omega
      rw [← a, ← b, h1]
    rw [rest, rest, restAt_congr h1 (h2 n (by omega)), rest_congr e2 (fun j hj => h2 j (by omega))]

theorem todo_own {os : List St} {row : List Int} {stk : List Rn} {now : Rn} {s : St} (h : os[now.pos]? = some s) (hd : s.draws = false) (hw : now.wt ≠ 0) : todo os row stk now = todo os row stk (Rn.step s now 0) := by
  unfold todo
  rw [lvR_own h hd hw]
theorem todo_draw {os : List St} {row : List Int} {stk : List Rn} {now : Rn} {s : St} (hl : row.length = stk.length) (h : os[now.pos]? = some s) (hd : s.draws = true) (hw : now.wt ≠ 0) :
    todo os row stk now = todo os (row ++ [0]) (stk ++ [now]) (Rn.step s now 0) := by
  unfold todo
  have hR : restAt os (row ++ [0]) (stk ++ [now]) row.length = bran os row s now 1 ++ bran os row s now 2 := by
    unfold restAt
    rw [show (row ++ [0])[row.length]? = some 0 by simp, show (stk ++ [now])[row.length]? = some now by simp [hl]]
    simp [h]
  rw [lvR_draw h hd hw, List.map_append, List.map_append, lpre_lpre, lpre_lpre, lpre_lpre, List.length_append, List.length_singleton, rest, hR,
    rest_congr (row := row) (stk := stk) (row' := row ++ [0]) (stk' := stk ++ [now]) (by simp) (fun j hj => by rw [List.getElem?_append_left (by omega)])]
  simp [bran]
theorem todo_leaf {os : List St} {row : List Int} {stk : List Rn} {now : Rn} (h : os.length ≤ now.pos ∨ now.wt = 0) : todo os row stk now = (row, now.st, now.wt) :: rest os row stk row.length := by
  have e : lvR os now = [([], now.st, now.wt)] := h.elim lvR_end lvR_zero
  unfold todo
  rw [e]
  simp [lpre]

theorem rest_done {os : List St} {row : List Int} {stk : List Rn} {j : Nat} (h : row[j]? = some 2) : rest os row stk (j + 1) = rest os row stk j := by
  rw [rest]
  unfold restAt
  rw [h]
  cases stk[j]? with
  | none => simp
  | some r =>
    dsimp only
    cases os[r.pos]? <;> simp
theorem rest_up {os : List St} {row : List Int} {stk : List Rn} {j : Nat} {d : Int} {r : Rn} {s : St} (h : row[j]? = some d) (hd : 0 ≤ d ∧ d < 2) (hr : stk[j]? = some r) (hs : os[r.pos]? = some s) :
    rest os row stk (j + 1) = todo os (row.take j ++ [d + 1]) (stk.take (j + 1)) (Rn.step s r (d + 1)) := by
  have hl : j < row.length := (List.getElem?_eq_some_iff.1 h).1
  have hl2 : j < stk.length := (List.getElem?_eq_some_iff.1 hr).1
  have ht : (row.take j).length = j := by rw [List.length_take]; omega
  unfold todo
  rw [List.length_append, List.length_singleton, ht, rest, rest,
    rest_congr (row := row) (stk := stk) (row' := row.take j ++ [d + 1]) (stk' := stk.take (j + 1)) (n := j) (by rw [List.take_append_of_le_length (by omega), List.take_take]; congr 1; omega) (fun i hi => by rw [List.getElem?_take]; simp; omega)]
  have e1 : (row.take j ++ [d + 1])[j]? = some (d + 1) := by
    rw [List.getElem?_append_right (by omega), ht]; simp
  have e2 : (stk.take (j + 1))[j]? = some r := by rw [List.getElem?_take]; simp [hr]
  have e3 : (row.take j ++ [d + 1]).take j = row.take j := by rw [List.take_append_of_le_length (by omega), List.take_take]; congr 1; omega
  unfold restAt
  rw [h, hr, e1, e2, e3]
  dsimp only
  rw [hs]
  dsimp only
  obtain rfl | rfl : d = 0 ∨ d = 1 := by omega
  · simp [bran]
  · simp [bran]

/-- The runs with a weight. -/
def filt (ls : List Leaf) : List Leaf := ls.filter fun l => !(l.2.2 == 0)
theorem filt_append (a b : List Leaf) : filt (a ++ b) = filt a ++ filt b := List.filter_append _ _
theorem filt_map (pre : List Int) (ls : List Leaf) : filt (ls.map (lpre pre)) = (filt ls).map (lpre pre) := by
  unfold filt
  rw [List.filter_map]; rfl
theorem filt_yes {l : Leaf} {ls : List Leaf} (h : l.2.2 ≠ 0) : filt (l :: ls) = l :: filt ls := by
  unfold filt
  rw [List.filter_cons_of_pos (by simpa using h)]
theorem filt_no {l : Leaf} {ls : List Leaf} (h : l.2.2 = 0) : filt (l :: ls) = filt ls := by
  unfold filt
  rw [List.filter_cons_of_neg (by simpa using h)]

/-- All traces of an unrolled program, in order, with their states and weights. -/
def traces (os : List St) : List Leaf := filt (lvR os ⟨0, 0, 1⟩)
def tracesOf (ps : List St) : Option (List Leaf) := (unrolled ps).bind fun os => if (os.filter St.draws).length ≤ 6 then some (traces os) else none

/-- The first of the greatest weight, if one has more than b has. -/
def bestL : List Leaf → List Int × Int → List Int × Int
  | [], b => b
  | l :: r, b => bestL r (if b.2 < l.2.2 then (l.1, l.2.2) else b)

end Go.Proofs.Ytbndonfpdioibaa

namespace Go.Proofs.Ytbndonfpdioibaa
set_option maxRecDepth 100000

theorem lv_run : ∀ (os : List St) (k : Nat) (st wt : Int) (l : Leaf), l ∈ lv os k st wt → l.2.2 ≠ 0 → run os k st wt l.1 = some l.2
  | [], k, st, wt, l, h, _ => by
    simp only [lv, List.mem_singleton] at h
    subst h
    rfl
  | _ :: r, k + 1, st, wt, l, h, hw => by
    rw [lv] at h
    rw [run]
    exact lv_run r k st wt l h hw
  | s :: r, 0, st, wt, l, h, hw => by
    rw [lv] at h
    by_cases h0 : wt = 0
    · rw [if_pos h0, List.mem_singleton] at h
      subst h
      exact absurd rfl hw
    · rw [if_neg h0] at h
      by_cases hd : s.draws = true
      · rw [if_pos hd] at h
        have key : ∀ d : Int, inB d 0 2 = true → l ∈ (lv r 0 (s.next st d) (wt * s.fac (s.next st d))).map (lpre [d]) → run (s :: r) 0 st wt l.1 = some l.2 := by
          intro d hx hm
          obtain ⟨l', hl', rfl⟩ := List.mem_map.1 hm
          have := lv_run r 0 _ _ l' hl' hw
          show run (s :: r) 0 st wt (d :: l'.1) = some l'.2
          rw [run_at, if_pos hd]
          simp only [hx, if_true]
          exact this
        rcases List.mem_append.1 h with h | h
        · exact key 0 (by decide) h
        · rcases List.mem_append.1 h with h | h
          · exact key 1 (by decide) h
          · exact key 2 (by decide) h
      · rw [if_neg hd] at h
        have := lv_run r _ _ _ l h hw
        rw [run_at, if_neg hd]
        exact this

theorem run_zero : ∀ (os : List St) (k : Nat) (st : Int) (ds : List Int) (p : Int × Int), run os k st 0 ds = some p → p.2 = 0
  | [], k, st, [], p, h => by
    simp [run] at h
    subst h; rfl
  | [], k, st, d :: ds, p, h => by simp [run] at h
  | _ :: r, k + 1, st, ds, p, h => by
    rw [run] at h
    exact run_zero r k st ds p h
  | s :: r, 0, st, ds, p, h => by
    rw [run_at] at h
    by_cases hd : s.draws = true
    · rw [if_pos hd] at h
      cases ds with
      | nil => simp at h
      | cons d ds =>
        simp only [Int.zero_mul] at h
        split at h
        · exact run_zero r 0 _ ds p h
        · cases h
    · rw [if_neg hd, Int.zero_mul] at h
      exact run_zero r _ _ ds p h

theorem in3 {d : Int} (h : inB d 0 2 = true) : d = 0 ∨ d = 1 ∨ d = 2 := by
  have := inB_iff.1 h; omega

theorem run_lv : ∀ (os : List St) (k : Nat) (st wt : Int) (ds : List Int) (p : Int × Int), run os k st wt ds = some p → p.2 ≠ 0 → (ds, p) ∈ lv os k st wt
  | [], k, st, wt, [], p, h, _ => by
    simp [run] at h
    subst h
    simp [lv]
  | [], k, st, wt, d :: ds, p, h, _ => by simp [run] at h
  | _ :: r, k + 1, st, wt, ds, p, h, hp => by
    rw [run] at h
    rw [lv]
    exact run_lv r k st wt ds p h hp
  | s :: r, 0, st, wt, ds, p, h, hp => by
    by_cases h0 : wt = 0
    · subst h0
      exact absurd (run_zero _ _ _ _ _ h) hp
    · rw [lv, if_neg h0]
      rw [run_at] at h
      by_cases hd : s.draws = true
      · rw [if_pos hd] at h ⊢
        cases ds with
        | nil => simp at h
        | cons d ds =>
          simp only at h
          split at h
          · rename_i hx
            have hm := run_lv r 0 _ _ ds p h hp
            have hm2 : (d :: ds, p) ∈ (lv r 0 (s.next st d) (wt * s.fac (s.next st d))).map (lpre [d]) := List.mem_map.2 ⟨_, hm, rfl⟩
            rcases in3 hx with rfl | rfl | rfl
            · exact List.mem_append_left _ hm2
            · exact List.mem_append_right _ (List.mem_append_left _ hm2)
            · exact List.mem_append_right _ (List.mem_append_right _ hm2)
          · cases h
      · rw [if_neg hd] at h ⊢
        exact run_lv r _ _ _ ds p h hp

theorem run_longer : ∀ (os : List St) (k : Nat) (st wt : Int) (ds : List Int) (p : Int × Int) (x : Int), run os k st wt ds = some p → run os k st wt (ds ++ [x]) = none
  | [], k, st, wt, [], p, x, h => by simp [run]
  | [], k, st, wt, d :: ds, p, x, h => by simp [run] at h
  | _ :: r, k + 1, st, wt, ds, p, x, h => by
    rw [run] at h ⊢
    exact run_longer r k st wt ds p x h
  | s :: r, 0, st, wt, ds, p, x, h => by
    rw [run_at] at h ⊢
    by_cases hd : s.draws = true
    · rw [if_pos hd] at h ⊢
      cases ds with
      | nil => simp at h
      | cons d ds =>
        simp only [List.cons_append] at h ⊢
        split at h
        · rename_i hx
          rw [if_pos hx]
          exact run_longer r 0 _ _ ds p x h
        · cases h
    · rw [if_neg hd] at h ⊢
      exact run_longer r _ _ _ ds p x h

theorem run_shorter {os : List St} {k : Nat} {st wt : Int} {ds : List Int} {p : Int × Int} (h : run os k st wt ds = some p) (h0 : ds ≠ []) : run os k st wt ds.dropLast = none := by
  cases h' : run os k st wt ds.dropLast with
  | none => rfl
  | some q =>
    have := run_longer os k st wt ds.dropLast q (ds.getLast h0) h'
    rw [List.dropLast_concat_getLast] at this
    rw [this] at h
    cases h

/-- What holds of each end. -/
theorem lv_fit : ∀ (os : List St) (k : Nat) (st wt : Int), (∀ s ∈ os, s.ok = true) → 0 ≤ st ∧ st ≤ 80 → 0 ≤ wt → ∀ l ∈ lv os k st wt, (0 ≤ l.2.1 ∧ l.2.1 ≤ 80) ∧ 0 ≤ l.2.2 ∧ (∀ d ∈ l.1, 0 ≤ d ∧ d ≤ 2) ∧ l.1.length ≤ (os.filter St.draws).length
  | [], k, st, wt, _, hs, hw, l, h => by
    simp only [lv, List.mem_singleton] at h
    subst h
    exact ⟨hs, hw, fun d hd => by simp at hd, by simp⟩
  | s :: r, k + 1, st, wt, ho, hs, hw, l, h => by
    rw [lv] at h
    obtain ⟨a, b, c, d⟩ := lv_fit r k st wt (fun x hx => ho x (List.mem_cons_of_mem _ hx)) hs hw l h
    refine ⟨a, b, c, Nat.le_trans d ?_⟩
    rw [List.filter_cons]
    split
    · simp
    · exact Nat.le_refl _
  | s :: r, 0, st, wt, ho, hs, hw, l, h => by
    rw [lv] at h
    have hos := ho s List.mem_cons_self
    have hor := fun x hx => ho x (List.mem_cons_of_mem s hx)
    have hle : (r.filter St.draws).length ≤ ((s :: r).filter St.draws).length := by
      rw [List.filter_cons]
      split
      · simp
      · exact Nat.le_refl _
    have hfac : ∀ d : Int, 0 ≤ d ∧ d ≤ 2 → (0 ≤ s.next st d ∧ s.next st d ≤ 80) ∧ 0 ≤ wt * s.fac (s.next st d) := fun d hd => ⟨next_bd hos hs hd, Int.mul_nonneg hw (fac_bd hos _).1⟩
    by_cases h0 : wt = 0
    · rw [if_pos h0, List.mem_singleton] at h
      subst h
      exact ⟨hs, Int.le_refl _, fun d hd => by simp at hd, by simp⟩
    · rw [if_neg h0] at h
      by_cases hd : s.draws = true
      · rw [if_pos hd] at h
        have key : ∀ d : Int, 0 ≤ d ∧ d ≤ 2 → l ∈ (lv r 0 (s.next st d) (wt * s.fac (s.next st d))).map (lpre [d]) → (0 ≤ l.2.1 ∧ l.2.1 ≤ 80) ∧ 0 ≤ l.2.2 ∧ (∀ d ∈ l.1, 0 ≤ d ∧ d ≤ 2) ∧ l.1.length ≤ ((s :: r).filter St.draws).length := by
          intro d hx hm
          obtain ⟨l', hl', rfl⟩ := List.mem_map.1 hm
          obtain ⟨f1, f2⟩ := hfac d hx
          obtain ⟨a, b, c, e⟩ := lv_fit r 0 _ _ hor f1 f2 l' hl'
          refine ⟨a, b, fun y hy => ?_, ?_⟩
          · have hy' : y ∈ d :: l'.1 := hy
            rcases List.mem_cons.1 hy' with rfl | hy'
            · exact hx
            · exact c y hy'
          · rw [List.filter_cons, if_pos hd]
            show (d :: l'.1).length ≤ _
            simp; exact e
        rcases List.mem_append.1 h with h | h
        · exact key 0 (by decide) h
        · rcases List.mem_append.1 h with h | h
          · exact key 1 (by decide) h
          · exact key 2 (by decide) h
      · rw [if_neg hd] at h
        obtain ⟨f1, f2⟩ := hfac 0 (by decide)
        obtain ⟨a, b, c, e⟩ := lv_fit r _ _ _ hor f1 f2 l h
        exact ⟨a, b, c, Nat.le_trans e hle⟩

theorem traces_iff {os : List St} {l : Leaf} : l ∈ traces os ↔ runR os ⟨0, 0, 1⟩ l.1 = some l.2 ∧ l.2.2 ≠ 0 := by
  unfold traces filt lvR runR
  rw [List.mem_filter]
  constructor
  · rintro ⟨h, hw⟩
    have hw' : l.2.2 ≠ 0 := by simpa using hw
    exact ⟨lv_run _ _ _ _ l h hw', hw'⟩
  · rintro ⟨h, hw⟩
    exact ⟨run_lv _ _ _ _ _ _ h hw, by simpa using hw⟩

theorem traces_fit {os : List St} (ho : ∀ s ∈ os, s.ok = true) {l : Leaf} (h : l ∈ traces os) : (0 ≤ l.2.1 ∧ l.2.1 ≤ 80) ∧ 0 < l.2.2 ∧ (∀ d ∈ l.1, 0 ≤ d ∧ d ≤ 2) ∧ l.1.length ≤ (os.filter St.draws).length := by
  have hm := h
  unfold traces filt lvR at hm
  rw [List.mem_filter] at hm
  obtain ⟨a, b, c, d⟩ := lv_fit _ _ _ _ (by simpa using ho) ⟨by decide, by decide⟩ (by decide) l hm.1
  have := (traces_iff.1 h).2
  rw [List.drop_zero] at d
  exact ⟨a, by omega, c, d⟩

end Go.Proofs.Ytbndonfpdioibaa

namespace Go.Proofs.Ytbndonfpdioibaa
set_option maxRecDepth 100000

theorem valueAt_with {s v x : Int} (hs : 0 ≤ s ∧ s ≤ 80) (hv : 0 ≤ v ∧ v ≤ 3) (hx : 0 ≤ x ∧ x ≤ 2) :
    valueAt (withValue s v x) v = x ∧ ∀ i, 0 ≤ i → i ≤ 3 → i ≠ v → valueAt (withValue s v x) i = valueAt s i := by
  have hr := with_bd hs hv hx
  have e1 : ∀ {s : Int}, 0 ≤ s ∧ s ≤ 80 → ∀ k : Nat, k ≤ 3 → valueAt s k = s / p3 k % 3 := fun h k hk => valueAt_yes h.1 h.2 rfl hk
  obtain ⟨k, rfl, hk⟩ := nat4 hv.1 hv.2
  have e2 := withValue_yes hs.1 hs.2 (rfl : (k : Int) = k) hk hx.1 hx.2
  rw [e2] at hr ⊢
  constructor
  · rw [e1 hr k hk]
    obtain rfl | rfl | rfl | rfl : k = 0 ∨ k = 1 ∨ k = 2 ∨ k = 3 := by omega
    all_goals simp only [p3]; omega
  · intro i h0 h3 hne
    obtain ⟨j, rfl, hj⟩ := nat4 h0 h3
    rw [e1 hr j hj, e1 hs j hj]
    obtain rfl | rfl | rfl | rfl : k = 0 ∨ k = 1 ∨ k = 2 ∨ k = 3 := by omega
    all_goals
      obtain rfl | rfl | rfl | rfl : j = 0 ∨ j = 1 ∨ j = 2 ∨ j = 3 := by omega
      all_goals first | (exact absurd rfl hne) | (simp only [p3]; omega)

theorem fac_2 {a b c u v y st x : Int} (hs : 0 ≤ st ∧ st ≤ 80) (ha : 0 ≤ a ∧ a ≤ 3) (hx : 0 ≤ x ∧ x ≤ 2) :
    (St.mk 2 a b c u v y).fac ((St.mk 2 a b c u v y).next st x) = (St.mk 2 a b c u v y).wgt x := by
  have e : (St.mk 2 a b c u v y).next st x = withValue st a x := by simp [St.next]
  rw [e]
  simp [St.fac, (valueAt_with hs ha hx).1]
theorem fac_3 {a b c u v y st x : Int} (hs : 0 ≤ st ∧ st ≤ 80) (ha : 0 ≤ a ∧ a ≤ 3) (hb : 0 ≤ b ∧ b ≤ 3) (hne : a ≠ b) (hx : 0 ≤ x ∧ x ≤ 2) :
    (St.mk 3 a b c u v y).fac ((St.mk 3 a b c u v y).next st x) = (St.mk 3 a b c u v y).wgt ((x + valueAt st b) % 3) := by
  have e : (St.mk 3 a b c u v y).next st x = withValue st a x := by simp [St.next]
  rw [e]
  simp [St.fac, (valueAt_with hs ha hx).1, (valueAt_with hs ha hx).2 b hb.1 hb.2 (Ne.symm hne)]

end Go.Proofs.Ytbndonfpdioibaa

namespace Go.Proofs.Ytbndonfpdioibaa
set_option maxRecDepth 100000
set_option linter.unusedVariables false

/-- The sum, over all ends of runs from a place on, of the weight times h of the state in the end. -/
def val (h : Int → Int) : List St → Nat → Int → Int
  | [], _, st => h st
  | _ :: r, k + 1, st => val h r k st
  | s :: r, 0, st =>
    if s.draws then s.fac (s.next st 0) * val h r 0 (s.next st 0) + s.fac (s.next st 1) * val h r 0 (s.next st 1) + s.fac (s.next st 2) * val h r 0 (s.next st 2)
    else s.fac (s.next st 0) * val h r (s.jump st) (s.next st 0)

theorem val_skip (h : Int → Int) : ∀ (os : List St) (k : Nat) (st : Int), val h os k st = val h (os.drop k) 0 st
  | os, 0, _ => by simp
  | [], k + 1, st => by simp [val]
  | _ :: r, k + 1, st => by
    rw [val, val_skip h r k]; rfl

/-- What is worth ahead of the statement at a place. -/
def valAt (h : Int → Int) (os : List St) (i : Nat) (st : Int) : Int := val h (os.drop i) 0 st
theorem valAt_end {h : Int → Int} {os : List St} {i : Nat} (hi : os.length ≤ i) (st : Int) : valAt h os i st = h st := by
  unfold valAt
  rw [List.drop_eq_nil_of_le hi]; rfl
theorem valAt_min (h : Int → Int) (os : List St) (i : Nat) (st : Int) : valAt h os (min i os.length) st = valAt h os i st := by
  by_cases hi : i ≤ os.length
  · rw [Nat.min_eq_left hi]
  · rw [Nat.min_eq_right (by omega), valAt_end (Nat.le_refl _), valAt_end (i := i) (by omega)]
theorem valAt_own {h : Int → Int} {os : List St} {i : Nat} {s : St} (hs : os[i]? = some s) (hd : s.draws = false) (st : Int) : valAt h os i st = s.fac (s.next st 0) * valAt h os (i + 1 + s.jump st) (s.next st 0) := by
  unfold valAt
  rw [drop_cons' hs, val, if_neg (by simp [hd]), val_skip, List.drop_drop]
theorem valAt_draw {h : Int → Int} {os : List St} {i : Nat} {s : St} (hs : os[i]? = some s) (hd : s.draws = true) (st : Int) :
    valAt h os i st = s.fac (s.next st 0) * valAt h os (i + 1) (s.next st 0) + s.fac (s.next st 1) * valAt h os (i + 1) (s.next st 1) + s.fac (s.next st 2) * valAt h os (i + 1) (s.next st 2) := by
  unfold valAt
  rw [drop_cons' hs, val, if_pos hd]

/-- What a run is worth. -/
def valR (h : Int → Int) (os : List St) (r : Rn) : Int := r.wt * valAt h os r.pos r.st
theorem valR_own {h : Int → Int} {os : List St} {r : Rn} {s : St} (hs : os[r.pos]? = some s) (hd : s.draws = false) : valR h os r = valR h os (Rn.step s r 0) := by
  unfold valR
  rw [valAt_own hs hd]
  show _ = r.wt * s.fac (s.next r.st 0) * valAt h os (r.pos + 1 + s.jump r.st) (s.next r.st 0)
  rw [Int.mul_assoc]
theorem valR_draw {h : Int → Int} {os : List St} {r : Rn} {s : St} (hs : os[r.pos]? = some s) (hd : s.draws = true) : valR h os r = valR h os (Rn.step s r 0) + valR h os (Rn.step s r 1) + valR h os (Rn.step s r 2) := by
  unfold valR
  rw [valAt_draw hs hd]
  show _ = r.wt * s.fac (s.next r.st 0) * valAt h os (r.pos + 1 + s.jump r.st) (s.next r.st 0) + r.wt * s.fac (s.next r.st 1) * valAt h os (r.pos + 1 + s.jump r.st) (s.next r.st 1) + r.wt * s.fac (s.next r.st 2) * valAt h os (r.pos + 1 + s.jump r.st) (s.next r.st 2)
  rw [jump_draw hd, Nat.add_zero, Int.mul_add, Int.mul_add, Int.mul_assoc, Int.mul_assoc, Int.mul_assoc]

/-- Linear in what is told in the end. -/
theorem val_bd (h : Int → Int) (H : Int) (hH : ∀ st, 0 ≤ st → st ≤ 80 → 0 ≤ h st ∧ h st ≤ H) (h0 : 0 ≤ H) : ∀ (os : List St) (k : Nat) (st : Int), (∀ s ∈ os, s.ok = true) → 0 ≤ st ∧ st ≤ 80 → 0 ≤ val h os k st ∧ val h os k st ≤ H * 27 ^ os.length
  | [], k, st, _, hs => by
    have := hH st hs.1 hs.2
    simp only [val, List.length_nil]
    rw [Int.pow_zero, Int.mul_one]
    exact this
  | s :: r, k + 1, st, ho, hs => by
    have ih := val_bd h H hH h0 r k st (fun x hx => ho x (List.mem_cons_of_mem _ hx)) hs
    rw [val, List.length_cons, Int.pow_succ]
    have hp : (0 : Int) ≤ H * 27 ^ r.length := Int.le_trans ih.1 ih.2
    rw [← Int.mul_assoc]
    omega
  | s :: r, 0, st, ho, hs => by
    have hos := ho s List.mem_cons_self
    have hor := fun x hx => ho x (List.mem_cons_of_mem s hx)
    have key : ∀ (d : Int) (k : Nat), 0 ≤ d ∧ d ≤ 2 → 0 ≤ s.fac (s.next st d) * val h r k (s.next st d) ∧ s.fac (s.next st d) * val h r k (s.next st d) ≤ 9 * (H * 27 ^ r.length) := fun d k hd => by
      obtain ⟨f0, f1⟩ := fac_bd hos (s.next st d)
      obtain ⟨v0, v1⟩ := val_bd h H hH h0 r k (s.next st d) hor (next_bd hos hs hd)
      exact ⟨Int.mul_nonneg f0 v0, Int.le_trans (Int.mul_le_mul_of_nonneg_right f1 v0) (Int.mul_le_mul_of_nonneg_left v1 (by decide))⟩
    rw [val, List.length_cons, Int.pow_succ, ← Int.mul_assoc]
    have k0 := key 0 0 (by decide)
    have k1 := key 1 0 (by decide)
    have k2 := key 2 0 (by decide)
    have k3 := key 0 (s.jump st) (by decide)
    split
    · omega
    · omega
theorem val_add (f g : Int → Int) : ∀ (os : List St) (k : Nat) (st : Int), val (fun x => f x + g x) os k st = val f os k st + val g os k st
  | [], k, st => by simp [val]
  | s :: r, k + 1, st => by rw [val, val, val]; exact val_add f g r k st
  | s :: r, 0, st => by
    simp only [val, val_add f g]
    split
    · simp only [Int.mul_add]; omega
    · rw [Int.mul_add]
theorem val_mul (c : Int) (f : Int → Int) : ∀ (os : List St) (k : Nat) (st : Int), val (fun x => c * f x) os k st = c * val f os k st
  | [], k, st => by simp [val]
  | s :: r, k + 1, st => by rw [val, val]; exact val_mul c f r k st
  | s :: r, 0, st => by
    simp only [val, val_mul c f]
    have e : ∀ a b : Int, a * (c * b) = c * (a * b) := fun a b => by rw [← Int.mul_assoc, Int.mul_comm a c, Int.mul_assoc]
    split
    · simp only [e, Int.mul_add]
    · exact e _ _
theorem val_congr {f g : Int → Int} (hfg : ∀ st, 0 ≤ st → st ≤ 80 → f st = g st) : ∀ (os : List St) (k : Nat) (st : Int), (∀ s ∈ os, s.ok = true) → 0 ≤ st ∧ st ≤ 80 → val f os k st = val g os k st
  | [], k, st, _, hs => by simp only [val]; exact hfg st hs.1 hs.2
  | s :: r, k + 1, st, ho, hs => by rw [val, val]; exact val_congr hfg r k st (fun x hx => ho x (List.mem_cons_of_mem _ hx)) hs
  | s :: r, 0, st, ho, hs => by
    have hos := ho s List.mem_cons_self
    have key : ∀ (d : Int) (k : Nat), 0 ≤ d ∧ d ≤ 2 → val f r k (s.next st d) = val g r k (s.next st d) := fun d k hd => val_congr hfg r k _ (fun x hx => ho x (List.mem_cons_of_mem s hx)) (next_bd hos hs hd)
    rw [val, val, key 0 0 (by decide), key 1 0 (by decide), key 2 0 (by decide), key 0 _ (by decide)]

end Go.Proofs.Ytbndonfpdioibaa
