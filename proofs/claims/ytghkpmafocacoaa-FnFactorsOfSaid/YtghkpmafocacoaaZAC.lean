/- Parts of the proof: Un, Trv, Mem. -/
import Derived.Test.YtghkpmafocacoaaZAA
import Derived.Test.YtghkpmafocacoaaZAB
import Derived.Test.YtghkpmafocacoaaChecked
import Derived.WalkKit
import Derived.WalkSmall
import Derived.Below
import Derived.Laws.Rows
import Derived.Laws.OwnMore
import Derived.Deep.Draws
namespace Go.Proofs.Ytghkpmafocacoaa
set_option maxRecDepth 100000
def St.notLoop (s : St) : Bool := !(s.k == 7)
def St.draws (s : St) : Bool := s.k == 2 || s.k == 3
/-- c copies of a list, one behind the other. -/
def rep (body : List St) : Nat → List St
  | 0 => []
  | n + 1 => rep body n ++ body
theorem rep_length (body : List St) (n : Nat) : (rep body n).length = n * body.length := by
  induction n with
  | zero => simp [rep]
  | succ n ih => simp only [rep, List.length_append, ih, Nat.add_mul, Nat.one_mul]
/-- The loops of a list told out; the number is how many statements ahead are a body that has been done. -/
def unr : List St → Nat → Option (List St)
  | [], _ => some []
  | _ :: r, k + 1 => unr r k
  | s :: r, 0 =>
    if s.notLoop then (unr r 0).map (s :: ·)
    else if decide (s.b.toNat ≤ r.length) && (r.take s.b.toNat).all St.notLoop then (unr r s.b.toNat).map (rep (r.take s.b.toNat) s.c.toNat ++ ·)
    else none
theorem unr_drop : ∀ (r : List St) (k : Nat), unr r k = unr (r.drop k) 0
  | [], k => by simp [unr]
  | s :: r, 0 => by simp
  | s :: r, k + 1 => by rw [unr, List.drop_succ_cons]; exact unr_drop r k
theorem drop_cons {ps : List St} {k : Nat} {s : St} (h : ps[k]? = some s) : ps.drop k = s :: ps.drop (k + 1) := by
  have hl : k < ps.length := (List.getElem?_eq_some_iff.1 h).1
  rw [List.drop_eq_getElem_cons hl, (List.getElem?_eq_some_iff.1 h).2]
/-- A statement that is no loop goes on as it is. -/
theorem unr_plain {ps : List St} {k : Nat} {s : St} (h : ps[k]? = some s) (hn : s.notLoop = true) : unr (ps.drop k) 0 = (unr (ps.drop (k + 1)) 0).map (s :: ·) := by
  rw [drop_cons h, unr, if_pos hn]
/-- A loop whose body is not there, or holds a loop. -/
theorem unr_none {ps : List St} {k : Nat} {s : St} (h : ps[k]? = some s) (hn : s.notLoop = false) (hb : (decide (s.b.toNat ≤ (ps.drop (k + 1)).length) && ((ps.drop (k + 1)).take s.b.toNat).all St.notLoop) = false) : unr (ps.drop k) 0 = none := by
  rw [drop_cons h, unr, if_neg (by simp [hn]), if_neg (by rw [hb]; exact Bool.false_ne_true)]
theorem unr_loop {ps : List St} {k : Nat} {s : St} (h : ps[k]? = some s) (hn : s.notLoop = false) (hb : (decide (s.b.toNat ≤ (ps.drop (k + 1)).length) && ((ps.drop (k + 1)).take s.b.toNat).all St.notLoop) = true) :
    unr (ps.drop k) 0 = (unr (ps.drop (k + 1 + s.b.toNat)) 0).map (rep ((ps.drop (k + 1)).take s.b.toNat) s.c.toNat ++ ·) := by
  rw [drop_cons h, unr, if_neg (by simp [hn]), if_pos hb, unr_drop, List.drop_drop]
/-- What has been told out so far, and what is left. -/
def Sofar (ps : List St) (k : Nat) (os : List St) : Prop := unr ps 0 = (unr (ps.drop k) 0).map (os ++ ·)
theorem Sofar.start (ps : List St) : Sofar ps 0 [] := by simp [Sofar]
theorem Sofar.plain {ps os : List St} {k : Nat} {s : St} (h : Sofar ps k os) (hs : ps[k]? = some s) (hn : s.notLoop = true) : Sofar ps (k + 1) (os ++ [s]) := by
  unfold Sofar at h ⊢
  rw [h, unr_plain hs hn, Option.map_map]
  congr 1
  funext t
  simp
theorem Sofar.loop {ps os : List St} {k : Nat} {s : St} (h : Sofar ps k os) (hs : ps[k]? = some s) (hn : s.notLoop = false) (hb : (decide (s.b.toNat ≤ (ps.drop (k + 1)).length) && ((ps.drop (k + 1)).take s.b.toNat).all St.notLoop) = true) :
    Sofar ps (k + 1 + s.b.toNat) (os ++ rep ((ps.drop (k + 1)).take s.b.toNat) s.c.toNat) := by
  unfold Sofar at h ⊢
  rw [h, unr_loop hs hn hb, Option.map_map]
  congr 1
  funext t
  simp
theorem Sofar.none_ {ps os : List St} {k : Nat} {s : St} (h : Sofar ps k os) (hs : ps[k]? = some s) (hn : s.notLoop = false) (hb : (decide (s.b.toNat ≤ (ps.drop (k + 1)).length) && ((ps.drop (k + 1)).take s.b.toNat).all St.notLoop) = false) : unr ps 0 = none := by
  unfold Sofar at h
  rw [h, unr_none hs hn hb]; rfl
theorem Sofar.done {ps os : List St} (h : Sofar ps ps.length os) : unr ps 0 = some os := by
  unfold Sofar at h
  rw [h, List.drop_length]; simp [unr]
/-- The program that a list of statements unrolls to, or none. -/
def unrolled (ps : List St) : Option (List St) :=
  if decide (ps.length ≤ 10) && ps.all St.ok then (unr ps 0).filter fun os => decide (os.length ≤ 12) else none
theorem unrolled_no1 {ps : List St} (h : ps.all St.ok = false) : unrolled ps = none := by simp [unrolled, h]
theorem unrolled_no2 {ps : List St} (h : 10 < ps.length) : unrolled ps = none := by simp [unrolled]; omega
theorem unrolled_no3 {ps : List St} (h : unr ps 0 = none) : unrolled ps = none := by simp [unrolled, h]
theorem unrolled_long {ps os : List St} {k : Nat} (h : Sofar ps k os) (hl : 12 < os.length) : unrolled ps = none := by
  unfold Sofar at h
  simp only [unrolled, h]
  cases unr (ps.drop k) 0 with
  | none => simp
  | some t => simp; omega
theorem unrolled_yes {ps os : List St} (h1 : ps.length ≤ 10) (h2 : ps.all St.ok = true) (h : unr ps 0 = some os) (h3 : os.length ≤ 12) : unrolled ps = some os := by
  simp [unrolled, h1, h2, h, h3]
end Go.Proofs.Ytghkpmafocacoaa
namespace Go.Proofs.Ytghkpmafocacoaa
set_option maxRecDepth 100000
theorem rep_mem {body : List St} {x : St} : ∀ {n : Nat}, x ∈ rep body n → x ∈ body
  | 0, h => by simp [rep] at h
  | n + 1, h => by
    rw [rep, List.mem_append] at h
    exact h.elim rep_mem id
theorem unr_mem : ∀ (ps : List St) (k : Nat) (os : List St), unr ps k = some os → ∀ x ∈ os, x.notLoop = true ∧ x ∈ ps
  | [], k, os, h, x, hx => by
    simp only [unr, Option.some.injEq] at h
    subst h
    cases hx
  | s :: r, k + 1, os, h, x, hx => by
    rw [unr] at h
    have := unr_mem r k os h x hx
    exact ⟨this.1, List.mem_cons_of_mem _ this.2⟩
  | s :: r, 0, os, h, x, hx => by
    rw [unr] at h
    by_cases hn : s.notLoop = true
    · rw [if_pos hn] at h
      obtain ⟨t, ht, rfl⟩ := Option.map_eq_some_iff.1 h
      rcases List.mem_cons.1 hx with rfl | hx
      · exact ⟨hn, List.mem_cons_self⟩
      · have := unr_mem r 0 t ht x hx
        exact ⟨this.1, List.mem_cons_of_mem _ this.2⟩
    · rw [if_neg hn] at h
      by_cases hb : (decide (s.b.toNat ≤ r.length) && (r.take s.b.toNat).all St.notLoop) = true
      · rw [if_pos hb] at h
        obtain ⟨t, ht, rfl⟩ := Option.map_eq_some_iff.1 h
        rcases List.mem_append.1 hx with hx | hx
        · have hm := rep_mem hx
          rw [Bool.and_eq_true, List.all_eq_true] at hb
          exact ⟨hb.2 x hm, List.mem_cons_of_mem _ (List.mem_of_mem_take hm)⟩
        · have := unr_mem r s.b.toNat t ht x hx
          exact ⟨this.1, List.mem_cons_of_mem _ this.2⟩
      · rw [if_neg hb] at h
        cases h
theorem unr_self : ∀ (ps : List St), (∀ x ∈ ps, x.notLoop = true) → unr ps 0 = some ps
  | [], _ => by simp [unr]
  | s :: r, h => by
    rw [unr, if_pos (h s List.mem_cons_self), unr_self r (fun x hx => h x (List.mem_cons_of_mem _ hx))]
    rfl
theorem unrolled_parts {ps os : List St} (h : unrolled ps = some os) : ps.length ≤ 10 ∧ os.length ≤ 12 ∧ unr ps 0 = some os ∧ (∀ x ∈ os, x.notLoop = true) ∧ os.all St.ok = true := by
  unfold unrolled at h
  by_cases hc : (decide (ps.length ≤ 10) && ps.all St.ok) = true
  · rw [if_pos hc] at h
    rw [Bool.and_eq_true] at hc
    obtain ⟨hu, hl⟩ := Option.filter_eq_some_iff.1 h
    have hm := unr_mem ps 0 os hu
    refine ⟨of_decide_eq_true hc.1, of_decide_eq_true hl, hu, fun x hx => (hm x hx).1, List.all_eq_true.2 fun x hx => List.all_eq_true.1 hc.2 x (hm x hx).2⟩
  · rw [if_neg hc] at h
    cases h
end Go.Proofs.Ytghkpmafocacoaa

namespace Go.Proofs.Ytghkpmafocacoaa
set_option maxRecDepth 100000
/-- The state behind a statement; what is drawn is x. -/
def St.next (s : St) (st x : Int) : Int :=
  if s.k = 0 then withValue st s.a ((s.c + if s.b = -1 then 0 else valueAt st s.b) % 3)
  else if s.k = 1 then withValue st s.a ((valueAt st s.a + valueAt st s.b) % 3)
  else if s.k = 2 ∨ s.k = 3 then withValue st s.a x
  else st
def St.wgt (s : St) (n : Int) : Int := if n = 0 then s.u else if n = 1 then s.v else s.x
/-- With what a statement multiplies the weight; st is the state behind it. -/
def St.fac (s : St) (st : Int) : Int :=
  if s.k = 2 ∨ s.k = 4 then s.wgt (valueAt st s.a)
  else if s.k = 3 ∨ s.k = 5 then s.wgt ((valueAt st s.a + valueAt st s.b) % 3)
  else 1
/-- How many statements are passed over. -/
def St.jump (s : St) (st : Int) : Nat := if s.k = 6 ∧ valueAt st s.a = s.c then s.b.toNat else 0
/-- Where a run is. -/
structure Rn where
  pos : Nat
  st : Int
  wt : Int
def Rn.step (s : St) (r : Rn) (x : Int) : Rn := ⟨r.pos + 1 + s.jump r.st, s.next r.st x, r.wt * s.fac (s.next r.st x)⟩
/-- The end of a run from a place on, of these draws. -/
def run : List St → Nat → Int → Int → List Int → Option (Int × Int)
  | [], _, st, wt, ds => if ds.isEmpty then some (st, wt) else none
  | _ :: r, k + 1, st, wt, ds => run r k st wt ds
  | s :: r, 0, st, wt, ds =>
    if s.draws then
      match ds with
      | [] => none
      | d :: ds => if inB d 0 2 then run r 0 (s.next st d) (wt * s.fac (s.next st d)) ds else none
    else run r (s.jump st) (s.next st 0) (wt * s.fac (s.next st 0)) ds
theorem drop_cons' {os : List St} {k : Nat} {s : St} (h : os[k]? = some s) : os.drop k = s :: os.drop (k + 1) := by
  have hl : k < os.length := (List.getElem?_eq_some_iff.1 h).1
  rw [List.drop_eq_getElem_cons hl, (List.getElem?_eq_some_iff.1 h).2]
theorem jump_draw {s : St} (h : s.draws = true) (st : Int) : s.jump st = 0 := by
  unfold St.draws at h
  unfold St.jump
  rw [if_neg]
  rintro ⟨h6, _⟩
  rw [h6] at h
  simp at h
/-- What holds of each run on its way. -/
def Rn.fit (r : Rn) : Prop := 0 ≤ r.st ∧ r.st ≤ 80 ∧ 0 ≤ r.wt ∧ r.wt ≤ 9 ^ r.pos
theorem Rn.fit_start : Rn.fit ⟨0, 0, 1⟩ := ⟨by decide, by decide, by decide, by decide⟩
theorem pow9_le {a b : Nat} (h : a ≤ b) : (9 : Int) ^ a ≤ 9 ^ b := by
  obtain ⟨c, rfl⟩ := Nat.exists_eq_add_of_le h
  rw [Int.pow_add]
  have h1 : (0 : Int) < 9 ^ a := Int.pow_pos (by decide)
  have h2 : (0 : Int) < 9 ^ c := Int.pow_pos (by decide)
  have := Int.mul_le_mul_of_nonneg_left (show (1 : Int) ≤ 9 ^ c by omega) (Int.le_of_lt h1)
  omega
theorem wgt_bd {s : St} (h : wOk s.u s.v s.x = true) (n : Int) : 0 ≤ s.wgt n ∧ s.wgt n ≤ 9 := by
  unfold wOk at h
  simp [inB_iff] at h
  unfold St.wgt
  split
  · omega
  · split <;> omega
theorem fac_bd {s : St} (h : s.ok = true) (st : Int) : 0 ≤ s.fac st ∧ s.fac st ≤ 9 := by
  obtain ⟨k, a, b, c, u, v, x⟩ := s
  unfold St.fac
  dsimp only
  split
  · rename_i hk
    refine wgt_bd (s := ⟨k, a, b, c, u, v, x⟩) ?_ _
    rcases hk with rfl | rfl
    · rw [ok_2] at h; simp at h; exact h.2
    · rw [ok_4] at h; simp at h; exact h.2
  · split
    · rename_i hk
      refine wgt_bd (s := ⟨k, a, b, c, u, v, x⟩) ?_ _
      rcases hk with rfl | rfl
      · rw [ok_3] at h; simp at h; exact h.2
      · rw [ok_5] at h; simp at h; exact h.2
    · omega
theorem with_bd {st v x : Int} (hs : 0 ≤ st ∧ st ≤ 80) (hv : 0 ≤ v ∧ v ≤ 3) (hx : 0 ≤ x ∧ x ≤ 2) : 0 ≤ withValue st v x ∧ withValue st v x ≤ 80 := by
  obtain ⟨k, rfl, hk⟩ := nat4 hv.1 hv.2
  rw [withValue_yes hs.1 hs.2 rfl hk hx.1 hx.2]
  obtain rfl | rfl | rfl | rfl : k = 0 ∨ k = 1 ∨ k = 2 ∨ k = 3 := by omega
  all_goals simp only [p3]; omega
theorem next_bd {s : St} (h : s.ok = true) {st x : Int} (hs : 0 ≤ st ∧ st ≤ 80) (hx : 0 ≤ x ∧ x ≤ 2) : 0 ≤ s.next st x ∧ s.next st x ≤ 80 := by
  obtain ⟨k, a, b, c, u, v, y⟩ := s
  have hr := ok_rng h
  unfold St.next
  dsimp only
  split
  · exact with_bd hs (by omega) (by omega)
  · split
    · exact with_bd hs (by omega) (by omega)
    · split
      · exact with_bd hs (by omega) hx
      · exact hs
theorem Rn.fit.step {s : St} {r : Rn} {x : Int} (h : r.fit) (hs : s.ok = true) (hx : 0 ≤ x ∧ x ≤ 2) : (Rn.step s r x).fit := by
  obtain ⟨h0, h1, h2, h3⟩ := h
  obtain ⟨n0, n1⟩ := next_bd hs ⟨h0, h1⟩ hx
  obtain ⟨f0, f1⟩ := fac_bd hs (s.next r.st x)
  refine ⟨n0, n1, Int.mul_nonneg h2 f0, ?_⟩
  have e1 : r.wt * s.fac (s.next r.st x) ≤ r.wt * 9 := Int.mul_le_mul_of_nonneg_left f1 h2
  have e2 : r.wt * 9 ≤ 9 ^ r.pos * 9 := Int.mul_le_mul_of_nonneg_right h3 (by decide)
  have e3 : (9 : Int) ^ (r.pos + 1) = 9 ^ r.pos * 9 := Int.pow_succ 9 r.pos
  have e4 := pow9_le (show r.pos + 1 ≤ r.pos + 1 + s.jump r.st by omega)
  show r.wt * s.fac (s.next r.st x) ≤ 9 ^ (r.pos + 1 + s.jump r.st)
  omega
end Go.Proofs.Ytghkpmafocacoaa
namespace Go.Proofs.Ytghkpmafocacoaa
set_option maxRecDepth 100000
/-- How a run ended: what was drawn, the state and the weight. -/
abbrev Leaf := List Int × Int × Int
def lpre (pre : List Int) (l : Leaf) : Leaf := (pre ++ l.1, l.2)
/-- All ends of runs from a place on; a run whose weight is 0 ends there. -/
def lv : List St → Nat → Int → Int → List Leaf
  | [], _, st, wt => [([], st, wt)]
  | _ :: r, k + 1, st, wt => lv r k st wt
  | s :: r, 0, st, wt =>
    if wt = 0 then [([], st, 0)]
    else if s.draws then
      (lv r 0 (s.next st 0) (wt * s.fac (s.next st 0))).map (lpre [0]) ++ ((lv r 0 (s.next st 1) (wt * s.fac (s.next st 1))).map (lpre [1]) ++ (lv r 0 (s.next st 2) (wt * s.fac (s.next st 2))).map (lpre [2]))
    else lv r (s.jump st) (s.next st 0) (wt * s.fac (s.next st 0))
def lvR (os : List St) (r : Rn) : List Leaf := lv (os.drop r.pos) 0 r.st r.wt
/-- The runs that draw d where r is. -/
def bran (os : List St) (pre : List Int) (s : St) (r : Rn) (d : Int) : List Leaf := (lvR os (Rn.step s r d)).map (lpre (pre ++ [d]))
/-- The runs behind those that draw what the row has in place j. -/
def restAt (os : List St) (row : List Int) (stk : List Rn) (j : Nat) : List Leaf :=
  match row[j]?, stk[j]? with
  | some d, some r =>
    match os[r.pos]? with
    | some s => (if d < 1 then bran os (row.take j) s r 1 else []) ++ (if d < 2 then bran os (row.take j) s r 2 else [])
    | none => []
  | _, _ => []
def rest (os : List St) (row : List Int) (stk : List Rn) : Nat → List Leaf
  | 0 => []
  | j + 1 => restAt os row stk j ++ rest os row stk j
end Go.Proofs.Ytghkpmafocacoaa
namespace Go.Proofs.Ytghkpmafocacoaa
set_option maxRecDepth 100000
end Go.Proofs.Ytghkpmafocacoaa
namespace Go.Proofs.Ytghkpmafocacoaa
set_option maxRecDepth 100000
theorem valueAt_with {s v x : Int} (hs : 0 ≤ s ∧ s ≤ 80) (hv : 0 ≤ v ∧ v ≤ 3) (hx : 0 ≤ x ∧ x ≤ 2) :
    valueAt (withValue s v x) v = x ∧ ∀ i, 0 ≤ i → i ≤ 3 → i ≠ v → valueAt (withValue s v x) i = valueAt s i := by
  have hr := with_bd hs hv hx
  have e1 : ∀ {s : Int}, 0 ≤ s ∧ s ≤ 80 → ∀ k : Nat, k ≤ 3 → valueAt s k = s / p3 k % 3 := fun h k hk => valueAt_yes h.1 h.2 rfl hk
  obtain ⟨k, rfl, hk⟩ := nat4 hv.1 hv.2
  have e2 := withValue_yes hs.1 hs.2 (rfl : (k : Int) = k) hk hx.1 hx.2
  rw [e2] at hr ⊢
  constructor
  · rw [e1 hr k hk]
    obtain rfl | rfl | rfl | rfl : k = 0 ∨ k = 1 ∨ k = 2 ∨ k = 3 := by omega
    all_goals simp only [p3]; omega
  · intro i h0 h3 hne
    obtain ⟨j, rfl, hj⟩ := nat4 h0 h3
    rw [e1 hr j hj, e1 hs j hj]
    obtain rfl | rfl | rfl | rfl : k = 0 ∨ k = 1 ∨ k = 2 ∨ k = 3 := by omega
    all_goals
      obtain rfl | rfl | rfl | rfl : j = 0 ∨ j = 1 ∨ j = 2 ∨ j = 3 := by omega
      all_goals first | (exact absurd rfl hne) | (simp only [p3]; omega)
theorem fac_2 {a b c u v y st x : Int} (hs : 0 ≤ st ∧ st ≤ 80) (ha : 0 ≤ a ∧ a ≤ 3) (hx : 0 ≤ x ∧ x ≤ 2) :
    (St.mk 2 a b c u v y).fac ((St.mk 2 a b c u v y).next st x) = (St.mk 2 a b c u v y).wgt x := by
  have e : (St.mk 2 a b c u v y).next st x = withValue st a x := by simp [St.next]
  rw [e]
  simp [St.fac, (valueAt_with hs ha hx).1]
theorem fac_3 {a b c u v y st x : Int} (hs : 0 ≤ st ∧ st ≤ 80) (ha : 0 ≤ a ∧ a ≤ 3) (hb : 0 ≤ b ∧ b ≤ 3) (hne : a ≠ b) (hx : 0 ≤ x ∧ x ≤ 2) :
    (St.mk 3 a b c u v y).fac ((St.mk 3 a b c u v y).next st x) = (St.mk 3 a b c u v y).wgt ((x + valueAt st b) % 3) := by
  have e : (St.mk 3 a b c u v y).next st x = withValue st a x := by simp [St.next]
  rw [e]
  simp [St.fac, (valueAt_with hs ha hx).1, (valueAt_with hs ha hx).2 b hb.1 hb.2 (Ne.symm hne)]
end Go.Proofs.Ytghkpmafocacoaa
namespace Go.Proofs.Ytghkpmafocacoaa
set_option maxRecDepth 100000
set_option linter.unusedVariables false
/-- The sum, over all ends of runs from a place on, of the weight times h of the state in the end. -/
def val (h : Int → Int) : List St → Nat → Int → Int
  | [], _, st => h st
  | _ :: r, k + 1, st => val h r k st
  | s :: r, 0, st =>
    if s.draws then s.fac (s.next st 0) * val h r 0 (s.next st 0) + s.fac (s.next st 1) * val h r 0 (s.next st 1) + s.fac (s.next st 2) * val h r 0 (s.next st 2)
    else s.fac (s.next st 0) * val h r (s.jump st) (s.next st 0)
theorem val_skip (h : Int → Int) : ∀ (os : List St) (k : Nat) (st : Int), val h os k st = val h (os.drop k) 0 st
  | os, 0, _ => by simp
  | [], k + 1, st => by simp [val]
  | _ :: r, k + 1, st => by
    rw [val, val_skip h r k]; rfl
/-- What is worth ahead of the statement at a place. -/
def valAt (h : Int → Int) (os : List St) (i : Nat) (st : Int) : Int := val h (os.drop i) 0 st
theorem valAt_end {h : Int → Int} {os : List St} {i : Nat} (hi : os.length ≤ i) (st : Int) : valAt h os i st = h st := by
  unfold valAt
  rw [List.drop_eq_nil_of_le hi]; rfl
theorem valAt_min (h : Int → Int) (os : List St) (i : Nat) (st : Int) : valAt h os (min i os.length) st = valAt h os i st := by
  by_cases hi : i ≤ os.length
  · rw [Nat.min_eq_left hi]
  · rw [Nat.min_eq_right (by omega), valAt_end (Nat.le_refl _), valAt_end (i := i) (by omega)]
theorem valAt_own {h : Int → Int} {os : List St} {i : Nat} {s : St} (hs : os[i]? = some s) (hd : s.draws = false) (st : Int) : valAt h os i st = s.fac (s.next st 0) * valAt h os (i + 1 + s.jump st) (s.next st 0) := by
  unfold valAt
  rw [drop_cons' hs, val, if_neg (by simp [hd]), val_skip, List.drop_drop]
theorem valAt_draw {h : Int → Int} {os : List St} {i : Nat} {s : St} (hs : os[i]? = some s) (hd : s.draws = true) (st : Int) :
    valAt h os i st = s.fac (s.next st 0) * valAt h os (i + 1) (s.next st 0) + s.fac (s.next st 1) * valAt h os (i + 1) (s.next st 1) + s.fac (s.next st 2) * valAt h os (i + 1) (s.next st 2) := by
  unfold valAt
  rw [drop_cons' hs, val, if_pos hd]
/-- What a run is worth. -/
def valR (h : Int → Int) (os : List St) (r : Rn) : Int := r.wt * valAt h os r.pos r.st
theorem valR_own {h : Int → Int} {os : List St} {r : Rn} {s : St} (hs : os[r.pos]? = some s) (hd : s.draws = false) : valR h os r = valR h os (Rn.step s r 0) := by
  unfold valR
  rw [valAt_own hs hd]
  show _ = r.wt * s.fac (s.next r.st 0) * valAt h os (r.pos + 1 + s.jump r.st) (s.next r.st 0)
  rw [Int.mul_assoc]
theorem valR_draw {h : Int → Int} {os : List St} {r : Rn} {s : St} (hs : os[r.pos]? = some s) (hd : s.draws = true) : valR h os r = valR h os (Rn.step s r 0) + valR h os (Rn.step s r 1) + valR h os (Rn.step s r 2) := by
  unfold valR
  rw [valAt_draw hs hd]
  show _ = r.wt * s.fac (s.next r.st 0) * valAt h os (r.pos + 1 + s.jump r.st) (s.next r.st 0) + r.wt * s.fac (s.next r.st 1) * valAt h os (r.pos + 1 + s.jump r.st) (s.next r.st 1) + r.wt * s.fac (s.next r.st 2) * valAt h os (r.pos + 1 + s.jump r.st) (s.next r.st 2)
  rw [jump_draw hd, Nat.add_zero, Int.mul_add, Int.mul_add, Int.mul_assoc, Int.mul_assoc, Int.mul_assoc]
end Go.Proofs.Ytghkpmafocacoaa

namespace Go.Proofs.Ytghkpmafocacoaa
set_option maxRecDepth 100000
open Go.RowKit
/-- Block g of a world is these cells of type t, none of them frozen. -/
def Has (w : World) (g : Nat) (t : TypeId) (cs : Array Value) : Prop := w.heap[g]? = some (.cells cs t (0, 0))
theorem Has.lt {w : World} {g : Nat} {t : TypeId} {cs : Array Value} (h : Has w g t cs) : g < w.heap.size := (Array.getElem?_eq_some_iff.1 h).1
theorem Has.cell {w : World} {g : Nat} {t : TypeId} {cs : Array Value} (h : Has w g t cs) : ∀ i, w.cell? ⟨g, i, none⟩ = cs[i]? := fun i => cell_of_row w g i cs t (0, 0) h
theorem Has.frozen {w : World} {g : Nat} {t : TypeId} {cs : Array Value} (h : Has w g t cs) : ∀ i, w.frozen? ⟨g, i, none⟩ = false := fun i => by
  have h' : w.heap[g]? = some (.cells cs t (0, 0)) := h
  simp [World.frozen?, h']
theorem Has.new (w : World) (t : TypeId) (cs : Array Value) : Has (w.alloc (.cells cs t)) w.heap.size t cs := heap_alloc_new w _
theorem Has.alloc {w : World} {g : Nat} {t : TypeId} {cs : Array Value} (h : Has w g t cs) (o : Obj) : Has (w.alloc o) g t cs := (Below.heap_alloc w o g h.lt).trans h
theorem Has.drewN {w : World} {g : Nat} {t : TypeId} {cs : Array Value} (h : Has w g t cs) (n : Nat) : Has (w.drewN n) g t cs := h
theorem Has.below {w w' : World} {B g : Nat} {t : TypeId} {cs : Array Value} (h : Has w g t cs) (hb : Below B w w') (hg : g < B) : Has w' g t cs := (hb.block g hg).trans h
theorem Has.kept {w w' : World} {g : Nat} {t : TypeId} {cs : Array Value} (h : Has w g t cs) (hb : Below w.heap.size w w') : Has w' g t cs := h.below hb h.lt
theorem Has.put {w : World} {g : Nat} {t : TypeId} {cs : Array Value} (h : Has w g t cs) (i : Nat) (u : Value) : Has (w.setCell ⟨g, i, none⟩ u) g t (cs.setIfInBounds i u) := by
  have h' : w.heap[g]? = some (.cells cs t (0, 0)) := h
  show (w.setCell ⟨g, i, none⟩ u).heap[g]? = _
  simp [World.setCell, Array.getElem?_modify, h']
theorem Has.far {w : World} {g : Nat} {t : TypeId} {cs : Array Value} (h : Has w g t cs) {p : Addr} (hp : g ≠ p.block) (u : Value) : Has (w.setCell p u) g t cs := (Below.heap_setCell w p u g hp).trans h
end Go.Proofs.Ytghkpmafocacoaa
