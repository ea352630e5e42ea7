/- Loops told out, as a plain function on lists of statements. Plain facts of lists told out: what is in them, and that a list without a loop stays as it is. -/
import Derived.Test.YtbndonfpdioibaaSc
namespace Go.Proofs.Ytbndonfpdioibaa
set_option maxRecDepth 100000

def St.notLoop (s : St) : Bool := !(s.k == 7)
def St.draws (s : St) : Bool := s.k == 2 || s.k == 3

/-- c copies of a list, one behind the other. -/
def rep (body : List St) : Nat → List St
  | 0 => []
  | n + 1 => rep body n ++ body

theorem rep_length (body : List St) (n : Nat) : (rep body n).length = n * body.length := by
  induction n with
  | zero => simp [rep]
  | succ n ih => simp only [rep, List.length_append, ih, Nat.add_mul, Nat.one_mul]

/-- The loops of a list told out; the number is how many statements ahead are a body that has been done. -/
def unr : List St → Nat → Option (List St)
  | [], _ => some []
  | _ :: r, k + 1 => unr r k
  | s :: r, 0 =>
    if s.notLoop then (unr r 0).map (s :: ·)
    else if decide (s.b.toNat ≤ r.length) && (r.take s.b.toNat).all St.notLoop then (unr r s.b.toNat).map (rep (r.take s.b.toNat) s.c.toNat ++ ·)
    else none

theorem unr_drop : ∀ (r : List St) (k : Nat), unr r k = unr (r.drop k) 0
  | [], k => by simp [unr]
  | s :: r, 0 => by simp
  | s :: r, k + 1 => by rw [unr, List.drop_succ_cons]; exact unr_drop r k

theorem drop_cons {ps : List St} {k : Nat} {s : St} (h : ps[k]? = some s) : ps.drop k = s :: ps.drop (k + 1) := by
  have hl : k < ps.length := (List.getElem?_eq_some_iff.1 h).1
  rw [List.drop_eq_getElem_cons hl, (List.getElem?_eq_some_iff.1 h).2]

/-- A statement that is no loop goes on as it is. -/
theorem unr_plain {ps : List St} {k : Nat} {s : St} (h : ps[k]? = some s) (hn : s.notLoop = true) : unr (ps.drop k) 0 = (unr (ps.drop (k + 1)) 0).map (s :: ·) := by
  rw [drop_cons h, unr, if_pos hn]
/-- A loop whose body is not there, or holds a loop. -/
theorem unr_none {ps : List St} {k : Nat} {s : St} (h : ps[k]? = some s) (hn : s.notLoop = false) (hb : (decide (s.b.toNat ≤ (ps.drop (k + 1)).length) && ((ps.drop (k + 1)).take s.b.toNat).all St.notLoop) = false) : unr (ps.drop k) 0 = none := by
  rw [drop_cons h, unr, if_neg (by simp [hn]), if_neg (by rw [hb]; exact Bool.false_ne_true)]
theorem unr_loop {ps : List St} {k : Nat} {s : St} (h : ps[k]? = some s) (hn : s.notLoop = false) (hb : (decide (s.b.toNat ≤ (ps.drop (k + 1)).length) && ((ps.drop (k + 1)).take s.b.toNat).all St.notLoop) = true) :
    unr (ps.drop k) 0 = (unr (ps.drop (k + 1 + s.b.toNat)) 0).map (rep ((ps.drop (k + 1)).take s.b.toNat) s.c.toNat ++ ·) := by
  rw [drop_cons h, unr, if_neg (by simp [hn]), if_pos hb, unr_drop, List.drop_drop]

/-- What has been told out so far, and what is left. -/
def Sofar (ps : List St) (k : Nat) (os : List St) : Prop := unr ps 0 = (unr (ps.drop k) 0).map (os ++ ·)
theorem Sofar.start (ps : List St) : Sofar ps 0 [] := by simp [Sofar]
theorem Sofar.plain {ps os : List St} {k : Nat} {s : St} (h : Sofar ps k os) (hs : ps[k]? = some s) (hn : s.notLoop = true) : Sofar ps (k + 1) (os ++ [s]) := by
  unfold Sofar at h ⊢
  rw [h, unr_plain hs hn, Option.map_map]
  congr 1
  funext t
  simp
theorem Sofar.loop {ps os : List St} {k : Nat} {s : St} (h : Sofar ps k os) (hs : ps[k]? = some s) (hn : s.notLoop = false) (hb : (decide (s.b.toNat ≤ (ps.drop (k + 1)).length) && ((ps.drop (k + 1)).take s.b.toNat).all St.notLoop) = true) :
    Sofar ps (k + 1 + s.b.toNat) (os ++ rep ((ps.drop (k + 1)).take s.b.toNat) s.c.toNat) := by
  unfold Sofar at h ⊢
  rw [h, unr_loop hs hn hb, Option.map_map]
  congr 1
  funext t
  simp
theorem Sofar.none_ {ps os : List St} {k : Nat} {s : St} (h : Sofar ps k os) (hs : ps[k]? = some s) (hn : s.notLoop = false) (hb : (decide (s.b.toNat ≤ (ps.drop (k + 1)).length) && ((ps.drop (k + 1)).take s.b.toNat).all St.notLoop) = false) : unr ps 0 = none := by
  unfold Sofar at h
  rw [h, unr_none hs hn hb]; rfl
theorem Sofar.done {ps os : List St} (h : Sofar ps ps.length os) : unr ps 0 = some os := by
  unfold Sofar at h
  rw [h, List.drop_length]; simp [unr]

/-- The program that a list of statements unrolls to, or none. -/
def unrolled (ps : List St) : Option (List St) :=
  if decide (ps.length ≤ 10) && ps.all St.ok then (unr ps 0).filter fun os => decide (os.length ≤ 12) else none

theorem unrolled_no1 {ps : List St} (h : ps.all St.ok = false) : unrolled ps = none := by simp [unrolled, h]
theorem unrolled_no2 {ps : List St} (h : 10 < ps.length) : unrolled ps = none := by simp [unrolled]; omega
theorem unrolled_no3 {ps : List St} (h : unr ps 0 = none) : unrolled ps = none := by simp [unrolled, h]
theorem unrolled_long {ps os : List St} {k : Nat} (h : Sofar ps k os) (hl : 12 < os.length) : unrolled ps = none := by
  unfold Sofar at h
  simp only [unrolled, h]
  cases unr (ps.drop k) 0 with
  | none => simp
  | some t => simp; omega
theorem unrolled_yes {ps os : List St} (h1 : ps.length ≤ 10) (h2 : ps.all St.ok = true) (h : unr ps 0 = some os) (h3 : os.length ≤ 12) : unrolled ps = some os := by
  simp [unrolled, h1, h2, h, h3]

end Go.Proofs.Ytbndonfpdioibaa

namespace Go.Proofs.Ytbndonfpdioibaa
set_option maxRecDepth 100000

theorem rep_mem {body : List St} {x : St} : ∀ {n : Nat}, x ∈ rep body n → x ∈ body
  | 0, h => by simp [rep] at h
  | n + 1, h => by
    rw [rep, List.mem_append] at h
    exact h.elim rep_mem id

theorem unr_mem : ∀ (ps : List St) (k : Nat) (os : List St), unr ps k = some os → ∀ x ∈ os, x.notLoop = true ∧ x ∈ ps
  | [], k, os, h, x, hx => by
    simp only [unr, Option.some.injEq] at h
    subst h
    cases hx
  | s :: r, k + 1, os, h, x, hx => by
    rw [unr] at h
    have := unr_mem r k os h x hx
    exact ⟨this.1, List.mem_cons_of_mem _ this.2⟩
  | s :: r, 0, os, h, x, hx => by
    rw [unr] at h
    by_cases hn : s.notLoop = true
    · rw [if_pos hn] at h
      obtain ⟨t, ht, rfl⟩ := Option.map_eq_some_iff.1 h
      rcases List.mem_cons.1 hx with rfl | hx
      · exact ⟨hn, List.mem_cons_self⟩
      · have := unr_mem r 0 t ht x hx
        exact ⟨this.1, List.mem_cons_of_mem _ this.2⟩
    · rw [if_neg hn] at h
      by_cases hb : (decide (s.b.toNat ≤ r.length) && (r.take s.b.toNat).all St.notLoop) = true
      · rw [if_pos hb] at h
        obtain ⟨t, ht, rfl⟩ := Option.map_eq_some_iff.1 h
        rcases List.mem_append.1 hx with hx | hx
        · have hm := rep_mem hx
          rw [Bool.and_eq_true, List.all_eq_true] at hb
          exact ⟨hb.2 x hm, List.mem_cons_of_mem _ (List.mem_of_mem_take hm)⟩
        · have := unr_mem r s.b.toNat t ht x hx
          exact ⟨this.1, List.mem_cons_of_mem _ this.2⟩
      · rw [if_neg hb] at h
        cases h

theorem unr_self : ∀ (ps : List St), (∀ x ∈ ps, x.notLoop = true) → unr ps 0 = some ps
  | [], _ => by simp [unr]
  | s :: r, h => by
    rw [unr, if_pos (h s List.mem_cons_self), unr_self r (fun x hx => h x (List.mem_cons_of_mem _ hx))]
    rfl

theorem unrolled_parts {ps os : List St} (h : unrolled ps = some os) : ps.length ≤ 10 ∧ os.length ≤ 12 ∧ unr ps 0 = some os ∧ (∀ x ∈ os, x.notLoop = true) ∧ os.all St.ok = true := by
  unfold unrolled at h
  by_cases hc : (decide (ps.length ≤ 10) && ps.all St.ok) = true
  · rw [if_pos hc] at h
    rw [Bool.and_eq_true] at hc
    obtain ⟨hu, hl⟩ := Option.filter_eq_some_iff.1 h
    have hm := unr_mem ps 0 os hu
    refine ⟨of_decide_eq_true hc.1, of_decide_eq_true hl, hu, fun x hx => (hm x hx).1, List.all_eq_true.2 fun x hx => List.all_eq_true.1 hc.2 x (hm x hx).2⟩
  · rw [if_neg hc] at h
    cases h

theorem unrolled_self {ps os : List St} (h : unrolled ps = some os) (h10 : os.length ≤ 10) : unrolled os = some os := by
  obtain ⟨_, h12, _, hn, ho⟩ := unrolled_parts h
  exact unrolled_yes h10 ho (unr_self os hn) h12

end Go.Proofs.Ytbndonfpdioibaa
