/- Slices: the variables that hang, what is needed, the slice of a plain program and what it is worth; plain. -/
import Derived.Test.YtkibkmheomlafaaCg
namespace Go.Proofs.Ytkibkmheomlafaa
set_option maxRecDepth 100000
set_option linter.unusedVariables false
open Go.RowKit

/-- What hangs ahead of a plain statement, and whether it is needed. -/
def St.bk (s : St) (L : Int) : Int := if 4 ≤ s.k then bor L s.reads else if tb L s.a.toNat = true then bor (bdf L (bitN s.a)) s.reads else L
def St.isN (s : St) (L : Int) : Bool := decide (4 ≤ s.k) || tb L s.a.toNat
def needL : List St → Int → Int
  | [], L => L
  | s :: r, L => s.bk (needL r L)
def sl : List St → Int → List St
  | [], _ => []
  | s :: r, L => if s.isN (needL r L) = true then s :: sl r L else sl r L
/-- The sums of the weights of the draws that are not needed, multiplied. -/
def byL : List St → Int → Int
  | [], _ => 1
  | s :: r, L => if s.isN (needL r L) = true then byL r L else facBy 2 s * byL r L
/-- It does not hang on a variable. -/
def Free (v : Nat) (f : Int → Int) : Prop := ∀ st y : Int, 0 ≤ st ∧ st ≤ 80 → 0 ≤ y ∧ y ≤ 2 → f (withValue st v y) = f st
def Dep (L : Int) (f : Int → Int) : Prop := ∀ v : Nat, v ≤ 3 → tb L v = false → Free v f

theorem ker_sum {s : St} (ha : s.ok = true) (h6 : s.k < 6) (hk : s.k ≤ 3) {st : Int} (hs : 0 ≤ st ∧ st ≤ 80) : s.ker 0 st + s.ker 1 st + s.ker 2 st = facBy 2 s := by
  have hra := ok_rng (k := s.k) (a := s.a) (b := s.b) (c := s.c) (u := s.u) (v := s.v) (x := s.x) ha
  have hw : ∀ m : Int, 0 ≤ m ∧ m ≤ 2 → s.wgt ((0 + m) % 3) + s.wgt ((1 + m) % 3) + s.wgt ((2 + m) % 3) = s.u + s.v + s.x := fun m hm => by
    unfold St.wgt
    obtain rfl | rfl | rfl : m = 0 ∨ m = 1 ∨ m = 2 := by omega
    all_goals simp
    all_goals omega
  have hot : ∀ m : Int, 0 ≤ m ∧ m ≤ 2 → (if (0 : Int) = m then (1 : Int) else 0) + (if (1 : Int) = m then (1 : Int) else 0) + (if (2 : Int) = m then (1 : Int) else 0) = 1 := fun m hm => by
    obtain rfl | rfl | rfl : m = 0 ∨ m = 1 ∨ m = 2 := by omega
    all_goals decide
  rcases (ok_low h6).1 ha with ⟨hk0, _, hb0, hc0, _⟩ | ⟨hk0, ha0, hb0, _⟩ | ⟨hk0, _⟩ | ⟨hk0, _, hb0, _⟩
  · have e1 : facBy 2 s = 1 := by simp [facBy, St.draws, hk0]
    have e2 : ∀ x, s.ker x st = if x = (s.c + if s.b = -1 then 0 else valueAt st s.b) % 3 then 1 else 0 := fun x => by unfold St.ker; rw [if_pos hk0]
    rw [e1, e2, e2, e2]
    exact hot _ (by omega)
  · have e1 : facBy 2 s = 1 := by simp [facBy, St.draws, hk0]
    have e2 : ∀ x, s.ker x st = if x = (valueAt st s.a + valueAt st s.b) % 3 then 1 else 0 := fun x => by unfold St.ker; rw [if_neg (by omega), if_pos hk0]
    rw [e1, e2, e2, e2]
    exact hot _ (by omega)
  · have hk0' : s.k = 2 := by omega
    have e1 : facBy 2 s = s.u + s.v + s.x := by simp [facBy, St.draws, hk0']
    have e2 : ∀ x, s.ker x st = s.wgt x := fun x => by unfold St.ker; rw [if_neg (by omega), if_neg (by omega), if_pos hk0']
    rw [e1, e2, e2, e2]
    unfold St.wgt
    simp
  · have hk0' : s.k = 3 := by omega
    have e1 : facBy 2 s = s.u + s.v + s.x := by simp [facBy, St.draws, hk0']
    have e2 : ∀ x, s.ker x st = s.wgt ((x + valueAt st s.b) % 3) := fun x => by unfold St.ker; rw [if_neg (by omega), if_neg (by omega), if_neg (by omega), if_pos hk0']
    rw [e1, e2, e2, e2]
    exact hw _ (value_bd hs hb0)
theorem nat_of {a : Int} (h : 0 ≤ a ∧ a ≤ 3) : ∃ v : Nat, a = v ∧ v ≤ 3 := ⟨a.toNat, by omega, by omega⟩
/-- A statement that is needed: what it is worth ahead of it hangs on what hangs there. -/
theorem dep_need {s : St} (ho : s.ok = true) (h6 : s.k < 6) {L : Int} {f : Int → Int} (hn : s.isN L = true) (hf : Dep L f) : Dep (s.bk L) (one s f) := by
  have hra := ok_rng (k := s.k) (a := s.a) (b := s.b) (c := s.c) (u := s.u) (v := s.v) (x := s.x) ho
  have hA : 0 ≤ s.a ∧ s.a ≤ 3 := by omega
  intro v hv ht st y hs hy
  have hv' : 0 ≤ (v : Int) ∧ (v : Int) ≤ 3 := by omega
  by_cases hk : 4 ≤ s.k
  · unfold St.bk at ht
    rw [if_pos hk, tb_bor, Bool.or_eq_false_iff] at ht
    unfold one
    rw [if_neg (by omega), if_neg (by omega), ker_far ho h6 hs hv' hy (by simpa using ht.2), hf v hv ht.1 st y hs hy]
  · have htn : tb L s.a.toNat = true := by
      unfold St.isN at hn
      rw [decide_eq_false hk, Bool.false_or] at hn
      exact hn
    unfold St.bk at ht
    rw [if_neg hk, if_pos htn, tb_bor, Bool.or_eq_false_iff, tb_bdf hA.1 hA.2 hv, Bool.and_eq_false_iff] at ht
    obtain ⟨ht1, ht2⟩ := ht
    have hker : ∀ x, s.ker x (withValue st v y) = s.ker x st := fun x => ker_far ho h6 hs hv' hy (by simpa using ht2) x
    have hsame : ∀ x, 0 ≤ x ∧ x ≤ 2 → f (withValue (withValue st v y) s.a x) = f (withValue st s.a x) := fun x hx => by
      by_cases he : s.a = v
      · rw [← he, with_with hs hA hy hx]
      · have hl : tb L v = false := by
          rcases ht1 with h | h
          · exact h
          · simp [he] at h
        rw [with_comm hs hv' hA (fun e => he e.symm) hy hx]
        exact hf v hv hl _ y (with_bd hs hA hx) hy
    rw [one_set (by omega), one_set (by omega), hker, hker, hker, hsame 0 (by decide), hsame 1 (by decide), hsame 2 (by decide)]
/-- A statement that is not needed: what is worth behind it, times its number. -/
theorem one_skip {s : St} (ho : s.ok = true) (h6 : s.k < 6) {L : Int} {f : Int → Int} (hn : s.isN L = false) (hf : Dep L f) {st : Int} (hs : 0 ≤ st ∧ st ≤ 80) : one s f st = facBy 2 s * f st := by
  have hra := ok_rng (k := s.k) (a := s.a) (b := s.b) (c := s.c) (u := s.u) (v := s.v) (x := s.x) ho
  unfold St.isN at hn
  rw [Bool.or_eq_false_iff] at hn
  have hk : s.k ≤ 3 := by have := of_decide_eq_false hn.1; omega
  obtain ⟨v, hv, hv3⟩ := nat_of (a := s.a) (by omega)
  have hfr := hf v hv3 (by have := hn.2; rw [hv] at this; simpa using this)
  rw [one_set hk, hv, hfr st 0 hs (by decide), hfr st 1 hs (by decide), hfr st 2 hs (by decide), ← ker_sum ho h6 hk hs, Int.add_mul, Int.add_mul]
theorem bk_skip {s : St} {L : Int} (hn : s.isN L = false) : s.bk L = L := by
  unfold St.isN at hn
  rw [Bool.or_eq_false_iff] at hn
  unfold St.bk
  rw [if_neg (of_decide_eq_false hn.1), if_neg (by rw [hn.2]; decide)]
theorem Dep.congr {L : Int} {f g : Int → Int} (h : Dep L f) (he : ∀ st, 0 ≤ st ∧ st ≤ 80 → f st = g st) : Dep L g := fun v hv ht st y hs hy => by
  rw [← he _ (with_bd hs (by omega) hy), ← he st hs]
  exact h v hv ht st y hs hy
theorem Dep.mul {L : Int} {f : Int → Int} (h : Dep L f) (c : Int) : Dep L (fun st => c * f st) := fun v hv ht st y hs hy => by
  show c * f _ = c * f st
  rw [h v hv ht st y hs hy]
/-- What a slice is worth, times the number told, is what the program is worth; and that hangs on what hangs ahead of it. -/
theorem slice_val : ∀ {ps : List St}, (∀ s ∈ ps, s.ok = true ∧ s.k < 6) → ∀ {L : Int} {h : Int → Int}, Dep L h →
    Dep (needL ps L) (fun st => val h ps 0 st) ∧ ∀ st, 0 ≤ st ∧ st ≤ 80 → byL ps L * val h (sl ps L) 0 st = val h ps 0 st
  | [], _, L, h, hd => ⟨hd, fun st hs => by rw [byL, sl, Int.one_mul]⟩
  | s :: r, hok, L, h, hd => by
    have ho := hok s List.mem_cons_self
    have hr := fun t ht => hok t (List.mem_cons_of_mem s ht)
    obtain ⟨ih1, ih2⟩ := slice_val hr (L := L) hd
    have hv : ∀ st, 0 ≤ st ∧ st ≤ 80 → val h (s :: r) 0 st = one s (fun x => val h r 0 x) st := fun st hs => val_one ho.1 ho.2 h r hs
    cases hn : s.isN (needL r L)
    · have e : needL (s :: r) L = needL r L := bk_skip hn
      have hsk := fun st hs => one_skip ho.1 ho.2 hn ih1 (st := st) hs
      refine ⟨?_, fun st hs => ?_⟩
      · rw [e]
        exact (ih1.mul (facBy 2 s)).congr fun st hs => ((hv st hs).trans (hsk st hs)).symm
      · rw [byL, sl, if_neg (by rw [hn]; decide), if_neg (by rw [hn]; decide), Int.mul_assoc, ih2 st hs, hv st hs, hsk st hs]
    · refine ⟨(dep_need ho.1 ho.2 hn ih1).congr fun st hs => (hv st hs).symm, fun st hs => ?_⟩
      rw [byL, sl, if_pos hn, if_pos hn, hv st hs, val_one ho.1 ho.2 h (sl r L) hs, ← one_mul]
      exact one_congr ho.1 hs fun x hx => ih2 x hx
theorem sl_sub : ∀ {ps : List St} {L : Int}, ∀ s ∈ sl ps L, s ∈ ps
  | [], _, s, h => by simp [sl] at h
  | t :: r, L, s, h => by
    rw [sl] at h
    split at h
    · rcases List.mem_cons.1 h with rfl | h
      · exact List.mem_cons_self
      · exact List.mem_cons_of_mem _ (sl_sub s h)
    · exact List.mem_cons_of_mem _ (sl_sub s h)
theorem sl_len : ∀ (ps : List St) (L : Int), (sl ps L).length ≤ ps.length
  | [], _ => by simp [sl]
  | s :: r, L => by
    have := sl_len r L
    rw [sl]
    split
    · rw [List.length_cons, List.length_cons]; omega
    · rw [List.length_cons]; omega
theorem sl_plain {ps : List St} {L : Int} (h : plainOk ps = true) : plainOk (sl ps L) = true := by
  obtain ⟨h1, h2⟩ := plain_iff.1 h
  exact plain_iff.2 ⟨Nat.le_trans (sl_len ps L) h1, fun s hs => h2 s (sl_sub s hs)⟩
end Go.Proofs.Ytkibkmheomlafaa
