/- Slopes, plain: how much weights grow does not hang on variables that are over; what the sweep's fronts tell of it. -/
import Derived.Test.YtbndonfpdioibaaS2
import Derived.Test.YtbndonfpdioibaaSwm
namespace Go.Proofs.Ytbndonfpdioibaa
set_option maxRecDepth 100000
set_option linter.unusedVariables false
open Go.RowKit

/-- A statement with another weight. -/
def St.wset (s : St) (c y : Int) : St := ⟨s.k, s.a, s.b, s.c, if c = 0 then y else s.u, if c = 1 then y else s.v, if c = 2 then y else s.x⟩
theorem wOk_set {u v x c y : Int} (h : wOk u v x = true) (hc : 0 ≤ c ∧ c ≤ 2) (hy : 1 ≤ y ∧ y ≤ 9) : wOk (if c = 0 then y else u) (if c = 1 then y else v) (if c = 2 then y else x) = true := by
  unfold wOk at h ⊢
  obtain rfl | rfl | rfl : c = 0 ∨ c = 1 ∨ c = 2 := by omega
  all_goals
    simp [inB_iff] at h ⊢
    omega
theorem wset_ok {s : St} (h : s.ok = true) (hw : s.hasW = true) {c y : Int} (hc : 0 ≤ c ∧ c ≤ 2) (hy : 1 ≤ y ∧ y ≤ 9) : (s.wset c y).ok = true := by
  obtain ⟨k, a, b, d, u, v, x⟩ := s
  have hk := inB_iff.1 hw
  dsimp only at hk
  have key := fun q : wOk u v x = true => wOk_set q hc hy
  unfold St.wset
  dsimp only
  generalize (if c = 0 then y else u) = u' at key ⊢
  generalize (if c = 1 then y else v) = v' at key ⊢
  generalize (if c = 2 then y else x) = x' at key ⊢
  obtain rfl | rfl | rfl | rfl : k = 2 ∨ k = 3 ∨ k = 4 ∨ k = 5 := by omega
  · rw [ok_2] at h ⊢; simp at h ⊢; exact ⟨h.1, key h.2⟩
  · rw [ok_3] at h ⊢; simp at h ⊢; exact ⟨h.1, key h.2⟩
  · rw [ok_4] at h ⊢; simp at h ⊢; exact ⟨h.1, key h.2⟩
  · rw [ok_5] at h ⊢; simp at h ⊢; exact ⟨h.1, key h.2⟩
theorem wset_more {s : St} {c : Int} (hc : 0 ≤ c ∧ c ≤ 2) (y : Int) : (s.wset c y).more c = s.wset c (y + 1) := by
  unfold St.wset St.more
  obtain rfl | rfl | rfl : c = 0 ∨ c = 1 ∨ c = 2 := by omega
  all_goals simp
theorem gro_wset (c : Int) (h : Int → Int) (d y : Int) : ∀ (os : List St) (k a : Nat) {t : St}, os[a]? = some t → ∀ (st : Int), gro c h (os.set a (t.wset d y)) k a st = gro c h os k a st
  | [], k, a, t, ht, _ => by simp at ht
  | s :: r, k + 1, 0, t, ht, st => by
    rw [List.set_cons_zero]
    rfl
  | s :: r, k + 1, a + 1, t, ht, st => by
    rw [List.set_cons_succ]
    exact gro_wset c h d y r k a (by simpa using ht) st
  | s :: r, 0, 0, t, ht, st => by
    obtain rfl : s = t := by simpa using ht
    rw [List.set_cons_zero]
    rfl
  | s :: r, 0, a + 1, t, ht, st => by
    have ih := fun (k : Nat) (y2 : Int) => gro_wset c h d y r k a (t := t) (by simpa using ht) y2
    rw [List.set_cons_succ, gro, gro, ih, ih, ih, ih]
theorem lives_wset (asked : Int) {c y : Int} (hc : 0 ≤ c ∧ c ≤ 2) (hy : 1 ≤ y ∧ y ≤ 9) : ∀ (os : List St) (a : Nat) {t : St}, os[a]? = some t → t.ok = true → t.hasW = true → lives asked (os.set a (t.wset c y)) = lives asked os
  | [], a, t, ht, _, _ => by simp at ht
  | s :: r, 0, t, ht, ho, hw => by
    obtain rfl : s = t := by simpa using ht
    rw [List.set_cons_zero, lives, lives]
    have e := wset_ok ho hw hc hy
    have e1 : (s.wset c y).sets = s.sets := by
      unfold St.sets
      rw [e, ho]
      rfl
    have e2 : (s.wset c y).reads = s.reads := by
      unfold St.reads
      rw [e, ho]
      rfl
    congr 1
    unfold St.live St.ahead
    rw [e1, e2]
    rfl
  | s :: r, a + 1, t, ht, ho, hw => by
    rw [List.set_cons_succ, lives, lives, lives_wset asked hc hy r a (by simpa using ht) ho hw, List.length_set]
/-- How what is worth grows does not hang on variables that are over. -/
theorem gro_live {h : Int → Int} {asked : Int} (hh : Resp asked h) {os : List St} (hok : ∀ s ∈ os, s.ok = true ∧ s.notLoop = true) {a : Nat} {t : St} (ht : os[a]? = some t) (hw : t.hasW = true) {c : Int} (hc : 0 ≤ c ∧ c ≤ 2) {st st' : Int} (hs : 0 ≤ st ∧ st ≤ 80) (hs' : 0 ≤ st' ∧ st' ≤ 80) (hag : agree (liveOf asked os) st st') : gro c h os 0 a st = gro c h os 0 a st' := by
  have hl := (List.getElem?_eq_some_iff.1 ht).1
  obtain ⟨hto, htl⟩ := hok t (List.mem_of_getElem? ht)
  have hall : ∀ y, 1 ≤ y ∧ y ≤ 9 → ∀ s ∈ os.set a (t.wset c y), s.ok = true ∧ s.notLoop = true := fun y hy s hs => by
    rcases List.mem_or_eq_of_mem_set hs with h1 | rfl
    · exact hok s h1
    · exact ⟨wset_ok hto hw hc hy, htl⟩
  have hlv : ∀ y, 1 ≤ y ∧ y ≤ 9 → liveOf asked (os.set a (t.wset c y)) = liveOf asked os := fun y hy => by
    unfold liveOf
    rw [lives_wset asked hc hy os a ht hto hw]
  have e : ∀ x, 0 ≤ x ∧ x ≤ 80 → val h (os.set a (t.wset c 2)) 0 x = val h (os.set a (t.wset c 1)) 0 x + gro c h os 0 a x := fun x hx => by
    have h1 := val_more hc h (os := os.set a (t.wset c 1)) (fun s hs => (hall 1 (by decide) s hs).1) 0 a (t := t.wset c 1) (by rw [List.getElem?_set_self hl]) hw hx
    rw [List.set_set, wset_more hc, gro_wset c h c 1 os 0 a ht] at h1
    exact h1
  have v : ∀ y, 1 ≤ y ∧ y ≤ 9 → val h (os.set a (t.wset c y)) 0 st = val h (os.set a (t.wset c y)) 0 st' := fun y hy =>
    val_live hh _ _ rfl (hall y hy) st st' hs hs' (by rw [hlv y hy]; exact hag)
  have e1 := e st hs
  have e2 := e st' hs'
  rw [v 2 (by decide), v 1 (by decide)] at e1
  omega
theorem groAt_vo {asked : Int} {h : Int → Int} {os : List St} {a j : Nat} {t : St} {c st : Int} (hr : Resp asked h) (hok : ∀ s ∈ os, s.ok = true ∧ s.notLoop = true) (ht : os[a]? = some t) (hw : t.hasW = true) (hc : 0 ≤ c ∧ c ≤ 2) (hj : j ≤ os.length) (hs : 0 ≤ st ∧ st ≤ 80) : groAt c h os a j (vo ((lives asked os).getD j 0) st) = groAt c h os a j st := by
  unfold groAt
  split
  · rename_i hja
    rw [lives_getD asked os j hj]
    refine gro_live hr (fun s hs => hok s (List.mem_of_mem_drop hs)) (t := t) ?_ hw hc (vo_bd hs) hs (vo_agree hs)
    rw [List.getElem?_drop, show j + (a - j) = a by omega]
    exact ht
  · rfl
theorem toF_gro {asked : Int} {h : Int → Int} {os : List St} {i m a : Nat} {t : St} {c : Int} {F : Nat → Fr} {r : Rn} (hm : os.length = m) (hr : Resp asked h) (hok : ∀ s ∈ os, s.ok = true ∧ s.notLoop = true) (ht : os[a]? = some t) (hw : t.hasW = true) (hc : 0 ≤ c ∧ c ≤ 2) (hs : 0 ≤ r.st ∧ r.st ≤ 80) (hi : i + 1 ≤ r.pos) (him : i < m) :
    tailV (groAt c h os a) (toF m (lives asked os) F r) (i + 1) (m - i) = tailV (groAt c h os a) F (i + 1) (m - i) + r.wt * groAt c h os a r.pos r.st := by
  have hl := (List.getElem?_eq_some_iff.1 ht).1
  rw [toF_tail _ hi him, groAt_vo hr hok ht hw hc (by omega) hs, ← hm, groAt_min hl]
theorem fD_gro {asked : Int} {h : Int → Int} {os : List St} {m a : Nat} {t : St} {c : Int} {F : Nat → Fr} {s : St} {r : Rn} (hm : os.length = m) (hr : Resp asked h) (hok : ∀ s ∈ os, s.ok = true ∧ s.notLoop = true) (ht : os[a]? = some t) (hw : t.hasW = true) (hc : 0 ≤ c ∧ c ≤ 2) (hs : 0 ≤ r.st ∧ r.st ≤ 80) (hra : r.pos < a) (hso : os[r.pos]? = some s) :
    tailV (groAt c h os a) (fD m (lives asked os) F s r s.many) (r.pos + 1) (m - r.pos) = tailV (groAt c h os a) F (r.pos + 1) (m - r.pos) + r.wt * groAt c h os a r.pos r.st := by
  have hl := (List.getElem?_eq_some_iff.1 ht).1
  have hsk := (hok s (List.mem_of_getElem? hso)).1
  have key : ∀ (G : Nat → Fr) (d : Nat), d ≤ 2 → tailV (groAt c h os a) (toF m (lives asked os) G (Rn.step s r d)) (r.pos + 1) (m - r.pos) = tailV (groAt c h os a) G (r.pos + 1) (m - r.pos) + r.wt * s.fac (s.next r.st d) * groAt c h os a (r.pos + 1 + s.jump r.st) (s.next r.st d) := fun G d hd =>
    toF_gro hm hr hok ht hw hc (r := Rn.step s r d) (next_bd hsk hs (by omega)) (by have := step_pos s r (d : Int); omega) (by omega)
  have u0 : s.next r.st ((0 : Nat) : Int) = s.next r.st 0 := rfl
  have u1 : s.next r.st ((1 : Nat) : Int) = s.next r.st 1 := rfl
  have u2 : s.next r.st ((2 : Nat) : Int) = s.next r.st 2 := rfl
  unfold St.many
  cases hd : s.draws
  · rw [if_neg (by simp)]
    show tailV _ (toF m (lives asked os) F (Rn.step s r (0 : Nat))) _ _ = _
    rw [key F 0 (by decide), groAt_own hso hd hra, u0, Int.mul_assoc]
  · rw [if_pos rfl]
    show tailV _ (toF m (lives asked os) (toF m (lives asked os) (toF m (lives asked os) F (Rn.step s r (0 : Nat))) (Rn.step s r (1 : Nat))) (Rn.step s r (2 : Nat))) _ _ = _
    have hj : s.jump r.st = 0 := jump_draw hd r.st
    rw [key _ 2 (by decide), key _ 1 (by decide), key _ 0 (by decide), u0, u1, u2, hj, show r.pos + 1 + 0 = r.pos + 1 from rfl, groAt_draw hso hd hra, Int.mul_add, Int.mul_add]
    have a0 := Int.mul_assoc r.wt (s.fac (s.next r.st 0)) (groAt c h os a (r.pos + 1) (s.next r.st 0))
    have a1 := Int.mul_assoc r.wt (s.fac (s.next r.st 1)) (groAt c h os a (r.pos + 1) (s.next r.st 1))
    have a2 := Int.mul_assoc r.wt (s.fac (s.next r.st 2)) (groAt c h os a (r.pos + 1) (s.next r.st 2))
    omega
theorem tailV_over (V : Nat → Int → Int) {F : Nat → Fr} : ∀ (n i : Nat), (∀ j st, i ≤ j → V j st = 0) → tailV V F i n = 0
  | 0, i, _ => rfl
  | n + 1, i, h => by
    have key : ∀ rs : Fr, sumV (V i) rs = 0 := fun rs => by
      rw [sumV_congr (v' := fun _ => 0) (fun p _ => h i p.1 (Nat.le_refl _))]
      induction rs with
      | nil => rfl
      | cons p r ih =>
        obtain ⟨x, y⟩ := p
        rw [sumV, ih]
        omega
    rw [tailV, key, tailV_over V n (i + 1) (fun j st hj => h j st (by omega))]
    rfl
/-- What the fronts tell of slopes while those at i are done; rest: the runs that are still to do there. -/
def Gsx (asked : Int) (h : Int → Int) (os : List St) (m : Nat) (F : Nat → Fr) (i : Nat) (rs : Fr) : Prop :=
  ∀ (a : Nat) (t : St) (c : Int), os[a]? = some t → t.hasW = true → 0 ≤ c ∧ c ≤ 2 →
    (if i < a then sumV (groAt c h os a i) rs + tailV (groAt c h os a) F (i + 1) (m - i) else sumV (groAt c h os a a) (F a)) = groAt c h os a 0 0
theorem Gsx.step {asked : Int} {h : Int → Int} {os : List St} {m : Nat} {F : Nat → Fr} {i : Nat} {st wt : Int} {rs : Fr} {s : St} (hx : Gsx asked h os m F i ((st, wt) :: rs)) (hr : Resp asked h) (hm : os.length = m) (hok : ∀ s ∈ os, s.ok = true ∧ s.notLoop = true) (him : i < m) (hst : 0 ≤ st ∧ st ≤ 80) (hs : os[i]? = some s) :
    Gsx asked h os m (fD m (lives asked os) F s ⟨i, st, wt⟩ s.many) i rs := fun a t c ht hw hc => by
  have h0 := hx a t c ht hw hc
  by_cases hia : i < a
  · rw [if_pos hia] at h0 ⊢
    have h1 := fD_gro (F := F) (r := ⟨i, st, wt⟩) hm hr hok ht hw hc hst hia hs
    have h1' : tailV (groAt c h os a) (fD m (lives asked os) F s ⟨i, st, wt⟩ s.many) (i + 1) (m - i) = tailV (groAt c h os a) F (i + 1) (m - i) + wt * groAt c h os a i st := h1
    rw [sumV] at h0
    rw [h1']
    omega
  · rw [if_neg hia] at h0 ⊢
    rw [fD_le (r := ⟨i, st, wt⟩) him _ a (by show a ≤ i; omega)]
    exact h0
theorem Gsx.next {asked : Int} {h : Int → Int} {os : List St} {m : Nat} {F : Nat → Fr} {i : Nat} (hx : Gsx asked h os m F i []) (him : i < m) : Gsx asked h os m F (i + 1) (F (i + 1)) := fun a t c ht hw hc => by
  have h0 := hx a t c ht hw hc
  by_cases hia : i < a
  · rw [if_pos hia, show m - i = (m - (i + 1)) + 1 by omega, tailV] at h0
    simp only [sumV] at h0
    by_cases h2 : i + 1 < a
    · rw [if_pos h2]
      omega
    · obtain rfl : a = i + 1 := by omega
      rw [if_neg h2]
      rw [tailV_over _ _ _ (fun j st hj => groAt_over c h os (by omega) st)] at h0
      omega
  · rw [if_neg hia] at h0
    rw [if_neg (by omega)]
    exact h0
theorem Gsx.start {asked : Int} {h : Int → Int} {os : List St} {m : Nat} (hr : Resp asked h) (hm : os.length = m) (hok : ∀ s ∈ os, s.ok = true ∧ s.notLoop = true) :
    Gsx asked h os m (toF m (lives asked os) (fun _ => []) ⟨0, 0, 1⟩) 0 (toF m (lives asked os) (fun _ => []) ⟨0, 0, 1⟩ 0) := fun a t c ht hw hc => by
  have e : sumV (groAt c h os a 0) (toF m (lives asked os) (fun _ => []) ⟨0, 0, 1⟩ 0) = groAt c h os a 0 0 := by
    rw [P0.sum, groAt_vo hr hok ht hw hc (Nat.zero_le _) (by decide)]
    simp [sumV]
  by_cases ha : 0 < a
  · rw [if_pos ha, e, tailV_none _ _ (fun t ht => (P0.start.put (st := 0) (wt := 1) (by decide) (by decide)).2 t (by omega)), Int.add_zero]
  · obtain rfl : a = 0 := by omega
    rw [if_neg ha]
    exact e
/-- What the fronts tell of slopes in the end. -/
def Gse (os : List St) (h : Int → Int) (F : Nat → Fr) : Prop := ∀ (a : Nat) (t : St) (c : Int), os[a]? = some t → t.hasW = true → 0 ≤ c ∧ c ≤ 2 → sumV (groAt c h os a a) (F a) = gro c h os 0 a 0
theorem Gsx.done {asked : Int} {h : Int → Int} {os : List St} {m : Nat} {F : Nat → Fr} {rs : Fr} (hx : Gsx asked h os m F m rs) (hm : os.length = m) : Gse os h F := fun a t c ht hw hc => by
  have hl := (List.getElem?_eq_some_iff.1 ht).1
  have h0 := hx a t c ht hw hc
  rw [if_neg (by omega)] at h0
  rw [h0]
  unfold groAt
  rw [if_pos (Nat.zero_le _), List.drop_zero, Nat.sub_zero]
end Go.Proofs.Ytbndonfpdioibaa
