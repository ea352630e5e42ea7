/- Values backward: what is worth where runs lead; plain functions. -/
import Derived.Test.YtbndonfpdioibaaLiv
namespace Go.Proofs.Ytbndonfpdioibaa
set_option maxRecDepth 100000
set_option linter.unusedVariables false

/-- How many values a statement draws from. -/
def St.many (s : St) : Nat := if s.draws then 3 else 1
theorem many_le (s : St) : s.many ≤ 3 := by unfold St.many; split <;> omega
theorem many_pos (s : St) : 1 ≤ s.many := by unfold St.many; split <;> omega
/-- A run that is at the end at the most. -/
def clp (m : Nat) (r : Rn) : Rn := ⟨min r.pos m, r.st, r.wt⟩
/-- The runs that come of one. -/
def prt (m : Nat) (s : St) (r : Rn) : List Rn := (List.range s.many).map fun (d : Nat) => clp m (Rn.step s r d)
theorem prt_length (m : Nat) (s : St) (r : Rn) : (prt m s r).length = s.many := by simp [prt]
theorem prt_at {m : Nat} {s : St} {r : Rn} {d : Nat} (h : d < s.many) : (prt m s r)[d]? = some (clp m (Rn.step s r d)) := by
  unfold prt
  rw [List.getElem?_map, List.getElem?_range h]; rfl
theorem mem_prt {m : Nat} {s : St} {r p : Rn} (h : p ∈ prt m s r) : ∃ d : Nat, d < s.many ∧ p = clp m (Rn.step s r d) := by
  unfold prt at h
  obtain ⟨d, hd, rfl⟩ := List.mem_map.1 h
  exact ⟨d, List.mem_range.1 hd, rfl⟩

/-- What runs are worth together. -/
def wsum (g : Nat → Int → Int) : List Rn → Int
  | [] => 0
  | r :: t => r.wt * g r.pos r.st + wsum g t
theorem wsum_congr {g g' : Nat → Int → Int} : ∀ {l : List Rn}, (∀ r ∈ l, r.wt * g r.pos r.st = r.wt * g' r.pos r.st) → wsum g l = wsum g' l
  | [], _ => rfl
  | r :: t, h => by rw [wsum, wsum, h r List.mem_cons_self, wsum_congr fun p hp => h p (List.mem_cons_of_mem _ hp)]
theorem wsum_append (g : Nat → Int → Int) : ∀ (a b : List Rn), wsum g (a ++ b) = wsum g a + wsum g b
  | [], b => by simp [wsum]
  | r :: t, b => by rw [List.cons_append, wsum, wsum, wsum_append g t b]; omega
theorem wsum_take {g : Nat → Int → Int} {l : List Rn} {k : Nat} {r : Rn} (h : l[k]? = some r) : wsum g (l.take (k + 1)) = wsum g (l.take k) + r.wt * g r.pos r.st := by
  rw [List.take_add_one, h, wsum_append]; simp [wsum]
theorem wsum_bd {g : Nat → Int → Int} {X : Int} : ∀ {l : List Rn}, (∀ r ∈ l, 0 ≤ r.wt * g r.pos r.st ∧ r.wt * g r.pos r.st ≤ X) → 0 ≤ wsum g l ∧ wsum g l ≤ l.length * X
  | [], _ => by simp [wsum]
  | r :: t, h => by
    have h1 := h r List.mem_cons_self
    have h2 := wsum_bd (fun p hp => h p (List.mem_cons_of_mem r hp))
    rw [wsum, List.length_cons]
    have : ((t.length + 1 : Nat) : Int) * X = t.length * X + X := by rw [Int.natCast_add, Int.add_mul]; simp
    rw [this]; omega
theorem wsum_val (h : Int → Int) {os : List St} {i : Nat} {s : St} {st : Int} (hs : os[i]? = some s) : wsum (valAt h os) (prt os.length s ⟨i, st, 1⟩) = valAt h os i st := by
  have hc : ∀ (d : Int), (clp os.length (Rn.step s ⟨i, st, 1⟩ d)).wt * valAt h os (clp os.length (Rn.step s ⟨i, st, 1⟩ d)).pos (clp os.length (Rn.step s ⟨i, st, 1⟩ d)).st = s.fac (s.next st d) * valAt h os (i + 1 + s.jump st) (s.next st d) := fun d => by
    show (1 * s.fac (s.next st d)) * valAt h os (min (i + 1 + s.jump st) os.length) (s.next st d) = _
    rw [valAt_min, Int.one_mul]
  have hL : prt os.length s ⟨i, st, 1⟩ = if s.draws then [clp os.length (Rn.step s ⟨i, st, 1⟩ 0), clp os.length (Rn.step s ⟨i, st, 1⟩ 1), clp os.length (Rn.step s ⟨i, st, 1⟩ 2)] else [clp os.length (Rn.step s ⟨i, st, 1⟩ 0)] := by
    unfold prt St.many
    cases s.draws <;> rfl
  rw [hL]
  cases hd : s.draws
  · rw [if_neg (by simp), wsum, wsum, hc, valAt_own hs hd]; omega
  · rw [if_pos rfl, wsum, wsum, wsum, wsum, hc, hc, hc, valAt_draw hs hd, jump_draw hd]; simp only [Nat.add_zero]; omega

/-- What is worth ahead of a place where runs lead, 0 elsewhere. -/
def Rw (h : Int → Int) (os : List St) (led : Nat → Int → Bool) (i : Nat) (st : Int) : Int := if os.length ≤ i then h st else if led i st then valAt h os i st else 0
/-- Whither runs lead from a place is whole. -/
def Cl (os : List St) (led : Nat → Int → Bool) (i : Nat) : Prop := ∀ s, os[i]? = some s → ∀ st, 0 ≤ st ∧ st ≤ 80 → led i st = true → ∀ r ∈ prt os.length s ⟨i, st, 1⟩, r.wt ≠ 0 → led r.pos r.st = true
theorem worth_led {h : Int → Int} {os : List St} {led : Nat → Int → Bool} {i : Nat} {s : St} {st : Int} (hs : os[i]? = some s) (hst : 0 ≤ st ∧ st ≤ 80) (hc : Cl os led i) (hl : led i st = true) : wsum (Rw h os led) (prt os.length s ⟨i, st, 1⟩) = valAt h os i st := by
  rw [← wsum_val h hs]
  refine wsum_congr fun r hr => ?_
  by_cases h0 : r.wt = 0
  · rw [h0, Int.zero_mul, Int.zero_mul]
  · have := hc s hs st hst hl r hr h0
    unfold Rw
    rw [this]
    split
    · rename_i hle
      rw [valAt_end hle]
    · rfl
theorem valAt_bd {h : Int → Int} {H : Int} {os : List St} {i : Nat} {st : Int} (hH : ∀ st, 0 ≤ st → st ≤ 80 → 0 ≤ h st ∧ h st ≤ H) (h0 : 0 ≤ H) (hok : ∀ s ∈ os, s.ok = true) (hst : 0 ≤ st ∧ st ≤ 80) : 0 ≤ valAt h os i st ∧ valAt h os i st ≤ H * 27 ^ (os.length - i) := by
  have := val_bd h H hH h0 (os.drop i) 0 st (fun s hs => hok s (List.mem_of_mem_drop hs)) hst
  rwa [List.length_drop] at this
theorem Rw_bd {h : Int → Int} {H : Int} {os : List St} {led : Nat → Int → Bool} {i : Nat} {st : Int} (hH : ∀ st, 0 ≤ st → st ≤ 80 → 0 ≤ h st ∧ h st ≤ H) (h0 : 0 ≤ H) (hok : ∀ s ∈ os, s.ok = true) (hst : 0 ≤ st ∧ st ≤ 80) : 0 ≤ Rw h os led i st ∧ Rw h os led i st ≤ H * 27 ^ (os.length - i) := by
  have hv := valAt_bd (i := i) hH h0 hok hst
  unfold Rw
  split
  · rename_i hle
    rwa [valAt_end hle] at hv
  · split
    · exact hv
    · omega

theorem with_with {st v a b : Int} (hs : 0 ≤ st ∧ st ≤ 80) (hv : 0 ≤ v ∧ v ≤ 3) (ha : 0 ≤ a ∧ a ≤ 2) (hb : 0 ≤ b ∧ b ≤ 2) : withValue (withValue st v a) v b = withValue st v b := by
  have h2 := with_bd hs hv ha
  obtain ⟨e1, f1⟩ := valueAt_with hs hv ha
  obtain ⟨e2, f2⟩ := valueAt_with hs hv hb
  obtain ⟨e3, f3⟩ := valueAt_with h2 hv hb
  refine agree_all (with_bd h2 hv hb) (with_bd hs hv hb) fun i hi _ => ?_
  by_cases h : (i : Int) = v
  · rw [h, e2, e3]
  · rw [f3 i (by omega) (by omega) h, f1 i (by omega) (by omega) h, f2 i (by omega) (by omega) h]
theorem with_self {st v : Int} (hs : 0 ≤ st ∧ st ≤ 80) (hv : 0 ≤ v ∧ v ≤ 3) : withValue st v (valueAt st v) = st := by
  have hb := value_bd hs hv
  obtain ⟨e2, f2⟩ := valueAt_with hs hv hb
  refine agree_all (with_bd hs hv hb) hs fun i hi _ => ?_
  by_cases h : (i : Int) = v
  · rw [h, e2]
  · rw [f2 i (by omega) (by omega) h]
theorem next_three {s : St} {st x : Int} (h : s.ok = true) (hs : 0 ≤ st ∧ st ≤ 80) (hx : 0 ≤ x ∧ x ≤ 2) : withValue (s.next st x) s.a 0 = withValue st s.a 0 := by
  obtain ⟨k, a, b, c, u, v, y⟩ := s
  have hr := ok_rng h
  unfold St.next
  dsimp only
  split
  · exact with_with hs (by omega) (by omega) (by decide)
  · split
    · exact with_with hs (by omega) (by omega) (by decide)
    · split
      · exact with_with hs (by omega) hx (by decide)
      · rfl

/-- A row between two, by the least state of three that differ in a variable. -/
def mix (R0 R1 : Int → Int) (v z st : Int) : Int := if withValue st v 0 < z then R1 st else R0 st
theorem mix_start {R0 R1 : Int → Int} {v st : Int} (hv : 0 ≤ v ∧ v ≤ 3) (hs : 0 ≤ st ∧ st ≤ 80) : mix R0 R1 v 0 st = R0 st := by
  have := with_bd hs hv (x := 0) (by decide)
  exact if_neg (by omega)
theorem mix_done {R0 R1 : Int → Int} {v st : Int} (hv : 0 ≤ v ∧ v ≤ 3) (hs : 0 ≤ st ∧ st ≤ 80) : mix R0 R1 v 81 st = R1 st := by
  have := with_bd hs hv (x := 0) (by decide)
  exact if_pos (by omega)
theorem mix_pass {R0 R1 : Int → Int} {v z st : Int} (hv : 0 ≤ v ∧ v ≤ 3) (hs : 0 ≤ st ∧ st ≤ 80) (hz : valueAt z v ≠ 0) : mix R0 R1 v (z + 1) st = mix R0 R1 v z st := by
  have h1 := (valueAt_with hs hv (x := 0) (by decide)).1
  have : withValue st v 0 ≠ z := fun e => hz (by rw [← e, h1])
  unfold mix
  by_cases h : withValue st v 0 < z
  · rw [if_pos h, if_pos (by omega)]
  · rw [if_neg h, if_neg (by omega)]
/-- The row with some of three states done. -/
def mix3 (R0 R1 : Int → Int) (v z : Int) (k : Nat) (st : Int) : Int := if withValue st v 0 = z ∧ valueAt st v < k then R1 st else mix R0 R1 v z st
theorem mix3_start {R0 R1 : Int → Int} {v z st : Int} (hv : 0 ≤ v ∧ v ≤ 3) (hs : 0 ≤ st ∧ st ≤ 80) : mix3 R0 R1 v z 0 st = mix R0 R1 v z st := by
  have := value_bd hs hv
  exact if_neg (by omega)
theorem mix3_done {R0 R1 : Int → Int} {v z st : Int} (hv : 0 ≤ v ∧ v ≤ 3) (hs : 0 ≤ st ∧ st ≤ 80) : mix3 R0 R1 v z 3 st = mix R0 R1 v (z + 1) st := by
  have := value_bd hs hv
  unfold mix3 mix
  by_cases h : withValue st v 0 = z
  · rw [if_pos ⟨h, by omega⟩, if_pos (by omega)]
  · rw [if_neg (fun e => h e.1)]
    by_cases h2 : withValue st v 0 < z
    · rw [if_pos h2, if_pos (by omega)]
    · rw [if_neg h2, if_neg (by omega)]
/-- The cells of a row that has a number for each state. -/
def RowA (cs : Array Value) (g : Int → Int) : Prop := cs.size = 81 ∧ ∀ q : Nat, q < 81 → cs[q]? = some (.int .i64 (g q))
theorem RowA.congr {cs : Array Value} {g g' : Int → Int} (h : RowA cs g) (e : ∀ st, 0 ≤ st ∧ st ≤ 80 → g st = g' st) : RowA cs g' := ⟨h.1, fun q hq => by rw [← e q (by omega)]; exact h.2 q hq⟩
theorem RowA.step3 {cs : Array Value} {R0 R1 : Int → Int} {v z : Int} {k : Nat} (h : RowA cs (mix3 R0 R1 v z k)) (hv : 0 ≤ v ∧ v ≤ 3) (hz : 0 ≤ z ∧ z ≤ 80) (hz0 : valueAt z v = 0) (hk : k < 3) :
    RowA (cs.setIfInBounds (withValue z v k).toNat (.int .i64 (R1 (withValue z v k)))) (mix3 R0 R1 v z (k + 1)) := by
  have hw := with_bd hz hv (x := (k : Int)) (by omega)
  have hvk := (valueAt_with hz hv (x := (k : Int)) (by omega)).1
  have h0 : withValue (withValue z v k) v 0 = z := by
    rw [with_with hz hv (by omega) (by decide)]
    have := with_self hz hv
    rwa [hz0] at this
  refine ⟨by rw [Array.size_setIfInBounds]; exact h.1, fun q hq => ?_⟩
  rw [Array.getElem?_setIfInBounds]
  have hqb : (0 : Int) ≤ (q : Int) ∧ (q : Int) ≤ 80 := by omega
  by_cases hqk : (withValue z v k).toNat = q
  · have e : withValue z v k = (q : Int) := by omega
    rw [if_pos hqk, if_pos (by rw [h.1]; omega)]
    rw [e] at h0 hvk ⊢
    unfold mix3
    rw [if_pos ⟨h0, by omega⟩]
  · rw [if_neg hqk, h.2 q hq]
    congr 2
    unfold mix3
    have hne : ¬ (withValue (q : Int) v 0 = z ∧ valueAt q v = k) := by
      rintro ⟨e1, e2⟩
      apply hqk
      rw [← e1, with_with hqb hv (by decide) (by omega), ← e2, with_self hqb hv]
      omega
    by_cases hz : withValue (q : Int) v 0 = z
    · have : valueAt (q : Int) v ≠ k := fun e => hne ⟨hz, e⟩
      by_cases hl : valueAt (q : Int) v < k
      · rw [if_pos ⟨hz, hl⟩, if_pos ⟨hz, by omega⟩]
      · rw [if_neg (fun e => hl e.2), if_neg (fun e => by have := e.2; omega)]
    · rw [if_neg (fun e => hz e.1), if_neg (fun e => hz e.1)]

/-- A skip leads to a place. -/
def skipTo (os : List St) (j : Nat) : Bool := (List.range os.length).any fun i => match os[i]? with
  | some s => s.k == 6 && min (i + 1 + s.b.toNat) os.length == j
  | none => false
theorem skipTo_of {os : List St} {i j : Nat} {s : St} (h : os[i]? = some s) (h6 : s.k = 6) (hj : min (i + 1 + s.b.toNat) os.length = j) : skipTo os j = true := by
  have hl := (List.getElem?_eq_some_iff.1 h).1
  refine List.any_eq_true.2 ⟨i, List.mem_range.2 hl, ?_⟩
  rw [h]
  simp [h6, hj]
end Go.Proofs.Ytbndonfpdioibaa
