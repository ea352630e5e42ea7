/- Slopes, plain: what the chapter's functions tell. -/
import Derived.Test.YtbndonfpdioibaaS2
namespace Go.Proofs.Ytbndonfpdioibaa
set_option maxRecDepth 100000
set_option linter.unusedVariables false
open Go.RowKit

/-- Whether there is a statement with weights at an index. -/
def wAt (os : List St) (a : Int) : Bool := inB a 0 ((os.length : Int) - 1) && ((os[a.toNat]?).map St.hasW).getD false
theorem wAt_iff {os : List St} {a : Int} : wAt os a = true ↔ ∃ (k : Nat) (t : St), a = (k : Int) ∧ os[k]? = some t ∧ t.hasW = true := by
  unfold wAt
  rw [Bool.and_eq_true]
  constructor
  · rintro ⟨h1, h2⟩
    have hb := inB_iff.1 h1
    refine ⟨a.toNat, ?_⟩
    cases hq : os[a.toNat]? with
    | none =>
      rw [hq] at h2
      cases h2
    | some t =>
      rw [hq] at h2
      exact ⟨t, by omega, rfl, h2⟩
  · rintro ⟨k, t, rfl, h1, h2⟩
    have hl := (List.getElem?_eq_some_iff.1 h1).1
    rw [Int.toNat_natCast, h1]
    exact ⟨inB_iff.2 (by omega), h2⟩
/-- SlopeOf: whether, and what. -/
def slOk (ps : List St) (a v : Int) : Bool := match unrolled ps with
  | none => false
  | some os => wAt os a && inB v 0 2
def slOf (ps : List St) (a v : Int) : List Int := match unrolled ps with
  | none => []
  | some os => if (wAt os a && inB v 0 2) = true then slopesL os a.toNat v else []
theorem slOf_len (ps : List St) (a v : Int) : (slOf ps a v).length ≤ 81 := by
  unfold slOf
  cases unrolled ps with
  | none => exact Nat.zero_le _
  | some os =>
    dsimp only
    split
    · rw [slopesL_len]; exact Nat.le_refl _
    · exact Nat.zero_le _
/-- WithMore: the unrolled statements with one more of a weight. -/
def moreL (os : List St) (a : Nat) (v : Int) : List St := match os[a]? with
  | none => os
  | some t => os.set a (t.more v)
def moreOk (ps : List St) (a v : Int) : Bool := match unrolled ps with
  | none => false
  | some os => (wAt os a && inB v 0 2) && (unrolled (moreL os a.toNat v)).isSome
def moreOf (ps : List St) (a v : Int) : List St := match unrolled ps with
  | none => []
  | some os => if ((wAt os a && inB v 0 2) && (unrolled (moreL os a.toNat v)).isSome) = true then moreL os a.toNat v else []
theorem more_loops {os : List St} (h : ∀ s ∈ os, s.notLoop = true) (a : Nat) (v : Int) : ∀ s ∈ moreL os a v, s.notLoop = true := by
  unfold moreL
  cases hq : os[a]? with
  | none => exact h
  | some t =>
    intro s hs
    rcases List.mem_or_eq_of_mem_set hs with h1 | rfl
    · exact h s h1
    · exact h t (List.mem_of_getElem? hq)
/-- What the law asks: with one more of a weight, weights grow by its slope. -/
theorem more_facts {ps os : List St} {a v : Int} (hu : unrolled ps = some os) (h : moreOk ps a v = true) : slOk ps a v = true ∧ ∀ q, q < 81 → ∃ x y, (weightsFrom ps 0)[q]? = some x ∧ (slOf ps a v)[q]? = some y ∧ (weightsFrom (moreOf ps a v) 0)[q]? = some (x + y) := by
  unfold moreOk at h
  rw [hu] at h
  dsimp only at h
  have h0 := h
  rw [Bool.and_eq_true] at h
  obtain ⟨h1, h2⟩ := h
  have h3 := h1
  rw [Bool.and_eq_true] at h3
  obtain ⟨k, t, rfl, ht, hw⟩ := wAt_iff.1 h3.1
  have hv := inB_iff.1 h3.2
  obtain ⟨_, _, _, hnl, hok⟩ := unrolled_parts hu
  have e1 : slOf ps (k : Int) v = slopesL os k v := by
    unfold slOf
    rw [hu]
    dsimp only
    rw [if_pos h1, Int.toNat_natCast]
  have e2 : moreOf ps (k : Int) v = os.set k (t.more v) := by
    unfold moreOf
    rw [hu]
    dsimp only
    rw [if_pos h0, Int.toNat_natCast]
    unfold moreL
    rw [ht]
  have e3 : unrolled (os.set k (t.more v)) = some (os.set k (t.more v)) := by
    have q : moreL os (k : Int).toNat v = os.set k (t.more v) := by
      unfold moreL
      rw [Int.toNat_natCast, ht]
    have hn : ∀ s ∈ os.set k (t.more v), s.notLoop = true := by rw [← q]; exact more_loops (fun s hs => hnl s hs) _ _
    rw [q, unrolled_same hn] at h2
    rw [unrolled_same hn]
    split at h2
    · rename_i h4
      rw [if_pos h4]
    · cases h2
  refine ⟨by unfold slOk; rw [hu]; exact h1, fun q hq => ⟨valAt (ind q) os 0 0, gro v (ind q) os 0 k 0, ?_, by rw [e1]; exact slopesL_at os k v hq, ?_⟩⟩
  · unfold weightsFrom
    rw [hu]
    dsimp only
    rw [if_pos (by decide)]
    unfold wts
    rw [List.getElem?_map, List.getElem?_range hq]
    rfl
  · rw [e2]
    unfold weightsFrom
    rw [e3]
    dsimp only
    rw [if_pos (by decide)]
    exact more_wts (fun s hs => List.all_eq_true.1 hok s hs) ht hw ⟨hv.1, hv.2⟩ hq
theorem hasW_nn {s : St} (h : s.ok = true) (hw : s.hasW = true) : 0 ≤ s.u ∧ 0 ≤ s.v ∧ 0 ≤ s.x := by
  obtain ⟨k, a, b, c, u, v, x⟩ := s
  have hk := inB_iff.1 hw
  dsimp only at hk ⊢
  have key : wOk u v x = true → 0 ≤ u ∧ 0 ≤ v ∧ 0 ≤ x := fun q => by
    unfold wOk at q
    simp [inB_iff] at q
    omega
  obtain rfl | rfl | rfl | rfl : k = 2 ∨ k = 3 ∨ k = 4 ∨ k = 5 := by omega
  · rw [ok_2] at h; simp at h; exact key h.2
  · rw [ok_3] at h; simp at h; exact key h.2
  · rw [ok_4] at h; simp at h; exact key h.2
  · rw [ok_5] at h; simp at h; exact key h.2
/-- UsesOf and PassedOver. -/
def usOf (ps : List St) (a : Int) : List Int := match unrolled ps with
  | none => []
  | some os => match os[a.toNat]? with
    | none => []
    | some t => if wAt os a = true then usesL os a.toNat t else []
def usOk (ps : List St) (a : Int) : Bool := match unrolled ps with
  | none => false
  | some os => wAt os a
def ovOf (ps : List St) (a : Int) : Int := match unrolled ps with
  | none => -1
  | some os => if wAt os a = true then overN os a.toNat else -1
/-- What the law asks: a statement is done with one of its weights, or passed over. -/
theorem us_facts {ps : List St} {a : Int} (h : usOk ps a = true) : (usOf ps a).length = 3 ∧ 0 ≤ ovOf ps a ∧ isum (usOf ps a) + ovOf ps a = totalOf ps ∧ (plainOk ps = true → ovOf ps a = 0) ∧ (∀ x ∈ usOf ps a, 0 ≤ x) := by
  unfold usOk at h
  cases hu : unrolled ps with
  | none => rw [hu] at h; cases h
  | some os =>
    rw [hu] at h
    dsimp only at h
    obtain ⟨k, t, rfl, ht, hw⟩ := wAt_iff.1 h
    obtain ⟨_, _, _, hnl, hok⟩ := unrolled_parts hu
    have hok' : ∀ s ∈ os, s.ok = true := fun s hs => List.all_eq_true.1 hok s hs
    have e1 : usOf ps (k : Int) = usesL os k t := by
      unfold usOf
      rw [hu]
      dsimp only
      rw [Int.toNat_natCast, ht]
      dsimp only
      rw [if_pos h]
    have e2 : ovOf ps (k : Int) = overN os k := by
      unfold ovOf
      rw [hu]
      dsimp only
      rw [if_pos h, Int.toNat_natCast]
    have e3 : totalOf ps = valAt (fun _ => 1) os 0 0 := by
      unfold totalOf
      rw [hu]
    rw [e1, e2, e3]
    refine ⟨rfl, over_bd hok' k, ?_, fun hp => ?_, fun x hx => ?_⟩
    · rw [uses_dov hok' ht hw]
      unfold overN
      omega
    · have hself : os = ps := by
        have h6 : ∀ s ∈ ps, s.notLoop = true := fun s hs => by
          unfold plainOk at hp
          rw [Bool.and_eq_true] at hp
          have := List.all_eq_true.1 hp.2 s hs
          unfold St.low at this
          have := of_decide_eq_true this
          unfold St.notLoop
          simp
          omega
        rw [unrolled_same h6] at hu
        split at hu
        · exact (Option.some.inj hu).symm
        · cases hu
      refine over_plain (fun s hs => ?_) (List.getElem?_eq_some_iff.1 ht).1
      rw [hself] at hs
      unfold plainOk at hp
      rw [Bool.and_eq_true] at hp
      exact of_decide_eq_true (List.all_eq_true.1 hp.2 s hs)
    · have hz := fun c => isum_nnS (slopes_nonneg hok' k c)
      have hb := hok' t (List.mem_of_getElem? ht)
      have h8 := hasW_nn hb hw
      unfold usesL at hx
      simp only [List.mem_cons, List.not_mem_nil, or_false] at hx
      rcases hx with rfl | rfl | rfl
      · exact Int.mul_nonneg (hz 0) (by omega)
      · exact Int.mul_nonneg (hz 1) (by omega)
      · exact Int.mul_nonneg (hz 2) (by omega)
/-- The first of the greatest. -/
def bestBy {α : Type} (f : α → Int) (l : List α) : Option α := l.foldl (fun b c => match b with
  | none => some c
  | some x => if f x < f c then some c else some x) none
theorem bestBy_snoc {α : Type} (f : α → Int) (l : List α) (c : α) : bestBy f (l ++ [c]) = match bestBy f l with
    | none => some c
    | some x => if f x < f c then some c else some x := by
  unfold bestBy
  rw [List.foldl_append]
  rfl
theorem bestBy_max {α : Type} (f : α → Int) (l : List α) : (bestBy f l = none ↔ l = []) ∧ ∀ x, bestBy f l = some x → x ∈ l ∧ ∀ c ∈ l, f c ≤ f x := by
  have key : ∀ k, k ≤ l.length → (bestBy f (l.take k) = none ↔ l.take k = []) ∧ ∀ x, bestBy f (l.take k) = some x → x ∈ l.take k ∧ ∀ c ∈ l.take k, f c ≤ f x := by
    intro k
    induction k with
    | zero => exact fun _ => ⟨⟨fun _ => by simp, fun _ => by simp [bestBy]⟩, fun x h => by simp [bestBy] at h⟩
    | succ k ih =>
      intro hk
      obtain ⟨i1, i2⟩ := ih (by omega)
      have e : l.take (k + 1) = l.take k ++ [l[k]'(by omega)] := List.take_succ_eq_append_getElem (by omega)
      generalize l[k]'(by omega) = c at e
      generalize l.take k = m at *
      rw [e, bestBy_snoc]
      cases hb : bestBy f m with
      | none =>
        obtain rfl := i1.1 hb
        exact ⟨⟨fun h => (by cases h), fun h => (by simp at h)⟩, fun x h => by
          obtain rfl := Option.some.inj h
          exact ⟨by simp, fun d hd => by simp at hd; rw [hd]; exact Int.le_refl _⟩⟩
      | some y =>
        obtain ⟨j1, j2⟩ := i2 y hb
        dsimp only
        split
        · rename_i hlt
          refine ⟨⟨fun h => (by cases h), fun h => (by simp at h)⟩, fun x h => ?_⟩
          obtain rfl := Option.some.inj h
          refine ⟨by simp, fun d hd => ?_⟩
          rcases List.mem_append.1 hd with hd | hd
          · have := j2 d hd; omega
          · simp at hd; rw [hd]; exact Int.le_refl _
        · rename_i hlt
          refine ⟨⟨fun h => (by cases h), fun h => (by simp at h)⟩, fun x h => ?_⟩
          obtain rfl := Option.some.inj h
          refine ⟨List.mem_append.2 (.inl j1), fun d hd => ?_⟩
          rcases List.mem_append.1 hd with hd | hd
          · exact j2 d hd
          · simp at hd; rw [hd]; omega
  have := key l.length (Nat.le_refl _)
  rwa [List.take_of_length_le (Nat.le_refl _)] at this
/-- The places and values that have a slope, in order. -/
def cands (os : List St) (k : Nat) : List (Nat × Nat) := (List.range k).flatMap fun (i : Nat) => if wAt os (i : Int) = true then [(i, 0), (i, 1), (i, 2)] else []
theorem cands_succ (os : List St) (k : Nat) : cands os (k + 1) = cands os k ++ if wAt os (k : Int) = true then [(k, 0), (k, 1), (k, 2)] else [] := by
  unfold cands
  rw [List.range_succ, List.flatMap_append]
  simp
theorem cands_mem {os : List St} {i v : Nat} : (i, v) ∈ cands os os.length ↔ wAt os (i : Int) = true ∧ v < 3 := by
  unfold cands
  rw [List.mem_flatMap]
  constructor
  · rintro ⟨j, _, hm⟩
    split at hm
    · rename_i hw
      simp at hm
      rcases hm with ⟨rfl, rfl⟩ | ⟨rfl, rfl⟩ | ⟨rfl, rfl⟩
      all_goals exact ⟨hw, by decide⟩
    · cases hm
  · rintro ⟨hw, hv⟩
    obtain ⟨k, t, hk, ht, _⟩ := wAt_iff.1 hw
    have hl := (List.getElem?_eq_some_iff.1 ht).1
    obtain rfl : i = k := by omega
    refine ⟨i, List.mem_range.2 hl, ?_⟩
    rw [if_pos hw]
    obtain rfl | rfl | rfl : v = 0 ∨ v = 1 ∨ v = 2 := by omega
    all_goals simp
def stp (os : List St) (c : Nat × Nat) : Int := isum (slopesL os c.1 (c.2 : Int))
def steepOf (ps : List St) : Option (Nat × Nat) := (unrolled ps).bind fun os => bestBy (stp os) (cands os os.length)
end Go.Proofs.Ytbndonfpdioibaa
