/- Parts of the proof: Swf. -/
import Derived.Deep.AppendLies
import Derived.Deep.RegionLaw
import Derived.StillTailTactics
import Derived.IntWalk
import Derived.Test.YtkggejmamhakaaaZAN
import Derived.Test.YtkggejmamhakaaaZAP
namespace Go.Proofs.Ytkggejmamhakaaa
set_option maxRecDepth 100000
set_option linter.unusedVariables false
/-- States and weights. -/
abbrev Fr := List (Int × Int)
def addR : Fr → Int → Int → Fr
  | [], z, w => [(z, w)]
  | (s, u) :: r, z, w => if s = z then (s, u + w) :: r else (s, u) :: addR r z w
/-- 1 more than the place of a state, or 0. -/
def pos1 : Fr → Int → Nat
  | [], _ => 0
  | (s, _) :: r, z => if s = z then 1 else if pos1 r z = 0 then 0 else pos1 r z + 1
theorem addR_new : ∀ (rs : Fr) (z w : Int), pos1 rs z = 0 → addR rs z w = rs ++ [(z, w)]
  | [], z, w, _ => rfl
  | (s, u) :: r, z, w, h => by
    rw [pos1] at h
    by_cases hs : s = z
    · rw [if_pos hs] at h; cases h
    · rw [if_neg hs] at h
      have h0 : pos1 r z = 0 := by
        by_cases h0 : pos1 r z = 0
        · exact h0
        · rw [if_neg h0] at h; cases h
      rw [addR, if_neg hs, addR_new r z w h0]; rfl
theorem addR_old : ∀ (rs : Fr) (z w : Int) (k : Nat), pos1 rs z = k + 1 → ∃ u, rs[k]? = some (z, u) ∧ addR rs z w = rs.set k (z, u + w)
  | [], z, w, k, h => by simp [pos1] at h
  | (s, u) :: r, z, w, k, h => by
    rw [pos1] at h
    by_cases hs : s = z
    · rw [if_pos hs] at h
      have hk : k = 0 := by omega
      subst hk hs
      exact ⟨u, rfl, by rw [addR, if_pos rfl]; rfl⟩
    · rw [if_neg hs] at h
      by_cases h0 : pos1 r z = 0
      · rw [if_pos h0] at h; cases h
      · rw [if_neg h0] at h
        obtain ⟨j, rfl⟩ : ∃ j, k = j + 1 := ⟨k - 1, by omega⟩
        obtain ⟨u', h1, h2⟩ := addR_old r z w j (by omega)
        exact ⟨u', by simpa using h1, by rw [addR, if_neg hs, h2]; rfl⟩
/-- States and weights that are some, no state twice. -/
def FrOk (rs : Fr) : Prop := (∀ p ∈ rs, (0 ≤ p.1 ∧ p.1 ≤ 80) ∧ 0 < p.2) ∧ (rs.map (·.1)).Nodup
theorem FrOk.nil : FrOk [] := ⟨fun p hp => by simp at hp, by simp⟩
theorem pos1_mem : ∀ {rs : Fr} {z : Int}, pos1 rs z = 0 → z ∉ rs.map (·.1)
  | [], z, _ => by simp
  | (s, u) :: r, z, h => by
    rw [pos1] at h
    have hs : s ≠ z := by
      intro e
      rw [if_pos e] at h; cases h
    rw [if_neg hs] at h
    have h0 : pos1 r z = 0 := by
      by_cases h0 : pos1 r z = 0
      · exact h0
      · rw [if_neg h0] at h; cases h
    have := pos1_mem h0
    simp only [List.map_cons, List.mem_cons, not_or]
    exact ⟨Ne.symm hs, this⟩
theorem FrOk.add {rs : Fr} {z w : Int} (h : FrOk rs) (hz : 0 ≤ z ∧ z ≤ 80) (hw : 0 < w) : FrOk (addR rs z w) := by
  by_cases h0 : pos1 rs z = 0
  · rw [addR_new rs z w h0]
    refine ⟨fun p hp => ?_, ?_⟩
    · rcases List.mem_append.1 hp with hp | hp
      · exact h.1 p hp
      · rw [List.mem_singleton] at hp
        subst hp
        exact ⟨hz, hw⟩
    · rw [List.map_append, List.nodup_append]
      refine ⟨h.2, by simp, fun a ha b hb => ?_⟩
      simp at hb
      subst hb
      rintro rfl
      exact pos1_mem h0 ha
  · obtain ⟨k, hk⟩ : ∃ k, pos1 rs z = k + 1 := ⟨pos1 rs z - 1, by omega⟩
    obtain ⟨u, hu, he⟩ := addR_old rs z w k hk
    rw [he]
    refine ⟨fun p hp => ?_, ?_⟩
    · rcases List.mem_or_eq_of_mem_set hp with hp | hp
      · exact h.1 p hp
      · subst hp
        have := (h.1 _ (List.mem_of_getElem? hu)).2
        have e : 0 < u := this
        exact ⟨hz, by show 0 < u + w; omega⟩
    · have e : (rs.set k (z, u + w)).map (·.1) = rs.map (·.1) := by
        apply List.ext_getElem?
        intro i
        rw [List.getElem?_map, List.getElem?_map, List.getElem?_set]
        split
        · rename_i hi
          subst hi
          rw [hu]
          split
          · rfl
          · rename_i hl
            have := (List.getElem?_eq_some_iff.1 hu).1
            exact absurd this hl
        · rfl
      rw [e]
      exact h.2
theorem filt_ne : ∀ {l : List Int} {a : Int}, l.Nodup → l.length ≤ (l.filter fun x => x != a).length + 1
  | [], a, _ => by simp
  | x :: t, a, h => by
    rw [List.nodup_cons] at h
    rw [List.filter_cons]
    by_cases hx : x = a
    · subst hx
      have : t.filter (fun y => y != x) = t := List.filter_eq_self.2 fun y hy => by
        simp
        rintro rfl
        exact h.1 hy
      rw [if_neg (by simp), this, List.length_cons]
      exact Nat.le_refl _
    · rw [if_pos (by simpa using hx), List.length_cons, List.length_cons]
      have := filt_ne (a := a) h.2
      omega
theorem nodup_len : ∀ (n : Nat) {l : List Int}, l.Nodup → (∀ x ∈ l, 0 ≤ x ∧ x < n) → l.length ≤ n
  | 0, l, _, h => by
    cases l with
    | nil => simp
    | cons x t => have := h x List.mem_cons_self; omega
  | n + 1, l, hn, h => by
    have h1 := filt_ne (a := (n : Int)) hn
    have h2 := nodup_len n (l := l.filter fun x => x != (n : Int)) (List.Nodup.sublist List.filter_sublist hn) (fun x hx => by
      rw [List.mem_filter] at hx
      have := h x hx.1
      have h3 : x ≠ (n : Int) := by simpa using hx.2
      omega)
    omega
theorem FrOk.len {rs : Fr} (h : FrOk rs) : rs.length ≤ 81 := by
  have := nodup_len 81 h.2 (fun x hx => by
    obtain ⟨p, hp, rfl⟩ := List.mem_map.1 hx
    have := (h.1 p hp).1
    omega)
  rwa [List.length_map] at this
end Go.Proofs.Ytkggejmamhakaaa
namespace Go.Proofs.Ytkggejmamhakaaa
set_option maxRecDepth 100000
set_option linter.unusedVariables false
open Go.RowKit
def rns (i : Nat) (rs : Fr) : List Rn := rs.map fun p => ⟨i, p.1, p.2⟩
/-- The cells of fronts: each one's runs, and where the run of each state is. -/
def FrA (cs : Array Value) (vs : Nat → Value) (F : Nat → Fr) (m : Nat) : Prop :=
  cs.size = (m + 1) * 82 ∧ ∀ i, i ≤ m → cs[i * 82]? = some (vs i) ∧ ∀ st : Nat, st < 81 → cs[i * 82 + 1 + st]? = some (.int .i64 (pos1 (F i) st))
def Frs (w : World) (base gf m : Nat) (F : Nat → Fr) (vs : Nat → Value) : Prop :=
  (∃ cs, Has w gf 110 cs ∧ FrA cs vs F m) ∧ (∀ i, i ≤ m → w.ownsRow base 78 3 (vs i) (F i).length (rnflat (rns i (F i)))) ∧ ∀ i j k, i ≤ m → j ≤ m → i ≠ j → (vs i).ownBlock = some k → (vs j).ownBlock ≠ some k
def Swp (w : World) (base g gl gf m : Nat) (A : Option Addr) (c : Nat) (os : List St) (lv : List Int) (F : Nat → Fr) (vs : Nat → Value) : Prop :=
  Has w g 74 #[.slice A m c, .slice (some ⟨gl, 0, none⟩) (m + 1) (m + 1), .slice (some ⟨gf, 0, none⟩) (m + 1) (m + 1)] ∧ w.ownsRow base 63 7 (.slice A m c) m (flat os) ∧ w.ownsRow base 3 1 (.slice (some ⟨gl, 0, none⟩) (m + 1) (m + 1)) (m + 1) (ints lv) ∧ Frs w base gf m F vs ∧ base ≤ g ∧ base ≤ gf
/-- The blocks that a step of a sweep may turn. -/
def SwB (gf m : Nat) (vs : Nat → Value) (i : Nat) : Prop := i = gf ∨ ∃ t, t ≤ m ∧ (vs t).ownBlock = some i
def Swk (w w' : World) (gf m : Nat) (vs vs' : Nat → Value) : Prop := KeptBut w w' (SwB gf m vs) ∧ ∀ t k, t ≤ m → (vs' t).ownBlock = some k → (vs t).ownBlock = some k ∨ w.heap.size ≤ k
theorem Swk.refl (w : World) (gf m : Nat) (vs : Nat → Value) : Swk w w gf m vs vs := ⟨KeptBut.refl _ _, fun t k _ h => .inl h⟩
theorem Swk.below {w w' : World} {gf m : Nat} {vs : Nat → Value} (h : Below w.heap.size w w') : Swk w w' gf m vs vs := ⟨KeptBut.of_below h _, fun t k _ h => .inl h⟩
theorem Swk.trans {a b c : World} {gf m : Nat} {vs vs' vs2 : Nat → Value} (h : Swk a b gf m vs vs') (k : Swk b c gf m vs' vs2) : Swk a c gf m vs vs2 := by
  have hz := h.1.size
  refine ⟨KeptBut.trans h.1 k.1 (fun i hi e => ?_), fun t x ht e => ?_⟩
  · rcases e with e | ⟨t, ht, e⟩
    · exact .inl e
    · rcases h.2 t i ht e with e' | e'
      · exact .inr ⟨t, ht, e'⟩
      · omega
  · rcases k.2 t x ht e with e' | e'
    · exact h.2 t x ht e'
    · exact .inr (by omega)
theorem Swp.has_ne {w : World} {base g gl gf m c : Nat} {A : Option Addr} {os : List St} {lv : List Int} {F : Nat → Fr} {vs : Nat → Value} (h : Swp w base g gl gf m A c os lv F vs) {i : Nat} {t : TypeId} {cs : Array Value} (hi : Has w i t cs) (h1 : t ≠ 110) (h2 : t ≠ 78) : ¬ SwB gf m vs i := by
  rintro (rfl | ⟨u, hu, e⟩)
  · obtain ⟨cs', hc, _⟩ := h.2.2.2.1.1
    exact Go.Proofs.Ytkggejmamhakaaa.has_ne hi hc h1 rfl
  · obtain ⟨cs', hc⟩ := owns_has (h.2.2.2.1.2.1 u hu) e
    exact Go.Proofs.Ytkggejmamhakaaa.has_ne hi hc h2 rfl
theorem Swp.kept {w w' : World} {base g gl gf m c : Nat} {A : Option Addr} {os : List St} {lv : List Int} {F : Nat → Fr} {vs : Nat → Value} {S : Nat → Prop} (h : Swp w base g gl gf m A c os lv F vs) (hk : KeptBut w w' S) (hS : ∀ k t cs, Has w k t cs → S k → t ≠ 74 ∧ t ≠ 63 ∧ t ≠ 3) (hF : ∀ i, SwB gf m vs i → ¬ S i) : Swp w' base g gl gf m A c os lv F vs := by
  obtain ⟨h1, h2, h3, ⟨⟨cs, hc, hA⟩, hR, hD⟩, h5⟩ := h
  refine ⟨h1.but hk (fun e => (hS g _ _ h1 e).1 rfl), owns_but h2 hk (fun k hkk e => ?_), owns_but h3 hk (fun k hkk e => ?_), ⟨⟨cs, hc.but hk (hF gf (.inl rfl)), hA⟩, fun i hi => owns_but (hR i hi) hk (fun k hkk => hF k (.inr ⟨i, hi, hkk⟩)), hD⟩, h5⟩
  · obtain ⟨c1, g1⟩ := owns_has h2 hkk
    exact (hS k _ _ g1 e).2.1 rfl
  · obtain ⟨c1, g1⟩ := owns_has h3 hkk
    exact (hS k _ _ g1 e).2.2 rfl
theorem Swp.below {w w' : World} {base g gl gf m c : Nat} {A : Option Addr} {os : List St} {lv : List Int} {F : Nat → Fr} {vs : Nat → Value} (h : Swp w base g gl gf m A c os lv F vs) (hb : Below w.heap.size w w') : Swp w' base g gl gf m A c os lv F vs :=
  h.kept (KeptBut.of_below hb (fun _ => False)) (fun _ _ _ _ e => e.elim) (fun _ _ e => e)
theorem owns_setv {w : World} {base size n c b i : Nat} {e : TypeId} {xs : List Value} {x : Value} (h : w.ownsRow base e size (.slice (some ⟨b, 0, none⟩) n c) n xs) (hi : i < n * size) : (w.setCell ⟨b, i, none⟩ x).ownsRow base e size (.slice (some ⟨b, 0, none⟩) n c) n (xs.set i x) := by
  refine ⟨by rw [List.length_set]; exact h.1, ?_⟩
  rcases h.2 with ⟨hv, h0'⟩ | ⟨b', cap, cur, hv, hg, hh, h1, h2, h3, h4⟩
  · cases hv
  · injection hv with e1 _ e3
    injection e1 with e1
    injection e1 with e1 _ _
    subst e1 e3
    refine .inr ⟨b, c, cur.setIfInBounds i x, rfl, hg, Has.put (t := e) hh i _, h1, h2, by simpa using h3, ?_⟩
    rw [Array.toList_setIfInBounds, List.take_set, h4]
end Go.Proofs.Ytkggejmamhakaaa
namespace Go.Proofs.Ytkggejmamhakaaa
set_option maxRecDepth 100000
set_option linter.unusedVariables false
open Go.RowKit
/-- What lists of sets of variables are. -/
def LvOk (m : Nat) (lv : List Int) : Prop := lv.length = m + 1 ∧ ∀ L ∈ lv, 0 ≤ L ∧ L ≤ 15
theorem LvOk.at_ {m : Nat} {lv : List Int} (h : LvOk m lv) {j : Nat} (hj : j ≤ m) : lv[j]? = some (lv.getD j 0) ∧ 0 ≤ lv.getD j 0 ∧ lv.getD j 0 ≤ 15 := by
  have hl : j < lv.length := by rw [h.1]; omega
  have e : lv[j]? = some (lv.getD j 0) := by rw [List.getD_eq_getElem?_getD, List.getElem?_eq_getElem hl]; rfl
  exact ⟨e, h.2 _ (List.mem_of_getElem? e)⟩
end Go.Proofs.Ytkggejmamhakaaa
