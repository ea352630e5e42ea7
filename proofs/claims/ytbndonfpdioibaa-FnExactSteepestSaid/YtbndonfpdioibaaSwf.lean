/- Runs that come to one statement, those in the same state as one; what they are worth; plain functions. The program's sweep in memory. The program's sweep takes a run to the front to which it has come. -/
import Derived.Test.YtbndonfpdioibaaLiv
import Derived.Test.YtbndonfpdioibaaTk
import Derived.Test.YtbndonfpdioibaaSwx
import Derived.Deep.AppendLies
import Derived.Deep.RegionLaw
import Derived.StillTailTactics
import Derived.IntWalk
namespace Go.Proofs.Ytbndonfpdioibaa
set_option maxRecDepth 100000
set_option linter.unusedVariables false

/-- States and weights. -/
abbrev Fr := List (Int × Int)
def addR : Fr → Int → Int → Fr
  | [], z, w => [(z, w)]
  | (s, u) :: r, z, w => if s = z then (s, u + w) :: r else (s, u) :: addR r z w
/-- 1 more than the place of a state, or 0. -/
def pos1 : Fr → Int → Nat
  | [], _ => 0
  | (s, _) :: r, z => if s = z then 1 else if pos1 r z = 0 then 0 else pos1 r z + 1
def sumV (v : Int → Int) : Fr → Int
  | [] => 0
  | (s, u) :: r => u * v s + sumV v r

theorem sumV_add (v : Int → Int) : ∀ (rs : Fr) (z w : Int), sumV v (addR rs z w) = sumV v rs + w * v z
  | [], z, w => by simp [addR, sumV]
  | (s, u) :: r, z, w => by
    rw [addR]
    split
    · rename_i h
      subst h
      rw [sumV, sumV, Int.add_mul]; omega
    · rw [sumV, sumV, sumV_add v r z w]; omega
theorem sumV_append (v : Int → Int) : ∀ (a b : Fr), sumV v (a ++ b) = sumV v a + sumV v b
  | [], b => by simp [sumV]
  | (s, u) :: r, b => by rw [List.cons_append, sumV, sumV, sumV_append v r b]; omega
theorem sumV_nonneg {v : Int → Int} : ∀ {rs : Fr}, (∀ p ∈ rs, 0 ≤ p.2 ∧ 0 ≤ v p.1) → 0 ≤ sumV v rs
  | [], _ => by simp [sumV]
  | (s, u) :: r, h => by
    rw [sumV]
    have h1 := h (s, u) List.mem_cons_self
    have h2 := sumV_nonneg (fun p hp => h p (List.mem_cons_of_mem _ hp))
    have := Int.mul_nonneg h1.1 h1.2
    show 0 ≤ u * v s + sumV v r
    have e : (0 : Int) ≤ u * v s := this
    omega
theorem sumV_ge {v : Int → Int} : ∀ {rs : Fr}, (∀ p ∈ rs, 0 ≤ p.2 ∧ 0 ≤ v p.1) → ∀ p ∈ rs, p.2 * v p.1 ≤ sumV v rs
  | [], _, p, hp => by simp at hp
  | (s, u) :: r, h, p, hp => by
    have h1 := h (s, u) List.mem_cons_self
    have h2 := sumV_nonneg (fun p hp => h p (List.mem_cons_of_mem (s, u) hp))
    have h3 : (0 : Int) ≤ u * v s := Int.mul_nonneg h1.1 h1.2
    rw [sumV]
    rcases List.mem_cons.1 hp with rfl | hp
    · show u * v s ≤ _
      omega
    · have := sumV_ge (fun p hp => h p (List.mem_cons_of_mem (s, u) hp)) p hp
      omega
theorem sumV_congr {v v' : Int → Int} : ∀ {rs : Fr}, (∀ p ∈ rs, v p.1 = v' p.1) → sumV v rs = sumV v' rs
  | [], _ => rfl
  | (s, u) :: r, h => by
    rw [sumV, sumV, sumV_congr (fun p hp => h p (List.mem_cons_of_mem _ hp)), show v s = v' s from h (s, u) List.mem_cons_self]

theorem pos1_le : ∀ (rs : Fr) (z : Int), pos1 rs z ≤ rs.length
  | [], z => by simp [pos1]
  | (s, u) :: r, z => by
    have := pos1_le r z
    rw [pos1, List.length_cons]
    split
    · omega
    · split
      · omega
      · omega
theorem addR_new : ∀ (rs : Fr) (z w : Int), pos1 rs z = 0 → addR rs z w = rs ++ [(z, w)]
  | [], z, w, _ => rfl
  | (s, u) :: r, z, w, h => by
    rw [pos1] at h
    by_cases hs : s = z
    · rw [if_pos hs] at h; cases h
    · rw [if_neg hs] at h
      have h0 : pos1 r z = 0 := by
        by_cases h0 : pos1 r z = 0
        · exact h0
        · rw [if_neg h0] at h; cases h
      rw [addR, if_neg hs, addR_new r z w h0]; rfl
theorem addR_old : ∀ (rs : Fr) (z w : Int) (k : Nat), pos1 rs z = k + 1 → ∃ u, rs[k]? = some (z, u) ∧ addR rs z w = rs.set k (z, u + w)
  | [], z, w, k, h => by simp [pos1] at h
  | (s, u) :: r, z, w, k, h => by
    rw [pos1] at h
    by_cases hs : s = z
    · rw [if_pos hs] at h
      have hk : k = 0 := by omega
      subst hk hs
      exact ⟨u, rfl, by rw [addR, if_pos rfl]; rfl⟩
    · rw [if_neg hs] at h
      by_cases h0 : pos1 r z = 0
      · rw [if_pos h0] at h; cases h
      · rw [if_neg h0] at h
        obtain ⟨j, rfl⟩ : ∃ j, k = j + 1 := ⟨k - 1, by omega⟩
        obtain ⟨u', h1, h2⟩ := addR_old r z w j (by omega)
        exact ⟨u', by simpa using h1, by rw [addR, if_neg hs, h2]; rfl⟩
theorem pos1_append : ∀ (rs : Fr) (z w y : Int), pos1 rs z = 0 → pos1 (rs ++ [(z, w)]) y = if z = y then rs.length + 1 else pos1 rs y
  | [], z, w, y, _ => by simp [pos1]
  | (s, u) :: r, z, w, y, h => by
    rw [pos1] at h
    have hs : s ≠ z := by
      intro e
      rw [if_pos e] at h; cases h
    rw [if_neg hs] at h
    have h0 : pos1 r z = 0 := by
      by_cases h0 : pos1 r z = 0
      · exact h0
      · rw [if_neg h0] at h; cases h
    rw [List.cons_append, pos1, pos1_append r z w y h0, pos1]
    by_cases hy : z = y
    · subst hy
      rw [if_neg hs, if_pos rfl, if_pos rfl, if_neg (Nat.succ_ne_zero _)]
      rfl
    · rw [if_neg hy, if_neg hy]
theorem pos1_set : ∀ (rs : Fr) (k : Nat) (z u u' y : Int), rs[k]? = some (z, u) → pos1 (rs.set k (z, u')) y = pos1 rs y
  | [], k, z, u, u', y, h => by simp at h
  | (s, v) :: r, 0, z, u, u', y, h => by
    have e : (s, v) = (z, u) := by simpa using h
    injection e with e1 e2
    subst e1
    rw [List.set_cons_zero, pos1, pos1]
  | (s, v) :: r, k + 1, z, u, u', y, h => by
    rw [List.set_cons_succ, pos1, pos1, pos1_set r k z u u' y (by simpa using h)]

/-- States and weights that are some, no state twice. -/
def FrOk (rs : Fr) : Prop := (∀ p ∈ rs, (0 ≤ p.1 ∧ p.1 ≤ 80) ∧ 0 < p.2) ∧ (rs.map (·.1)).Nodup
theorem FrOk.nil : FrOk [] := ⟨fun p hp => by simp at hp, by simp⟩
theorem pos1_mem : ∀ {rs : Fr} {z : Int}, pos1 rs z = 0 → z ∉ rs.map (·.1)
  | [], z, _ => by simp
  | (s, u) :: r, z, h => by
    rw [pos1] at h
    have hs : s ≠ z := by
      intro e
      rw [if_pos e] at h; cases h
    rw [if_neg hs] at h
    have h0 : pos1 r z = 0 := by
      by_cases h0 : pos1 r z = 0
      · exact h0
      · rw [if_neg h0] at h; cases h
    have := pos1_mem h0
    simp only [List.map_cons, List.mem_cons, not_or]
    exact ⟨Ne.symm hs, this⟩
theorem FrOk.add {rs : Fr} {z w : Int} (h : FrOk rs) (hz : 0 ≤ z ∧ z ≤ 80) (hw : 0 < w) : FrOk (addR rs z w) := by
  by_cases h0 : pos1 rs z = 0
  · rw [addR_new rs z w h0]
    refine ⟨fun p hp => ?_, ?_⟩
    · rcases List.mem_append.1 hp with hp | hp
      · exact h.1 p hp
      · rw [List.mem_singleton] at hp
        subst hp
        exact ⟨hz, hw⟩
    · rw [List.map_append, List.nodup_append]
      refine ⟨h.2, by simp, fun a ha b hb => ?_⟩
      simp at hb
      subst hb
      rintro rfl
      exact pos1_mem h0 ha
  · obtain ⟨k, hk⟩ : ∃ k, pos1 rs z = k + 1 := ⟨pos1 rs z - 1, by omega⟩
    obtain ⟨u, hu, he⟩ := addR_old rs z w k hk
    rw [he]
    refine ⟨fun p hp => ?_, ?_⟩
    · rcases List.mem_or_eq_of_mem_set hp with hp | hp
      · exact h.1 p hp
      · subst hp
        have := (h.1 _ (List.mem_of_getElem? hu)).2
        have e : 0 < u := this
        exact ⟨hz, by show 0 < u + w; omega⟩
    · have e : (rs.set k (z, u + w)).map (·.1) = rs.map (·.1) := by
        apply List.ext_getElem?
        intro i
        rw [List.getElem?_map, List.getElem?_map, List.getElem?_set]
        split
        · rename_i hi
          subst hi
          rw [hu]
          split
          · rfl
          · rename_i hl
            have := (List.getElem?_eq_some_iff.1 hu).1
            exact absurd this hl
        · rfl
      rw [e]
      exact h.2

theorem filt_ne : ∀ {l : List Int} {a : Int}, l.Nodup → l.length ≤ (l.filter fun x => x != a).length + 1
  | [], a, _ => by simp
  | x :: t, a, h => by
    rw [List.nodup_cons] at h
    rw [List.filter_cons]
    by_cases hx : x = a
    · subst hx
      have : t.filter (fun y => y != x) = t := List.filter_eq_self.2 fun y hy => by
        simp
        rintro rfl
        exact h.1 hy
      rw [if_neg (by simp), this, List.length_cons]
      exact Nat.le_refl _
    · rw [if_pos (by simpa using hx), List.length_cons, List.length_cons]
      have := filt_ne (a := a) h.2
      omega
theorem nodup_len : ∀ (n : Nat) {l : List Int}, l.Nodup → (∀ x ∈ l, 0 ≤ x ∧ x < n) → l.length ≤ n
  | 0, l, _, h => by
    cases l with
    | nil => simp
    | cons x t => have := h x List.mem_cons_self; omega
  | n + 1, l, hn, h => by
    have h1 := filt_ne (a := (n : Int)) hn
    have h2 := nodup_len n (l := l.filter fun x => x != (n : Int)) (List.Nodup.sublist List.filter_sublist hn) (fun x hx => by
      rw [List.mem_filter] at hx
      have := h x hx.1
      have h3 : x ≠ (n : Int) := by simpa using hx.2
      omega)
    omega
theorem FrOk.len {rs : Fr} (h : FrOk rs) : rs.length ≤ 81 := by
  have := nodup_len 81 h.2 (fun x hx => by
    obtain ⟨p, hp, rfl⟩ := List.mem_map.1 hx
    have := (h.1 p hp).1
    omega)
  rwa [List.length_map] at this

/-- The fronts with one more run. -/
def upd (F : Nat → Fr) (j : Nat) (z w : Int) : Nat → Fr := fun i => if i = j then addR (F j) z w else F i
theorem upd_at (F : Nat → Fr) (j : Nat) (z w : Int) : upd F j z w j = addR (F j) z w := if_pos rfl
theorem upd_ne {F : Nat → Fr} {j i : Nat} {z w : Int} (h : i ≠ j) : upd F j z w i = F i := if_neg h
/-- What the runs of n fronts from i on are worth. -/
def tailV (V : Nat → Int → Int) (F : Nat → Fr) : Nat → Nat → Int
  | _, 0 => 0
  | i, n + 1 => sumV (V i) (F i) + tailV V F (i + 1) n
theorem tailV_ne (V : Nat → Int → Int) {F : Nat → Fr} {j : Nat} {z w : Int} : ∀ (n i : Nat), j < i ∨ i + n ≤ j → tailV V (upd F j z w) i n = tailV V F i n
  | 0, i, _ => rfl
  | n + 1, i, h => by rw [tailV, tailV, tailV_ne V n (i + 1) (by omega), upd_ne (by omega)]
theorem tailV_upd (V : Nat → Int → Int) {F : Nat → Fr} {j : Nat} {z w : Int} : ∀ (n i : Nat), i ≤ j → j < i + n → tailV V (upd F j z w) i n = tailV V F i n + w * V j z
  | 0, i, h1, h2 => by omega
  | n + 1, i, h1, h2 => by
    rw [tailV, tailV]
    by_cases hij : i = j
    · subst hij
      rw [upd_at, sumV_add, tailV_ne V n (i + 1) (by omega)]
      omega
    · rw [upd_ne hij, tailV_upd V n (i + 1) (by omega) (by omega)]
      omega
theorem tailV_nonneg {V : Nat → Int → Int} {F : Nat → Fr} (hF : ∀ i, FrOk (F i)) (hV : ∀ i st, 0 ≤ V i st) : ∀ (n i : Nat), 0 ≤ tailV V F i n
  | 0, i => by simp [tailV]
  | n + 1, i => by
    have h1 := sumV_nonneg (v := V i) (rs := F i) (fun p hp => ⟨by have := ((hF i).1 p hp).2; omega, hV i _⟩)
    have h2 := tailV_nonneg hF hV n (i + 1)
    rw [tailV]
    omega
theorem tailV_ge {V : Nat → Int → Int} {F : Nat → Fr} (hF : ∀ i, FrOk (F i)) (hV : ∀ i st, 1 ≤ V i st) : ∀ (n i j : Nat), i ≤ j → j < i + n → ∀ p ∈ F j, p.2 ≤ tailV V F i n
  | 0, i, j, h1, h2, p, hp => by omega
  | n + 1, i, j, h1, h2, p, hp => by
    have hn := tailV_nonneg hF (V := V) (fun i st => by have := hV i st; omega) n (i + 1)
    have hs := sumV_nonneg (v := V i) (rs := F i) (fun p hp => ⟨by have := ((hF i).1 p hp).2; omega, by have := hV i p.1; omega⟩)
    rw [tailV]
    by_cases hij : i = j
    · subst hij
      have h3 := sumV_ge (v := V i) (rs := F i) (fun p hp => ⟨by have := ((hF i).1 p hp).2; omega, by have := hV i p.1; omega⟩) p hp
      have h4 : p.2 * 1 ≤ p.2 * V i p.1 := Int.mul_le_mul_of_nonneg_left (hV i p.1) (by have := ((hF i).1 p hp).2; omega)
      omega
    · have := tailV_ge hF hV n (i + 1) j (by omega) (by omega) p hp
      omega
end Go.Proofs.Ytbndonfpdioibaa

namespace Go.Proofs.Ytbndonfpdioibaa
set_option maxRecDepth 100000
set_option linter.unusedVariables false
open Go.RowKit

theorem tsw_a : (153 : TypeId) ≠ 157 := by decide
theorem tsw_b : (153 : TypeId) ≠ 101 := by decide
theorem tsw_c : (153 : TypeId) ≠ 3 := by decide
theorem tsw_d : (153 : TypeId) ≠ 78 := by decide
theorem tsw_e : (101 : TypeId) ≠ 157 := by decide
theorem tsw_f : (101 : TypeId) ≠ 78 := by decide

def rns (i : Nat) (rs : Fr) : List Rn := rs.map fun p => ⟨i, p.1, p.2⟩
theorem rns_length (i : Nat) (rs : Fr) : (rns i rs).length = rs.length := List.length_map _
theorem rns_at {i k : Nat} {rs : Fr} {p : Int × Int} (h : rs[k]? = some p) : (rns i rs)[k]? = some ⟨i, p.1, p.2⟩ := by
  unfold rns
  rw [List.getElem?_map, h]; rfl

/-- The cells of fronts: each one's runs, and where the run of each state is. -/
def FrA (cs : Array Value) (vs : Nat → Value) (F : Nat → Fr) (m : Nat) : Prop :=
  cs.size = (m + 1) * 82 ∧ ∀ i, i ≤ m → cs[i * 82]? = some (vs i) ∧ ∀ st : Nat, st < 81 → cs[i * 82 + 1 + st]? = some (.int .i64 (pos1 (F i) st))
def Frs (w : World) (base gf m : Nat) (F : Nat → Fr) (vs : Nat → Value) : Prop :=
  (∃ cs, Has w gf 153 cs ∧ FrA cs vs F m) ∧ (∀ i, i ≤ m → w.ownsRow base 101 3 (vs i) (F i).length (rnflat (rns i (F i)))) ∧ ∀ i j k, i ≤ m → j ≤ m → i ≠ j → (vs i).ownBlock = some k → (vs j).ownBlock ≠ some k
def Swp (w : World) (base g gl gf m : Nat) (A : Option Addr) (c : Nat) (os : List St) (lv : List Int) (F : Nat → Fr) (vs : Nat → Value) : Prop :=
  Has w g 157 #[.slice A m c, .slice (some ⟨gl, 0, none⟩) (m + 1) (m + 1), .slice (some ⟨gf, 0, none⟩) (m + 1) (m + 1)] ∧ w.ownsRow base 78 7 (.slice A m c) m (flat os) ∧ w.ownsRow base 3 1 (.slice (some ⟨gl, 0, none⟩) (m + 1) (m + 1)) (m + 1) (ints lv) ∧ Frs w base gf m F vs ∧ base ≤ g ∧ base ≤ gf
/-- The blocks that a step of a sweep may turn. -/
def SwB (gf m : Nat) (vs : Nat → Value) (i : Nat) : Prop := i = gf ∨ ∃ t, t ≤ m ∧ (vs t).ownBlock = some i
def Swk (w w' : World) (gf m : Nat) (vs vs' : Nat → Value) : Prop := KeptBut w w' (SwB gf m vs) ∧ ∀ t k, t ≤ m → (vs' t).ownBlock = some k → (vs t).ownBlock = some k ∨ w.heap.size ≤ k
theorem Swk.refl (w : World) (gf m : Nat) (vs : Nat → Value) : Swk w w gf m vs vs := ⟨KeptBut.refl _ _, fun t k _ h => .inl h⟩
theorem Swk.below {w w' : World} {gf m : Nat} {vs : Nat → Value} (h : Below w.heap.size w w') : Swk w w' gf m vs vs := ⟨KeptBut.of_below h _, fun t k _ h => .inl h⟩
theorem Swk.trans {a b c : World} {gf m : Nat} {vs vs' vs2 : Nat → Value} (h : Swk a b gf m vs vs') (k : Swk b c gf m vs' vs2) : Swk a c gf m vs vs2 := by
  have hz := h.1.size
  refine ⟨KeptBut.trans h.1 k.1 (fun i hi e => ?_), fun t x ht e => ?_⟩
  · rcases e with e | ⟨t, ht, e⟩
    · exact .inl e
    · rcases h.2 t i ht e with e' | e'
      · exact .inr ⟨t, ht, e'⟩
      · omega
  · rcases k.2 t x ht e with e' | e'
    · exact h.2 t x ht e'
    · exact .inr (by omega)
theorem Swp.gt {w : World} {base g gl gf m c : Nat} {A : Option Addr} {os : List St} {lv : List Int} {F : Nat → Fr} {vs : Nat → Value} (h : Swp w base g gl gf m A c os lv F vs) {i : Nat} (hi : SwB gf m vs i) : base ≤ i ∧ i < w.heap.size := by
  rcases hi with rfl | ⟨t, ht, e⟩
  · obtain ⟨cs, hc, _⟩ := h.2.2.2.1.1
    exact ⟨h.2.2.2.2.2, hc.lt⟩
  · exact World.ownsRow.lt (h.2.2.2.1.2.1 t ht) i e
theorem Swp.has_ne {w : World} {base g gl gf m c : Nat} {A : Option Addr} {os : List St} {lv : List Int} {F : Nat → Fr} {vs : Nat → Value} (h : Swp w base g gl gf m A c os lv F vs) {i : Nat} {t : TypeId} {cs : Array Value} (hi : Has w i t cs) (h1 : t ≠ 153) (h2 : t ≠ 101) : ¬ SwB gf m vs i := by
  rintro (rfl | ⟨u, hu, e⟩)
  · obtain ⟨cs', hc, _⟩ := h.2.2.2.1.1
    exact Go.Proofs.Ytbndonfpdioibaa.has_ne hi hc h1 rfl
  · obtain ⟨cs', hc⟩ := owns_has (h.2.2.2.1.2.1 u hu) e
    exact Go.Proofs.Ytbndonfpdioibaa.has_ne hi hc h2 rfl
theorem Swp.kept {w w' : World} {base g gl gf m c : Nat} {A : Option Addr} {os : List St} {lv : List Int} {F : Nat → Fr} {vs : Nat → Value} {S : Nat → Prop} (h : Swp w base g gl gf m A c os lv F vs) (hk : KeptBut w w' S) (hS : ∀ k t cs, Has w k t cs → S k → t ≠ 157 ∧ t ≠ 78 ∧ t ≠ 3) (hF : ∀ i, SwB gf m vs i → ¬ S i) : Swp w' base g gl gf m A c os lv F vs := by
  obtain ⟨h1, h2, h3, ⟨⟨cs, hc, hA⟩, hR, hD⟩, h5⟩ := h
  refine ⟨h1.but hk (fun e => (hS g _ _ h1 e).1 rfl), owns_but h2 hk (fun k hkk e => ?_), owns_but h3 hk (fun k hkk e => ?_), ⟨⟨cs, hc.but hk (hF gf (.inl rfl)), hA⟩, fun i hi => owns_but (hR i hi) hk (fun k hkk => hF k (.inr ⟨i, hi, hkk⟩)), hD⟩, h5⟩
  · obtain ⟨c1, g1⟩ := owns_has h2 hkk
    exact (hS k _ _ g1 e).2.1 rfl
  · obtain ⟨c1, g1⟩ := owns_has h3 hkk
    exact (hS k _ _ g1 e).2.2 rfl
theorem Swp.below {w w' : World} {base g gl gf m c : Nat} {A : Option Addr} {os : List St} {lv : List Int} {F : Nat → Fr} {vs : Nat → Value} (h : Swp w base g gl gf m A c os lv F vs) (hb : Below w.heap.size w w') : Swp w' base g gl gf m A c os lv F vs :=
  h.kept (KeptBut.of_below hb (fun _ => False)) (fun _ _ _ _ e => e.elim) (fun _ _ e => e)

/-- The list of fronts behind a store that the fronts do not hold. -/
theorem Swp.base_ {w : World} {base g gl gf m c : Nat} {A : Option Addr} {os : List St} {lv : List Int} {F F' : Nat → Fr} {vs vs' : Nat → Value} {w' : World} {S : Nat → Prop} (h : Swp w base g gl gf m A c os lv F vs) (hk : KeptBut w w' S) (hS : ∀ k, S k → SwB gf m vs k) (hF : Frs w' base gf m F' vs') : Swp w' base g gl gf m A c os lv F' vs' := by
  obtain ⟨h1, h2, h3, h4, h5⟩ := h
  have hh : Swp w base g gl gf m A c os lv F vs := ⟨h1, h2, h3, h4, h5⟩
  refine ⟨h1.but hk (fun e => hh.has_ne h1 (Ne.symm tsw_a) (Ne.symm tsw_e) (hS _ e)), owns_but h2 hk (fun k hkk e => ?_), owns_but h3 hk (fun k hkk e => ?_), hF, h5⟩
  · obtain ⟨c1, g1⟩ := owns_has h2 hkk
    exact hh.has_ne g1 (Ne.symm tsw_d) (Ne.symm tsw_f) (hS _ e)
  · obtain ⟨c1, g1⟩ := owns_has h3 hkk
    exact hh.has_ne g1 (Ne.symm tsw_c) tty_c (hS _ e)

theorem rnflat_set : ∀ (rs : List Rn) (k : Nat) (r : Rn), k < rs.length → rnflat (rs.set k r) = (((rnflat rs).set (k * 3) (.int .i64 r.pos)).set (k * 3 + 1) (.int .i64 r.st)).set (k * 3 + 2) (.int .i64 r.wt)
  | [], k, r, h => by simp at h
  | s :: rs, 0, r, h => by
    show Rn.cells r ++ rnflat rs = ((((s.cells ++ rnflat rs).set 0 _).set 1 _).set 2 _)
    rfl
  | s :: rs, k + 1, r, h => by
    have ih := rnflat_set rs k r (by simpa using h)
    show s.cells ++ rnflat (rs.set k r) = _
    rw [ih, show rnflat (s :: rs) = s.cells ++ rnflat rs from rfl]
    have hl : s.cells.length = 3 := rfl
    rw [List.set_append_right _ _ (by omega), List.set_append_right _ _ (by omega), List.set_append_right _ _ (by omega), hl, show (k + 1) * 3 - 3 = k * 3 by omega, show (k + 1) * 3 + 1 - 3 = k * 3 + 1 by omega, show (k + 1) * 3 + 2 - 3 = k * 3 + 2 by omega]
theorem rns_set {j k : Nat} {rs : Fr} {z u x : Int} (h : rs[k]? = some (z, u)) : rnflat (rns j (rs.set k (z, x))) = (rnflat (rns j rs)).set (k * 3 + 2) (.int .i64 x) := by
  have hk := (List.getElem?_eq_some_iff.1 h).1
  have e1 : rns j (rs.set k (z, x)) = (rns j rs).set k ⟨j, z, x⟩ := by unfold rns; rw [List.map_set]
  have hr := rns_at (i := j) h
  have g0 := rnflat_at (q := 0) hr (u := .int .i64 j) rfl
  have g1 := rnflat_at (q := 1) hr (u := .int .i64 z) rfl
  rw [e1, rnflat_set _ _ _ (by rw [rns_length]; exact hk)]
  have s0 : (rnflat (rns j rs)).set (k * 3) (.int .i64 j) = rnflat (rns j rs) := by
    apply List.ext_getElem?
    intro i
    rw [List.getElem?_set]
    split
    · rename_i hi
      subst hi
      rw [show k * 3 + 0 = k * 3 from rfl] at g0
      split
      · exact g0.symm
      · rename_i hl
        exact absurd (List.getElem?_eq_some_iff.1 g0).1 hl
    · rfl
  have s1 : (rnflat (rns j rs)).set (k * 3 + 1) (.int .i64 z) = rnflat (rns j rs) := by
    apply List.ext_getElem?
    intro i
    rw [List.getElem?_set]
    split
    · rename_i hi
      subst hi
      split
      · exact g1.symm
      · rename_i hl
        exact absurd (List.getElem?_eq_some_iff.1 g1).1 hl
    · rfl
  show ((((rnflat (rns j rs)).set (k * 3) (.int .i64 (j : Int))).set (k * 3 + 1) (.int .i64 z)).set (k * 3 + 2) (.int .i64 x)) = _
  rw [s0, s1]
theorem owns_setv {w : World} {base size n c b i : Nat} {e : TypeId} {xs : List Value} {x : Value} (h : w.ownsRow base e size (.slice (some ⟨b, 0, none⟩) n c) n xs) (hi : i < n * size) : (w.setCell ⟨b, i, none⟩ x).ownsRow base e size (.slice (some ⟨b, 0, none⟩) n c) n (xs.set i x) := by
  refine ⟨by rw [List.length_set]; exact h.1, ?_⟩
  rcases h.2 with ⟨hv, h0'⟩ | ⟨b', cap, cur, hv, hg, hh, h1, h2, h3, h4⟩
  · cases hv
  · injection hv with e1 _ e3
    injection e1 with e1
    injection e1 with e1 _ _
    subst e1 e3
    refine .inr ⟨b, c, cur.setIfInBounds i x, rfl, hg, Has.put (t := e) hh i _, h1, h2, by simpa using h3, ?_⟩
    rw [Array.toList_setIfInBounds, List.take_set, h4]

/-- The weight of a run that is there, made greater. -/
theorem Swp.bump {w : World} {base g gl gf m c : Nat} {A : Option Addr} {os : List St} {lv : List Int} {F : Nat → Fr} {vs : Nat → Value} (h : Swp w base g gl gf m A c os lv F vs) {j k b cb : Nat} {z u x : Int} (hj : j ≤ m) (hp : pos1 (F j) z = k + 1) (hu : (F j)[k]? = some (z, u)) (hv : vs j = .slice (some ⟨b, 0, none⟩) (F j).length cb) :
    Swp (w.setCell ⟨b, k * 3 + 2, none⟩ (.int .i64 (u + x))) base g gl gf m A c os lv (upd F j z x) vs ∧ Swk w (w.setCell ⟨b, k * 3 + 2, none⟩ (.int .i64 (u + x))) gf m vs vs := by
  obtain ⟨⟨cs, hc, hA⟩, hR, hD⟩ := h.2.2.2.1
  have hk := (List.getElem?_eq_some_iff.1 hu).1
  obtain ⟨u', hu', he⟩ := addR_old (F j) z x k hp
  obtain rfl : u = u' := by
    have := hu.symm.trans hu'
    injection this with this
    injection this
  have hbj : (vs j).ownBlock = some b := by rw [hv]; rfl
  have hkk : KeptBut w (w.setCell ⟨b, k * 3 + 2, none⟩ (.int .i64 (u + x))) (fun i => i = b) := KeptBut.put (KeptBut.refl w (fun i => i = b)) (p := ⟨b, k * 3 + 2, none⟩) (fun _ => rfl) _
  have hSw : ∀ i, i = b → SwB gf m vs i := fun i e => .inr ⟨j, hj, by rw [e]; exact hbj⟩
  refine ⟨h.base_ hkk hSw ⟨⟨cs, hc.but hkk (fun e => ?_), hA.1, fun i hi => ⟨(hA.2 i hi).1, fun st hst => ?_⟩⟩, fun i hi => ?_, hD⟩, hkk.mono (fun i _ e => hSw i e), fun t q _ e => .inl e⟩
  · obtain ⟨c1, g1⟩ := owns_has (hR j hj) hbj
    exact Go.Proofs.Ytbndonfpdioibaa.has_ne hc g1 tsw_b e
  · by_cases hij : i = j
    · subst hij
      rw [upd_at, he, pos1_set _ _ _ _ _ _ hu]
      exact (hA.2 i hi).2 st hst
    · rw [upd_ne hij]
      exact (hA.2 i hi).2 st hst
  · by_cases hij : i = j
    · subst hij
      rw [upd_at, he, List.length_set, rns_set hu]
      have hr := hR i hi
      rw [hv] at hr ⊢
      exact owns_setv hr (by omega)
    · rw [upd_ne hij]
      exact owns_but (hR i hi) hkk (fun q hq e => hD i j q hi hj hij hq (by rw [e]; exact hbj))

/-- A run more. -/
theorem Swp.push {w w' : World} {base g gl gf m c : Nat} {A : Option Addr} {os : List St} {lv : List Int} {F : Nat → Fr} {vs : Nat → Value} (h : Swp w base g gl gf m A c os lv F vs) {j : Nat} {z x : Int} {v' : Value} (hj : j ≤ m) (hz : 0 ≤ z ∧ z ≤ 80) (hp : pos1 (F j) z = 0)
    (hk : KeptBut w w' (fun i => (vs j).ownBlock = some i)) (ho : w'.ownsRow base 101 3 v' ((F j).length + 1) (rnflat (rns j (F j)) ++ Rn.cells ⟨j, z, x⟩)) (hb : ∀ k, v'.ownBlock = some k → (vs j).ownBlock = some k ∨ w.heap.size ≤ k) :
    Swp ((w'.setCell ⟨gf, j * 82, none⟩ v').setCell ⟨gf, j * 82 + 1 + z.toNat, none⟩ (.int .i64 ((F j).length + 1 : Int))) base g gl gf m A c os lv (upd F j z x) (fun i => if i = j then v' else vs i) ∧ Swk w ((w'.setCell ⟨gf, j * 82, none⟩ v').setCell ⟨gf, j * 82 + 1 + z.toNat, none⟩ (.int .i64 ((F j).length + 1 : Int))) gf m vs (fun i => if i = j then v' else vs i) := by
  obtain ⟨⟨cs, hc, hA⟩, hR, hD⟩ := h.2.2.2.1
  have hkS : KeptBut w ((w'.setCell ⟨gf, j * 82, none⟩ v').setCell ⟨gf, j * 82 + 1 + z.toNat, none⟩ (.int .i64 ((F j).length + 1 : Int))) (fun i => i = gf ∨ (vs j).ownBlock = some i) :=
    KeptBut.put (KeptBut.put (hk.mono (fun i _ e => .inr e)) (p := ⟨gf, j * 82, none⟩) (fun _ => .inl rfl) _) (p := ⟨gf, j * 82 + 1 + z.toNat, none⟩) (fun _ => .inl rfl) _
  have hSw : ∀ i, (i = gf ∨ (vs j).ownBlock = some i) → SwB gf m vs i := fun i e => e.elim .inl (fun e => .inr ⟨j, hj, e⟩)
  have hc' := ((hc.but hk (fun e => by
    obtain ⟨c1, g1⟩ := owns_has (hR j hj) e
    exact Go.Proofs.Ytbndonfpdioibaa.has_ne hc g1 tsw_b rfl)).put (j * 82) v').put (j * 82 + 1 + z.toNat) (.int .i64 ((F j).length + 1 : Int))
  have hgf : ∀ t q, t ≤ m → (vs t).ownBlock = some q → q ≠ gf := fun t q ht hq e => by
    obtain ⟨c1, g1⟩ := owns_has (hR t ht) hq
    exact Go.Proofs.Ytbndonfpdioibaa.has_ne hc g1 tsw_b e.symm
  have hv'gf : ∀ q, v'.ownBlock = some q → q ≠ gf := fun q hq e => by
    rcases hb q hq with e' | e'
    · exact hgf j q hj e' e
    · have := hc.lt; omega
  have hadd := addR_new (F j) z x hp
  have hput : ∀ {base' size n : Nat} {e : TypeId} {v : Value} {xs : List Value}, w'.ownsRow base' e size v n xs → (∀ q, v.ownBlock = some q → q ≠ gf) → ((w'.setCell ⟨gf, j * 82, none⟩ v').setCell ⟨gf, j * 82 + 1 + z.toNat, none⟩ (.int .i64 ((F j).length + 1 : Int))).ownsRow base' e size v n xs := fun hx hn =>
    owns_but hx (KeptBut.put (KeptBut.put (KeptBut.refl w' (fun i => i = gf)) (p := ⟨gf, j * 82, none⟩) (fun _ => rfl) _) (p := ⟨gf, j * 82 + 1 + z.toNat, none⟩) (fun _ => rfl) _) hn
  refine ⟨h.base_ hkS hSw ⟨⟨_, hc', by simpa using hA.1, fun i hi => ⟨?_, fun st hst => ?_⟩⟩, fun i hi => ?_, fun i t q hi ht hit hq e => ?_⟩, hkS.mono (fun i _ e => hSw i e), fun t q ht e => ?_⟩
  · have hsz := hA.1
    rw [Array.getElem?_setIfInBounds, if_neg (by omega), Array.getElem?_setIfInBounds]
    by_cases hij : i = j
    · subst hij
      show _ = some (if i = i then v' else vs i)
      rw [if_pos rfl, if_pos (by omega), if_pos rfl]
    · show _ = some (if i = j then v' else vs i)
      rw [if_neg (by omega), if_neg hij]
      exact (hA.2 i hi).1
  · have hsz := hA.1
    rw [Array.getElem?_setIfInBounds]
    by_cases hij : i = j
    · subst hij
      rw [upd_at, hadd, pos1_append _ _ _ _ hp]
      by_cases hzs : z = (st : Int)
      · subst hzs
        rw [Int.toNat_natCast, if_pos rfl, if_pos (by simp; omega), if_pos rfl]
        rfl
      · rw [if_neg (by omega), Array.getElem?_setIfInBounds, if_neg (by omega), if_neg hzs]
        exact (hA.2 i hi).2 st hst
    · rw [upd_ne hij, if_neg (by omega), Array.getElem?_setIfInBounds, if_neg (by omega)]
      exact (hA.2 i hi).2 st hst
  · by_cases hij : i = j
    · subst hij
      show World.ownsRow _ _ _ _ (if i = i then v' else vs i) _ _
      rw [if_pos rfl, upd_at, hadd, List.length_append, List.length_singleton]
      have e : rnflat (rns i (F i ++ [(z, x)])) = rnflat (rns i (F i)) ++ Rn.cells ⟨i, z, x⟩ := by
        unfold rns
        rw [List.map_append, rnflat_append]
        simp [rnflat]
      rw [e]
      exact hput ho hv'gf
    · show World.ownsRow _ _ _ _ (if i = j then v' else vs i) _ _
      rw [if_neg hij, upd_ne hij]
      exact hput (owns_but (hR i hi) hk (fun q hq e => hD i j q hi hj hij hq e)) (fun q hq => hgf i q hi hq)
  · have hq' : (if i = j then v' else vs i).ownBlock = some q := hq
    have e' : (if t = j then v' else vs t).ownBlock = some q := e
    by_cases hij : i = j
    · subst hij
      rw [if_pos rfl] at hq'
      rw [if_neg (Ne.symm hit)] at e'
      rcases hb q hq' with h1 | h1
      · exact hD i t q hi ht hit h1 e'
      · have := (World.ownsRow.lt (hR t ht) q e').2
        omega
    · rw [if_neg hij] at hq'
      by_cases htj : t = j
      · subst htj
        rw [if_pos rfl] at e'
        rcases hb q e' with h1 | h1
        · exact hD i t q hi ht hit hq' h1
        · have := (World.ownsRow.lt (hR i hi) q hq').2
          omega
      · rw [if_neg htj] at e'
        exact hD i t q hi ht hit hq' e'
  · have e' : (if t = j then v' else vs t).ownBlock = some q := e
    by_cases htj : t = j
    · subst htj
      rw [if_pos rfl] at e'
      exact hb q e'
    · rw [if_neg htj] at e'
      exact .inl e'
end Go.Proofs.Ytbndonfpdioibaa

namespace Go.Proofs.Ytbndonfpdioibaa
set_option maxRecDepth 100000
set_option linter.unusedVariables false
open Go.RowKit

theorem valuesOnly_v (st L : Int) (w : World) (hs : 0 ≤ st ∧ st ≤ 80) (hL : 0 ≤ L ∧ L ≤ 15) :
    Calls Try.prog 171 #[.int .i64 st, .int .i64 L] w fun e w' => e = .returned (.int .i64 (vo L st)) ∧ w' = w :=
  (valuesOnly_any st L w hs hL).mono fun _ _ h => ⟨h.1, h.2.symm⟩

/-- Where a run comes to. -/
def toF (m : Nat) (lv : List Int) (F : Nat → Fr) (r : Rn) : Nat → Fr := if r.wt = 0 then F else upd F (min r.pos m) (vo (lv.getD (min r.pos m) 0) r.st) r.wt
def Putd (w : World) (base g gl gf m : Nat) (A : Option Addr) (c : Nat) (os : List St) (lv : List Int) (F F' : Nat → Fr) (vs : Nat → Value) (e : Ending) (w' : World) : Prop :=
  e = .returned (.tuple #[]) ∧ ∃ vs', Swp w' base g gl gf m A c os lv F' vs' ∧ Swk w w' gf m vs vs' ∧ ∀ t, F' t = F t → vs' t = vs t
/-- What lists of sets of variables are. -/
def LvOk (m : Nat) (lv : List Int) : Prop := lv.length = m + 1 ∧ ∀ L ∈ lv, 0 ≤ L ∧ L ≤ 15
theorem LvOk.at_ {m : Nat} {lv : List Int} (h : LvOk m lv) {j : Nat} (hj : j ≤ m) : lv[j]? = some (lv.getD j 0) ∧ 0 ≤ lv.getD j 0 ∧ lv.getD j 0 ≤ 15 := by
  have hl : j < lv.length := by rw [h.1]; omega
  have e : lv[j]? = some (lv.getD j 0) := by rw [List.getD_eq_getElem?_getD, List.getElem?_eq_getElem hl]; rfl
  exact ⟨e, h.2 _ (List.mem_of_getElem? e)⟩
theorem upd_new {F : Nat → Fr} {j t : Nat} {z x : Int} (h : upd F j z x t = F t) : t ≠ j ∨ addR (F j) z x = F j := by
  by_cases ht : t = j
  · subst ht
    right
    rw [upd_at] at h
    exact h
  · exact .inl ht

set_option maxHeartbeats 4000000 in
theorem put_any (w : World) (base g gl gf m : Nat) (A : Option Addr) (c : Nat) (os : List St) (lv : List Int) (F : Nat → Fr) (vs : Nat → Value) (r : Rn) (h : Swp w base g gl gf m A c os lv F vs) (hm : m ≤ 12) (hlv : LvOk m lv) (hF : ∀ i, FrOk (F i)) (hs : 0 ≤ r.st ∧ r.st ≤ 80) (hw : 0 ≤ r.wt ∧ r.wt ≤ 1000000000000000000) (hsum : ∀ i, i ≤ m → ∀ p ∈ F i, p.2 ≤ 1000000000000000000) (hp : r.pos ≤ m) :
    Calls Try.prog 140 #[.pointer (some ⟨g, 0, none⟩), .agg #[.int .i64 r.pos, .int .i64 r.st, .int .i64 r.wt]] w (Putd w base g gl gf m A c os lv F (toF m lv F r) vs) := by
  have hB0 : Below w.heap.size w (w.alloc (.cells #[.int .i64 r.pos, .int .i64 r.st, .int .i64 r.wt] 101)) := (Below.refl _ _).alloc (Nat.le_refl _) _
  by_cases hw0 : r.wt = 0
  · have hR := Lib.hid (show Swp (w.alloc (.cells #[.int .i64 r.pos, .int .i64 r.st, .int .i64 r.wt] 101)) base g gl gf m A c os lv (toF m lv F r) vs from by
      unfold toF
      rw [if_pos hw0]
      exact h.below hB0)
    have hwb : (r.wt == 0) = true := by simpa using hw0
    clear hw0 h
    go_enter Try.func140, Try.ntmps140
    go_wp2_with fail
    go_end0
    exact ⟨rfl, vs, hR.out, Swk.below hB0, fun _ _ => rfl⟩
  · have hwb : (r.wt == 0) = false := by simpa using hw0
    have hT := Lib.hid (show toF m lv F r = upd F (min r.pos m) (vo (lv.getD (min r.pos m) 0) r.st) r.wt from if_neg hw0)
    have hwp : 0 < r.wt := by omega
    have hS0 := Lib.hid h
    have hG := Lib.hid (Has.new w 101 #[.int .i64 r.pos, .int .i64 r.st, .int .i64 r.wt])
    have hgl := h.1.lt
    have hHs := Lib.hid (fun i (hi : SwB gf m vs i) => (h.gt hi).2)
    have hcg := (h.below hB0).1.cell
    have hHF := Lib.hid hF
    have hHl := Lib.hid hlv
    have hHm := Lib.hid hsum
    clear hw0 h hF hlv hsum
    by_cases hpm : m < r.pos
    · exact absurd hpm (by omega)
    · have hj := Lib.hid (show min r.pos m = r.pos by omega)
      rw [hj.out] at hT
      go_enter Try.func140, Try.ntmps140
      go_wp2_with fail
      have hBW : Below w.heap.size w ((w.alloc (.cells #[.int .i64 r.pos, .int .i64 r.st, .int .i64 r.wt] 101))) := hB0
      have hG1 : Has (w.alloc (.cells #[.int .i64 r.pos, .int .i64 r.st, .int .i64 r.wt] 101)) w.heap.size 101 #[.int .i64 r.pos, .int .i64 r.st, .int .i64 r.wt] := hG.out
      have hS1 := hS0.out.below hBW
      have hK1 := Lib.hid (Swk.below (gf := gf) (m := m) (vs := vs) hBW)
      have hGn := Lib.hid (show ¬ SwB gf m vs w.heap.size from fun hi => by have := hHs.out _ hi; omega)
      clear hBW hcg hG
      generalize w.alloc (.cells #[.int .i64 r.pos, .int .i64 r.st, .int .i64 r.wt] 101) = W at hG1 hS1 hK1 ⊢
      obtain ⟨G, hGe⟩ : ∃ G, G = w.heap.size := ⟨_, rfl⟩
      have hGle : w.heap.size ≤ G := by omega
      rw [← hGe] at hG1 hGn ⊢
      clear hGe
      obtain ⟨j, hje⟩ : ∃ j, j = r.pos := ⟨_, rfl⟩
      rw [← hje] at hG1 hT ⊢
      have hjmm : j ≤ m := by omega
      clear hje

      have hjm : j ≤ m := hjmm
      obtain ⟨hLl, hL0, hL1⟩ := hHl.out.at_ hjm
      have hT' := Lib.hid hT.out
      generalize lv.getD j 0 = L at hLl hL0 hL1 hT'
      clear hT
      have hcg := hS1.1.cell
      have hcG := hG1.cell
      have hfG := hG1.frozen
      have hgG := hG1.lt
      obtain ⟨gl', curl, egl, _, hhl, _, _, _, hlc⟩ := owns_open hS1.2.2.1 (Nat.succ_pos m)
      injection egl with egl
      injection egl with egl _ _
      subst egl
      have el : W.cell? ⟨gl, j, none⟩ = some (.int .i64 L) := (hlc j (by omega)).trans (ints_get hLl)
      clear hlc hhl
      have hS1' := Lib.hid hS1
      have hG1' := Lib.hid hG1
      have hj0 : (0 : Int) ≤ (j : Int) := by omega
      have hj1 : (j : Int) < (m : Int) + 1 := by omega
      have hj2 : j < m + 1 := by omega
      clear hS1 hG1
      go_still_tail 12, (by kernel_rfl)
      still_call (valuesOnly_v r.st L W.drew hs ⟨hL0, hL1⟩)
      repeat still_step
      refine wpStill_nil ?_
      change wpList _ _ _ _ _ W.drew
      go_wp2_with fail
      have hz := vo_bd (L := L) hs
      generalize vo L r.st = z0 at hz hT' ⊢
      obtain ⟨z, rfl⟩ : ∃ z : Nat, z0 = (z : Int) := ⟨z0.toNat, by omega⟩
      have hKG : KeptBut W ((W.setCell ⟨G, 1, none⟩ (.int .i64 z)).drew) (fun i => i = G) := KeptBut.drewN (KeptBut.put (KeptBut.refl W (fun i => i = G)) (p := ⟨G, 1, none⟩) (fun _ => rfl) _) 1
      have hS2 : Swp ((W.setCell ⟨G, 1, none⟩ (.int .i64 z)).drew) base g gl gf m A c os lv F vs := hS1'.out.kept hKG (fun k t cs hk e => by
        subst e
        have e2 : t = 101 := by
          have h1 := hG1'.out
          unfold Has at h1 hk
          rw [h1] at hk
          injection hk with hk
          injection hk with _ e _
          exact e.symm
        subst e2
        exact ⟨tsw_e, tsw_f, Ne.symm tty_c⟩) (fun i hi e => hGn.out (by rw [← e]; exact hi))
      have hG2 : Has ((W.setCell ⟨G, 1, none⟩ (.int .i64 z)).drew) G 101 #[.int .i64 j, .int .i64 z, .int .i64 r.wt] := by
        have h9 : Has ((W.setCell ⟨G, 1, none⟩ (.int .i64 z)).drew) G 101 (#[.int .i64 j, .int .i64 r.st, .int .i64 r.wt].setIfInBounds 1 (.int .i64 z)) := hG1'.out.put 1 (.int .i64 z)
        simpa using h9
      have hK2 : Swk w ((W.setCell ⟨G, 1, none⟩ (.int .i64 z)).drew) gf m vs vs := ⟨KeptBut.trans hK1.out.1 hKG (fun i hi e => absurd e (by omega)), fun t k _ e => .inl e⟩
      clear hKG hcg hcG hfG el hS1' hG1' hK1
      generalize (W.setCell ⟨G, 1, none⟩ (.int .i64 z)).drew = W2 at hS2 hG2 hK2 ⊢
      have hcg := hS2.1.cell
      have hcG := hG2.cell
      obtain ⟨⟨cs, hcf, hfa⟩, hrow, _⟩ := hS2.2.2.2.1
      obtain ⟨hv0, hwh⟩ := hfa.2 j hjm
      have f0 : W2.cell? ⟨gf, j * 82, none⟩ = some (vs j) := (hcf.cell _).trans hv0
      have f1 : W2.cell? ⟨gf, j * 82 + 1 + z, none⟩ = some (.int .i64 (pos1 (F j) z)) := (hcf.cell _).trans (hwh z (by omega))
      have f2 := hcf.frozen
      have hfl : gf < W2.heap.size := hcf.lt
      have hS2' := Lib.hid hS2
      have hG2' := Lib.hid hG2
      have hK2' := Lib.hid hK2
      have hRow := Lib.hid (hrow j hjm)
      have hz0 : (0 : Int) ≤ (z : Int) := by omega
      have hz1 : (z : Int) < 81 := by omega
      have hz2 : z < 81 := by omega
      clear hS2 hG2 hK2 hcf hfa hrow hv0 hwh
      have hFl := (hHF.out j).len
      obtain ⟨Ax, cx, hvx, hxc, hxm⟩ := owns_form hRow.out
      have hVx := Lib.hid hvx
      rw [hvx] at f0
      have hRow2 := Lib.hid (show W2.ownsRow base 101 3 (.slice Ax (F j).length cx) (F j).length (rnflat (rns j (F j))) from by have := hRow.out; rwa [hvx] at this)
      clear hvx
      have hbz := hS2'.out.2.2.2.2.2
      obtain ⟨p1, hp1⟩ : ∃ p1, p1 = pos1 (F j) z := ⟨_, rfl⟩
      rw [← hp1] at f1
      have hP1 := Lib.hid hp1
      clear hp1
      cases p1 with
      | zero =>
        have f1' : W2.cell? ⟨gf, j * 82 + 1 + z, none⟩ = some (.int .i64 0) := f1
        clear f1
        obtain ⟨i0, hi0, iz0, iz1, iz2⟩ := info_parts info_run
        have hos := Lib.hid (World.ownsRow.alloc hRow2.out (.cells #[.int .i64 j, .int .i64 z, .int .i64 r.wt] 101))
        have hnr := Lib.hid (new_run W2 ⟨j, z, r.wt⟩)
        generalize hn : (F j).length = n at hFl hxc hRow2 hos f0 hVx
        have hN := Lib.hid hn
        have hbW : base ≤ W2.heap.size := by omega
        clear hn
        go_quiet (fail)
        go_wp2_with fail
        go_quiet (fail)
        go_wp2_with fail
        generalize hWq : World.drewN W2 _ = W3
        have hbq : Below W2.heap.size W2 W3 := by rw [← hWq]; exact below_drewN (Below.refl _ _) _
        have hce := Lib.hid (show ∀ p, W3.cell? p = W2.cell? p from fun p => by rw [← hWq]; rfl)
        have hS3 := hS2'.out.below hbq
        have hG3 := hG2'.out.kept hbq
        have hK3 := Lib.hid (hK2'.out.trans (Swk.below (gf := gf) (m := m) (vs := vs) hbq))
        have hsz3 : W3.heap.size = W2.heap.size := by rw [← hWq]; rfl
        have hos3 := Lib.hid (World.ownsRow.alloc (owns_but hRow2.out (KeptBut.of_below hbq (fun _ => False)) (fun _ _ h => h)) (.cells #[.int .i64 j, .int .i64 z, .int .i64 r.wt] 101))
        have hnr3 := Lib.hid (new_run W3 ⟨j, z, r.wt⟩)
        have f03 := (hce.out _).trans f0
        obtain ⟨⟨cs3, hcf3, hfa3⟩, _, _⟩ := hS3.2.2.2.1
        have hcf3' := Lib.hid hcf3
        have hfz3 := Lib.hid hfa3.1
        have hcG3 := hG3.cell
        have hS3' := Lib.hid hS3
        have hG3' := Lib.hid hG3
        have hW3b : base ≤ W3.heap.size := by omega
        have hgf3 : gf < W3.heap.size := by omega
        have hGg : G ≠ gf := fun e => hGn.out (.inl e)
        clear hsz3 hbq hWq hcg hcG f0 f1' f2 hos hnr hS3 hG3 hcf3 hfa3 hS2' hG2' hK2' hRow2
        go_region_law (first | (refine step_append_lies _ rfl (.tmp 55) (.tmp 57) 98 rfl base 101 i0 _ 3 24 Try.underlying98 hi0 iz0 iz1 iz2 rfl (by decide) (.slice Ax n cx) n (rnflat (rns j (F j))) (by simp [Act.eval]) (by exact hos3.out) ⟨W3.heap.size, 0, none⟩ 1 1 (Rn.cells ⟨j, z, r.wt⟩) (by simp [Act.eval]) rfl (by exact hnr3.out) (by simp [Rn.cells, Value.oneCell']) (by omega) (by unfold maxLen; omega) (by omega) (by simp; omega) (W3.heap.size + 1) (by simp) ?_; intro gs2 cs2 w6 hown6 hgrow6 hat6 hlt6; have hK6 : KeptBut W3 w6 (fun i => (Value.slice Ax n cx).ownBlock = some i) := grown_but_d (by exact hgrow6); have hH6 := Has.but hcf3'.out hK6 (fun e => by (obtain ⟨c1, g1⟩ := owns_has hos3.out e; exact has_ne (hcf3'.out.alloc _) g1 tsw_b rfl)); have hfg6 := hH6.frozen; obtain ⟨u6, hu6⟩ := hH6.size_cell (x := j * 82) (by rw [hfz3.out]; omega)))
        all_goals
          have hsep := Lib.hid (show ∀ k, (Value.slice (some ⟨gs2, 0, none⟩) (n + 1) cs2).ownBlock = some k → (vs j).ownBlock = some k ∨ W3.heap.size ≤ k from fun k hk => by
            have hk' : gs2 = k := by simpa [Value.ownBlock] using hk
            subst hk'
            rw [hVx.out]
            rcases hat6 with e | e
            · exact .inl e
            · exact .inr (by omega))
          have hpush := Lib.hid (hS3'.out.push (j := j) (z := (z : Int)) (x := r.wt) (v' := .slice (some ⟨gs2, 0, none⟩) (n + 1) cs2) hjm (by omega) hP1.out.symm (by rw [hVx.out]; exact hK6) (by rw [hN.out]; exact hown6) hsep.out)
          have hG6 := (hG3'.out.but hK6 (fun e => hGn.out (.inr ⟨j, hjm, by rw [hVx.out]; exact e⟩))).far (p := ⟨gf, j * 82, none⟩) hGg (.slice (some ⟨gs2, 0, none⟩) (n + 1) cs2)
          have hH7 := hH6.put (j * 82) (.slice (some ⟨gs2, 0, none⟩) (n + 1) cs2)
          have hgf6 : gf < w6.heap.size := hH6.lt
          clear hown6 hgrow6 hat6 hK6 hH6 hfg6 hu6
          rw [Int.toNat_natCast] at hpush
          generalize w6.setCell ⟨gf, j * 82, none⟩ (.slice (some ⟨gs2, 0, none⟩) (n + 1) cs2) = W7 at hpush hG6 hH7 ⊢
          have c70 := hH7.cell (j * 82)
          rw [Array.getElem?_setIfInBounds, if_pos rfl, if_pos (by rw [hfz3.out]; omega)] at c70
          have f70 := hH7.frozen
          obtain ⟨u7, hu7⟩ := hH7.size_cell (x := j * 82 + 1 + z) (by simp; rw [hfz3.out]; omega)
          have cG7 := hG6.cell
          clear hG6 hH7 hcG3 f03
          go_wp2_with fail
          go_still_tail 11, (by kernel_rfl)
          change wpList _ _ _ _ _ W7.drew
          go_wp2_with fail
          go_end0
          rw [hN.out] at hpush
          refine ⟨rfl, fun i => if i = j then .slice (some ⟨gs2, 0, none⟩) (n + 1) cs2 else vs i, ?_, ?_, fun t ht => ?_⟩
          · rw [hT'.out]
            exact hpush.out.1.below ((Below.refl _ _).drew)
          · exact (hK3.out.trans hpush.out.2).trans (Swk.below ((Below.refl _ _).drew))
          · have htj : t ≠ j := fun e => by
              subst e
              rw [hT'.out, upd_at, addR_new _ _ _ hP1.out.symm] at ht
              have := congrArg List.length ht
              simp at this
            exact if_neg htj
      | succ k =>
        have f1' : W2.cell? ⟨gf, j * 82 + 1 + z, none⟩ = some (.int .i64 ((k : Int) + 1)) := by simpa using f1
        clear f1
        obtain ⟨u, hu, _⟩ := addR_old (F j) z r.wt k hP1.out.symm
        have hkl := (List.getElem?_eq_some_iff.1 hu).1
        obtain ⟨b, curb, rfl, _, hhb, _, _, _, hbc⟩ := owns_open hRow2.out (by omega)
        have e0 : W2.cell? ⟨b, k * 3 + 2, none⟩ = some (.int .i64 u) := (hbc _ (by omega)).trans (rnflat_at (q := 2) (rns_at hu) rfl)
        have g0 := hhb.frozen (k * 3 + 2)
        have hu1 : u ≤ 1000000000000000000 := hHm.out j hjm _ (List.mem_of_getElem? hu)
        have hu0 : 0 < u := ((hHF.out j).1 _ (List.mem_of_getElem? hu)).2
        have hU := Lib.hid hu
        generalize hn : (F j).length = n at hFl hxc hRow2 f0 hkl hVx
        have hN := Lib.hid hn
        have hk0 : (0 : Int) ≤ (k : Int) := by omega
        have hk1 : (k : Int) < (n : Int) := by omega
        have hpos : ¬ ((k : Int) + 1 ≤ 0) := by omega
        clear hn hu hbc hhb
        go_quiet (fail)
        go_wp2_with fail
        go_quiet (fail)
        go_wp2_with fail
        generalize hWq : World.drewN W2 _ = W3
        have hbq : Below W2.heap.size W2 W3 := by rw [← hWq]; exact below_drewN (Below.refl _ _) _
        have hce := Lib.hid (show ∀ p, W3.cell? p = W2.cell? p from fun p => by rw [← hWq]; rfl)
        have hS3 := Lib.hid (hS2'.out.below hbq)
        have hG3 := hG2'.out.kept hbq
        have hK3 := Lib.hid (hK2'.out.trans (Swk.below (gf := gf) (m := m) (vs := vs) hbq))
        have e03 := (hce.out _).trans e0
        have f03 := (hce.out _).trans f0
        have g03 : W3.frozen? ⟨b, k * 3 + 2, none⟩ = false := by rw [← hWq]; exact g0
        have hcG3 := hG3.cell
        clear hbq hWq hcg hcG e0 f0 f1' g0 f2 hG3 hS2' hG2' hK2' hRow2
        have hwk : IntKind.i64.wrap (k : Int) = (k : Int) := IntWalk.i64_in _ (by omega)
        have hwk2 : IntKind.i64.wrap (u + r.wt) = u + r.wt := IntWalk.i64_in _ (by omega)
        go_still_tail 14, (by kernel_rfl)
        change wpList _ _ _ _ _ W3.drew
        go_wp2_with fail
        have hbump := Lib.hid (hS3.out.bump (j := j) (k := k) (b := b) (cb := cx) (z := (z : Int)) (u := u) (x := r.wt) hjm hP1.out.symm hU.out (by rw [hN.out]; exact hVx.out))
        go_end0
        refine ⟨rfl, vs, ?_, ?_, fun _ _ => rfl⟩
        · rw [hT'.out]
          exact hbump.out.1.below ((Below.refl _ _).drew)
        · exact (hK3.out.trans hbump.out.2).trans (Swk.below ((Below.refl _ _).drew))
end Go.Proofs.Ytbndonfpdioibaa
