/- Lists of lists of numbers that a call has made; worlds of which few blocks have turned. -/
import Derived.Test.YtjokiminlplbcaaIMk
import Derived.Maps.AppendAt
namespace Go.Proofs.Ytjokiminlplbcaa
set_option maxRecDepth 100000
set_option linter.unusedVariables false
open Go.RowKit

/-- All blocks but those of S are as they were. -/
structure KeptBut (w w' : World) (S : Nat → Prop) : Prop where
  os : w'.os = w.os
  tape : w'.tape = w.tape
  output : w'.output = w.output
  size : w.heap.size ≤ w'.heap.size
  block : ∀ i, i < w.heap.size → ¬ S i → w'.heap[i]? = w.heap[i]?

theorem KeptBut.refl (w : World) (S : Nat → Prop) : KeptBut w w S := ⟨rfl, rfl, rfl, Nat.le_refl _, fun _ _ _ => rfl⟩
theorem KeptBut.trans {a b c : World} {S T : Nat → Prop} (h : KeptBut a b S) (k : KeptBut b c T) (hT : ∀ i, i < a.heap.size → T i → S i) : KeptBut a c S :=
  ⟨k.os.trans h.os, k.tape.trans h.tape, k.output.trans h.output, Nat.le_trans h.size k.size, fun i hi hn => (k.block i (Nat.lt_of_lt_of_le hi h.size) (fun ht => hn (hT i hi ht))).trans (h.block i hi hn)⟩
theorem KeptBut.of_below {w w' : World} (h : Below w.heap.size w w') (S : Nat → Prop) : KeptBut w w' S := ⟨h.os, h.tape, h.output, h.size, fun i hi _ => h.block i hi⟩
theorem KeptBut.of_grown {w w' : World} {row : Option Nat} (h : w.grownBy w' row) {S : Nat → Prop} (hS : ∀ k, row = some k → S k) : KeptBut w w' S := ⟨h.os, h.tape, h.output, h.size, fun i hi hn => h.block i hi (fun e => hn (hS i e.symm))⟩
theorem KeptBut.below {w w' : World} {S : Nat → Prop} (h : KeptBut w w' S) {B : Nat} (hB : ∀ i, i < B → ¬ S i) (hs : B ≤ w.heap.size) : Below B w w' := ⟨h.os, h.tape, h.output, h.size, fun i hi => h.block i (by omega) (hB i hi)⟩
theorem KeptBut.alloc {a b : World} {S : Nat → Prop} (h : KeptBut a b S) (o : Obj) : KeptBut a (b.alloc o) S :=
  ⟨h.os, h.tape, h.output, Nat.le_trans h.size (by simp), fun i hi hn => (Below.heap_alloc b o i (Nat.lt_of_lt_of_le hi h.size)).trans (h.block i hi hn)⟩
theorem KeptBut.put {a b : World} {S : Nat → Prop} (h : KeptBut a b S) {p : Addr} (hp : p.block < a.heap.size → S p.block) (u : Value) : KeptBut a (b.setCell p u) S :=
  ⟨h.os, h.tape, h.output, by simpa [World.setCell] using h.size, fun i hi hn => (Below.heap_setCell b _ u i (by rintro rfl; exact hn (hp hi))).trans (h.block i hi hn)⟩
theorem KeptBut.drewN {a b : World} {S : Nat → Prop} (h : KeptBut a b S) (n : Nat) : KeptBut a (b.drewN n) S := ⟨h.os, h.tape, h.output, h.size, h.block⟩
theorem KeptBut.mono {a b : World} {S T : Nat → Prop} (h : KeptBut a b S) (hST : ∀ i, i < a.heap.size → S i → T i) : KeptBut a b T := ⟨h.os, h.tape, h.output, h.size, fun i hi hn => h.block i hi (fun hs => hn (hST i hi hs))⟩

theorem Has.but {w w' : World} {g : Nat} {t : TypeId} {cs : Array Value} {S : Nat → Prop} (h : Has w g t cs) (hk : KeptBut w w' S) (hn : ¬ S g) : Has w' g t cs := (hk.block g h.lt hn).trans h
theorem has_ne {w : World} {g g' : Nat} {t t' : TypeId} {cs cs' : Array Value} (h : Has w g t cs) (h' : Has w g' t' cs') (ht : t ≠ t') : g ≠ g' := by
  rintro rfl
  unfold Has at h h'
  rw [h] at h'
  injection h' with h'
  injection h' with _ e
  exact ht e

theorem owns_has {w : World} {base : Nat} {e : TypeId} {size n : Nat} {v : Value} {xs : List Value} (h : w.ownsRow base e size v n xs) {k : Nat} (hk : v.ownBlock = some k) : ∃ cur, Has w k e cur := by
  rcases h.2 with ⟨hv, _⟩ | ⟨g, cap, cur, hv, hg, hh, _⟩
  · rw [hv] at hk; cases hk
  · rw [hv] at hk
    injection hk with hk
    subst hk
    exact ⟨cur, hh⟩
theorem owns_le {w : World} {base base' size n : Nat} {e : TypeId} {v : Value} {xs : List Value} (h : w.ownsRow base e size v n xs) (hb : base' ≤ base) : w.ownsRow base' e size v n xs := by
  refine ⟨h.1, ?_⟩
  rcases h.2 with h0 | ⟨g, cap, cur, hv, hg, rest⟩
  · exact .inl h0
  · exact .inr ⟨g, cap, cur, hv, by omega, rest⟩
theorem owns_form {w : World} {base : Nat} {e : TypeId} {size n : Nat} {v : Value} {xs : List Value} (h : w.ownsRow base e size v n xs) : ∃ A c, v = .slice A n c ∧ n ≤ c ∧ c ≤ maxLen := by
  rcases h.2 with ⟨hv, hn⟩ | ⟨g, cap, cur, hv, _, _, h1, h2, _⟩
  · exact ⟨none, 0, by rw [hv, hn], by omega, by simp [maxLen]⟩
  · exact ⟨_, cap, hv, h1, h2⟩
theorem owns_but {w w' : World} {base : Nat} {e : TypeId} {size n : Nat} {v : Value} {xs : List Value} {S : Nat → Prop} (h : w.ownsRow base e size v n xs) (hk : KeptBut w w' S) (hn : ∀ k, v.ownBlock = some k → ¬ S k) : w'.ownsRow base e size v n xs := by
  refine ⟨h.1, ?_⟩
  rcases h.2 with h0 | ⟨g, cap, cur, hv, hg, hh, rest⟩
  · exact .inl h0
  · exact .inr ⟨g, cap, cur, hv, hg, Has.but (cs := cur) hh hk (hn g (by rw [hv]; rfl)), rest⟩
theorem IOwn.but {w w' : World} {base : Nat} {v : Value} {ds : List Int} {S : Nat → Prop} (h : IOwn w base v ds) (hk : KeptBut w w' S) (hn : ∀ k, v.ownBlock = some k → ¬ S k) : IOwn w' base v ds := owns_but h hk hn

/-- A slice of slices of numbers that a call has made: the outer cells are vs. -/
def RowsV (w : World) (base : Nat) (v : Value) (rs : List (List Int)) (vs : List Value) : Prop :=
  w.ownsRow base 28 1 v rs.length vs ∧ ∀ (i : Nat) (x : Value), vs[i]? = some x → ∃ ds, rs[i]? = some ds ∧ IOwn w base x ds
/-- No two of them lie in one block. -/
def Apart (vs : List Value) : Prop := ∀ (i j : Nat) (x y : Value), i < j → vs[i]? = some x → vs[j]? = some y → ∀ k, x.ownBlock = some k → y.ownBlock ≠ some k

theorem RowsV.nil (w : World) (base : Nat) : RowsV w base (.slice none 0 0) [] [] := ⟨World.ownsRow_nil w base _ _, fun i x h => by simp at h⟩
theorem RowsV.length {w : World} {base : Nat} {v : Value} {rs : List (List Int)} {vs : List Value} (h : RowsV w base v rs vs) : vs.length = rs.length := by have := h.1.1; omega
theorem RowsV.but {w w' : World} {base : Nat} {v : Value} {rs : List (List Int)} {vs : List Value} {S : Nat → Prop} (h : RowsV w base v rs vs) (hk : KeptBut w w' S) (hn : ∀ k, v.ownBlock = some k → ¬ S k) (hi : ∀ k cur, Has w k 3 cur → base ≤ k → (∃ x ∈ vs, x.ownBlock = some k) → ¬ S k) : RowsV w' base v rs vs := by
  refine ⟨owns_but h.1 hk hn, fun i x hx => ?_⟩
  obtain ⟨ds, hd, ho⟩ := h.2 i x hx
  refine ⟨ds, hd, ho.but hk fun k hkb => ?_⟩
  obtain ⟨cur, hc⟩ := owns_has ho hkb
  exact hi k cur hc (World.ownsRow.lt ho k hkb).1 ⟨x, List.mem_of_getElem? hx, hkb⟩
theorem RowsV.form {w : World} {base : Nat} {v : Value} {rs : List (List Int)} {vs : List Value} (h : RowsV w base v rs vs) : ∃ A c, v = .slice A rs.length c ∧ rs.length ≤ c ∧ c ≤ maxLen := by
  rcases h.1.2 with ⟨hv, hn⟩ | ⟨g, cap, cur, hv, _, _, h1, h2, _⟩
  · exact ⟨none, 0, by rw [hv, hn], by omega, by simp [maxLen]⟩
  · exact ⟨_, cap, hv, h1, h2⟩

theorem int_ne : (3 : TypeId) ≠ 28 := by decide

/-- Behind an append of one row. -/
theorem RowsV.append_ {w w' : World} {base : Nat} {v v' : Value} {rs : List (List Int)} {vs : List Value} {x : Value} {ds : List Int} (h : RowsV w base v rs vs) (hx : IOwn w base x ds)
    (hN : w'.ownsRow base 28 1 v' (rs.length + 1) (vs ++ [x])) (hg : w.grownBy w' v.ownBlock) : RowsV w' base v' (rs ++ [ds]) (vs ++ [x]) := by
  have hk : KeptBut w w' (fun i => v.ownBlock = some i) := KeptBut.of_grown hg fun k e => e
  have hrow : ∀ y es, IOwn w base y es → IOwn w' base y es := fun y es hy => hy.but hk fun k hkb e => by
    obtain ⟨c1, h1⟩ := owns_has hy hkb
    obtain ⟨c2, h2⟩ := owns_has h.1 e
    exact has_ne h1 h2 int_ne rfl
  refine ⟨by rw [List.length_append]; exact hN, fun i y hy => ?_⟩
  have hl := h.length
  by_cases hi : i < vs.length
  · rw [List.getElem?_append_left hi] at hy
    obtain ⟨es, he, ho⟩ := h.2 i y hy
    exact ⟨es, by rw [List.getElem?_append_left (by omega)]; exact he, hrow y es ho⟩
  · rw [List.getElem?_append_right (by omega)] at hy
    have hi0 : i - vs.length = 0 := by
      have := (List.getElem?_eq_some_iff.1 hy).1
      simp at this; omega
    rw [hi0] at hy
    have hy' : x = y := by simpa using hy
    subst hy'
    refine ⟨ds, ?_, hrow x ds hx⟩
    rw [List.getElem?_append_right (by omega)]
    simp [show i - rs.length = 0 by omega]

theorem Apart.nil : Apart [] := fun i j x y _ h => by simp at h
theorem Apart.snoc {vs : List Value} {x : Value} (h : Apart vs) (hx : ∀ y ∈ vs, ∀ k, y.ownBlock = some k → x.ownBlock ≠ some k) : Apart (vs ++ [x]) := by
  intro i j a b hij ha hb k hk
  have hj : j < vs.length ∨ j = vs.length := by
    have := (List.getElem?_eq_some_iff.1 hb).1
    simp at this; omega
  rcases hj with hj | rfl
  · rw [List.getElem?_append_left (by omega)] at ha
    rw [List.getElem?_append_left hj] at hb
    exact h i j a b hij ha hb k hk
  · rw [List.getElem?_append_left hij] at ha
    have hb' : x = b := by simpa using hb
    subst hb'
    exact hx a (List.mem_of_getElem? ha) k hk

end Go.Proofs.Ytjokiminlplbcaa
