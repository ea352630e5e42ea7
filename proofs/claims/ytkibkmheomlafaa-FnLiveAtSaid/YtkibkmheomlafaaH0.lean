/- What is needed, by index; the slice; plain. -/
import Derived.Test.YtkibkmheomlafaaG2
import Derived.Test.YtkibkmheomlafaaSwx
namespace Go.Proofs.Ytkibkmheomlafaa
set_option maxRecDepth 100000
set_option linter.unusedVariables false
open Go.RowKit

theorem need_isN {s : St} (ho : s.ok = true) (h6 : s.k < 6) (L : Int) : s.need L = s.isN L := by
  have hr := ok_rng (k := s.k) (a := s.a) (b := s.b) (c := s.c) (u := s.u) (v := s.v) (x := s.x) ho
  unfold St.need St.isN St.weighs St.lives St.sets
  by_cases hk : 4 ≤ s.k
  · rw [if_neg (by omega), decide_eq_true hk]
    have : s.k = 4 ∨ s.k = 5 := by omega
    rcases this with e | e <;> simp [e]
  · rw [if_pos ⟨ho, by omega⟩, decide_eq_false hk, decide_eq_true (show 0 ≤ s.a by omega)]
    have h4 : (s.k == 4) = false := by simp; omega
    have h5 : (s.k == 5) = false := by simp; omega
    rw [h4, h5]
    simp
theorem ahead_bk {s : St} (ho : s.ok = true) (h6 : s.k < 6) {L : Int} (hL : 0 ≤ L ∧ L ≤ 15) : s.ahead L = s.bk L := by
  have hr := ok_rng (k := s.k) (a := s.a) (b := s.b) (c := s.c) (u := s.u) (v := s.v) (x := s.x) ho
  by_cases hk : 4 ≤ s.k
  · have hw : s.weighs = true := by
      unfold St.weighs
      have : s.k = 4 ∨ s.k = 5 := by omega
      rcases this with e | e <;> simp [e]
    have hs : s.sets = -1 := by unfold St.sets; rw [if_neg (by omega)]
    have hb : bitN (-1) = 0 := by decide
    rw [ahead_yes (.inl hw), hs, hb, bdf_none hL.1 hL.2]
    unfold St.bk
    rw [if_pos hk]
  · have hw : s.weighs = false := by
      unfold St.weighs
      have h4 : (s.k == 4) = false := by simp; omega
      have h5 : (s.k == 5) = false := by simp; omega
      rw [h4, h5]; rfl
    have hs : s.sets = s.a := by unfold St.sets; rw [if_pos ⟨ho, by omega⟩]
    have hl : s.lives L = tb L s.a.toNat := by unfold St.lives; rw [hs, decide_eq_true (show 0 ≤ s.a by omega), Bool.true_and]
    unfold St.bk
    rw [if_neg hk]
    cases ht : tb L s.a.toNat
    · rw [if_neg (by decide), ahead_no hw (hl.trans ht)]
    · rw [if_pos rfl, ahead_yes (.inr (hl.trans ht)), hs]
theorem bk_bd {s : St} (ho : s.ok = true) (h6 : s.k < 6) {L : Int} (hL : 0 ≤ L ∧ L ≤ 15) : 0 ≤ s.bk L ∧ s.bk L ≤ 15 := by
  rw [← ahead_bk ho h6 hL]
  exact ahead_bd hL
theorem needL_bd {L : Int} (hL : 0 ≤ L ∧ L ≤ 15) : ∀ {ps : List St}, (∀ s ∈ ps, s.ok = true ∧ s.k < 6) → 0 ≤ needL ps L ∧ needL ps L ≤ 15
  | [], _ => hL
  | s :: r, hok => bk_bd (hok s List.mem_cons_self).1 (hok s List.mem_cons_self).2 (needL_bd hL fun t ht => hok t (List.mem_cons_of_mem s ht))

/-- The indexes of what is needed, from a first one on. -/
def ndx (k : Nat) : List St → Int → List Int
  | [], _ => []
  | s :: r, L => if s.isN (needL r L) = true then (k : Int) :: ndx (k + 1) r L else ndx (k + 1) r L
theorem ndx_ge : ∀ {ps : List St} {k : Nat} {L : Int}, ∀ x ∈ ndx k ps L, (k : Int) ≤ x ∧ x < k + ps.length
  | [], k, L, x, h => by simp [ndx] at h
  | s :: r, k, L, x, h => by
    rw [ndx] at h
    rw [List.length_cons]
    split at h
    · rcases List.mem_cons.1 h with rfl | h
      · omega
      · have := ndx_ge x h; omega
    · have := ndx_ge x h; omega
theorem ndx_len : ∀ (ps : List St) (k : Nat) (L : Int), (ndx k ps L).length = (sl ps L).length
  | [], _, _ => rfl
  | s :: r, k, L => by
    rw [ndx, sl]
    split
    · rw [List.length_cons, List.length_cons, ndx_len r]
    · exact ndx_len r _ _
theorem ndx_step {ps : List St} {k : Nat} {s : St} (h : ps[k]? = some s) (j : Nat) (L : Int) : ndx j (ps.drop k) L = if s.isN (needL (ps.drop (k + 1)) L) = true then (j : Int) :: ndx (j + 1) (ps.drop (k + 1)) L else ndx (j + 1) (ps.drop (k + 1)) L := by
  obtain ⟨hk, e⟩ := List.getElem?_eq_some_iff.1 h
  rw [List.drop_eq_getElem_cons hk, e, ndx]
theorem sl_step {ps : List St} {k : Nat} {s : St} (h : ps[k]? = some s) (L : Int) : sl (ps.drop k) L = if s.isN (needL (ps.drop (k + 1)) L) = true then s :: sl (ps.drop (k + 1)) L else sl (ps.drop (k + 1)) L := by
  obtain ⟨hk, e⟩ := List.getElem?_eq_some_iff.1 h
  rw [List.drop_eq_getElem_cons hk, e, sl]
theorem byL_step {ps : List St} {k : Nat} {s : St} (h : ps[k]? = some s) (L : Int) : byL (ps.drop k) L = if s.isN (needL (ps.drop (k + 1)) L) = true then byL (ps.drop (k + 1)) L else facBy 2 s * byL (ps.drop (k + 1)) L := by
  obtain ⟨hk, e⟩ := List.getElem?_eq_some_iff.1 h
  rw [List.drop_eq_getElem_cons hk, e, byL]
theorem needL_step {ps : List St} {k : Nat} {s : St} (h : ps[k]? = some s) (L : Int) : needL (ps.drop k) L = s.bk (needL (ps.drop (k + 1)) L) := by
  obtain ⟨hk, e⟩ := List.getElem?_eq_some_iff.1 h
  rw [List.drop_eq_getElem_cons hk, e, needL]
/-- Whether the statement with an index is needed. -/
def neAt (ps : List St) (L : Int) (i : Nat) : Bool := match ps[i]? with
  | none => false
  | some s => s.isN (needL (ps.drop (i + 1)) L)
theorem neAt_of {ps : List St} {k : Nat} {s : St} (h : ps[k]? = some s) (L : Int) : neAt ps L k = s.isN (needL (ps.drop (k + 1)) L) := by
  unfold neAt
  rw [h]
/-- A word of the statements from a first one on that are needed, each as a bit of its index. -/
def Msk (ps : List St) (L : Int) (k : Nat) (m : Int) : Prop := ∃ n : Nat, m = (n : Int) ∧ n < 1048576 ∧ ∀ i, n.testBit i = (decide (k ≤ i) && neAt ps L i)
theorem Msk.none {ps : List St} {L : Int} : Msk ps L ps.length 0 := ⟨0, rfl, by decide, fun i => by
  rw [Nat.zero_testBit]
  by_cases h : ps.length ≤ i
  · unfold neAt
    rw [List.getElem?_eq_none h, Bool.and_false]
  · rw [decide_eq_false h, Bool.false_and]⟩
theorem or_nat (a b : Nat) (ha : a < 1048576) (hb : b < 1048576) : bits .or .i64 (a : Int) (b : Int) = ((a ||| b : Nat) : Int) := by
  have h : a ||| b < 2 ^ 20 := Nat.or_lt_two_pow (n := 20) ha hb
  show IntKind.i64.wrap (((BitVec.ofInt 64 (a : Int) ||| BitVec.ofInt 64 (b : Int)).toNat : Nat) : Int) = _
  rw [BitVec.toNat_or, BitVec.ofInt_natCast, BitVec.ofInt_natCast, BitVec.toNat_ofNat, BitVec.toNat_ofNat, Nat.mod_eq_of_lt (by omega), Nat.mod_eq_of_lt (by omega)]
  exact IntWalk.i64_in _ (by omega)
theorem Msk.set {ps : List St} {L : Int} {k : Nat} {m : Int} (h : Msk ps L (k + 1) m) (hn : neAt ps L k = true) (hk : k < 20) : Msk ps L k (bits .or .i64 m ((2 ^ k : Nat) : Int)) := by
  obtain ⟨n, rfl, hn1, hn2⟩ := h
  have hp : 2 ^ k < 1048576 := Nat.pow_lt_pow_right (a := 2) (by decide) hk
  refine ⟨n ||| 2 ^ k, or_nat n _ hn1 hp, Nat.or_lt_two_pow (n := 20) hn1 hp, fun i => ?_⟩
  rw [Nat.testBit_or, hn2, Nat.testBit_two_pow]
  by_cases he : k = i
  · subst he
    rw [decide_eq_true rfl, Bool.or_true, hn, decide_eq_true (Nat.le_refl k)]
    rfl
  · rw [decide_eq_false he, Bool.or_false]
    by_cases h2 : k + 1 ≤ i
    · rw [decide_eq_true h2, decide_eq_true (show k ≤ i by omega)]
    · rw [decide_eq_false h2, decide_eq_false (show ¬ k ≤ i by omega)]
theorem Msk.pass {ps : List St} {L : Int} {k : Nat} {m : Int} (h : Msk ps L (k + 1) m) (hn : neAt ps L k = false) : Msk ps L k m := by
  obtain ⟨n, rfl, hn1, hn2⟩ := h
  refine ⟨n, rfl, hn1, fun i => ?_⟩
  rw [hn2]
  by_cases he : k = i
  · subst he
    rw [hn, Bool.and_false, Bool.and_false]
  · by_cases h2 : k + 1 ≤ i
    · rw [decide_eq_true h2, decide_eq_true (show k ≤ i by omega)]
    · rw [decide_eq_false h2, decide_eq_false (show ¬ k ≤ i by omega)]
theorem and_one (x : Nat) (hx : x < 1048576) : bits .and .i64 (x : Int) 1 = ((x % 2 : Nat) : Int) := by
  show IntKind.i64.wrap (((BitVec.ofInt 64 (x : Int) &&& BitVec.ofInt 64 ((1 : Nat) : Int)).toNat : Nat) : Int) = _
  rw [BitVec.toNat_and, BitVec.ofInt_natCast, BitVec.ofInt_natCast, BitVec.toNat_ofNat, BitVec.toNat_ofNat, Nat.mod_eq_of_lt (by omega), Nat.mod_eq_of_lt (by omega), Nat.and_one_is_mod]
  exact IntWalk.i64_in _ (by omega)
/-- How a word says that an index is marked. -/
theorem Msk.tell {ps : List St} {L : Int} {m : Int} (h : Msk ps L 0 m) (i : Nat) : (bits .and .i64 (m / 2 ^ ((i : Nat) : Int).toNat) 1 == 1) = neAt ps L i := by
  obtain ⟨n, rfl, hn1, hn⟩ := h
  have h1 := hn i
  rw [decide_eq_true (Nat.zero_le i), Bool.true_and, Nat.testBit_eq_decide_div_mod_eq] at h1
  have e : (n : Int) / 2 ^ ((i : Nat) : Int).toNat = ((n / 2 ^ i : Nat) : Int) := by
    rw [Int.toNat_natCast, Int.natCast_ediv, Int.natCast_pow]; rfl
  rw [e, and_one _ (Nat.lt_of_le_of_lt (Nat.div_le_self _ _) hn1), ← h1]
  rcases Nat.mod_two_eq_zero_or_one (n / 2 ^ i) with h | h <;> rw [h] <;> rfl

/-- The answers of chapter 7. -/
def okS (ps : List St) (vars : Int) : Bool := plainOk ps && inB vars 0 15
def needsTo (ps : List St) (vars : Int) : List Int := if okS ps vars = true then ndx 0 ps vars else []
def slTo (ps : List St) (vars : Int) : List St := if okS ps vars = true then sl ps vars else []
def byTo (ps : List St) (vars : Int) : Int := if okS ps vars = true then byL ps vars else 0
def liveTo (ps : List St) (vars at_ : Int) : Int := if okS ps vars = true ∧ inB at_ 0 ps.length = true then needL (ps.drop at_.toNat) vars else -1
def okV (ps : List St) (vars : Int) : Bool := (unrolled ps).isSome && inB vars 0 15
def seenTo (ps : List St) (vars : Int) : List Int := if okV ps vars = true then seen vars (weightsFrom ps 0) else []
theorem needsTo_len (ps : List St) (vars : Int) : (needsTo ps vars).length ≤ 81 := by
  unfold needsTo
  cases h : okS ps vars
  · rw [if_neg (by decide)]; simp
  · rw [if_pos rfl, ndx_len]
    unfold okS at h
    rw [Bool.and_eq_true] at h
    have := (plain_iff.1 h.1).1
    have := sl_len ps vars
    omega
theorem slTo_len (ps : List St) (vars : Int) : (slTo ps vars).length ≤ 24 := by
  unfold slTo
  cases h : okS ps vars
  · rw [if_neg (by decide)]; simp
  · rw [if_pos rfl]
    unfold okS at h
    rw [Bool.and_eq_true] at h
    have := (plain_iff.1 h.1).1
    have := sl_len ps vars
    omega
theorem seenTo_len (ps : List St) (vars : Int) : (seenTo ps vars).length ≤ 81 := by
  unfold seenTo
  split
  · rw [seen_len]; exact Nat.le_refl _
  · simp
/-- A program, a number and a word on whether they stand. -/
def Sld (w : World) (os : List St) (f : Int) (ok : Bool) (e : Ending) (w' : World) : Prop := ∃ v, e = .returned (.tuple #[v, .int .i64 f, .bool ok]) ∧ Own w' w.heap.size v os ∧ Below w.heap.size w w'
theorem varsOk_any (x : Int) (w : World) : Calls Try.prog 55 #[.int .i64 x] w fun e w' => e = .returned (.bool (inB x 0 15)) ∧ w = w' := by
  go_enter Try.func55, Try.ntmps55
  go_wp2_with ((go_at_call 65; refine (within_any _ _ _ _).mono ?_; rintro e w' ⟨rfl, rfl⟩))
  go_ret
  exact ⟨rfl, rfl⟩
theorem okS_parts {ps : List St} {vars : Int} (h : okS ps vars = true) : plainOk ps = true ∧ 0 ≤ vars ∧ vars ≤ 15 := by
  unfold okS at h
  rw [Bool.and_eq_true] at h
  exact ⟨h.1, inB_iff.1 h.2⟩
theorem byL_top {ps : List St} (h : plainOk ps = true) (L : Int) (k : Nat) : 1 ≤ byL (ps.drop k) L ∧ byL (ps.drop k) L ≤ 205891132094649 := by
  obtain ⟨h1, h2⟩ := plain_iff.1 h
  have h3 := byL_pos (ps := ps.drop k) (fun s hs => h2 s (List.mem_of_mem_drop hs)) L
  have h4 := (sumWs_bd (ps := ps.drop k) (fun s hs => h2 s (List.mem_of_mem_drop hs))).2
  have h5 : (27 : Int) ^ (ps.drop k).length ≤ 27 ^ 10 := by
    have := Nat.pow_le_pow_right (n := 27) (by decide) (show (ps.drop k).length ≤ 10 by rw [List.length_drop]; omega)
    exact_mod_cast this
  have h6 : (27 : Int) ^ 10 = 205891132094649 := by decide
  omega
end Go.Proofs.Ytkibkmheomlafaa
