/- Parts of the proof: L1. -/
import Derived.Test.YtghkpmafocacoaaZAC
import Derived.Test.YtghkpmafocacoaaZAI
namespace Go.Proofs.Ytghkpmafocacoaa
set_option maxRecDepth 100000
set_option linter.unusedVariables false
open Go.RowKit
theorem wrap_ex (n : Int) : ∃ k : Int, IntKind.i64.wrap n = n + k * 18446744073709551616 := by
  rw [IntKind.wrap_i64]
  exact ⟨-((n + 9223372036854775808) / 18446744073709551616), by omega⟩
theorem wrap_more (n k : Int) : IntKind.i64.wrap (n + k * 18446744073709551616) = IntKind.i64.wrap n := by
  rw [IntKind.wrap_i64, IntKind.wrap_i64]
  omega
theorem mul_two (a b k l N : Int) : (a + k * N) * (b + l * N) = a * b + (a * l + k * b + k * l * N) * N := by
  simp only [Int.add_mul, Int.mul_add, Int.mul_assoc, Int.mul_comm N]
  omega
theorem wrap_mul (a b : Int) : IntKind.i64.wrap (IntKind.i64.wrap a * IntKind.i64.wrap b) = IntKind.i64.wrap (a * b) := by
  obtain ⟨k, hk⟩ := wrap_ex a
  obtain ⟨l, hl⟩ := wrap_ex b
  rw [hk, hl, mul_two, wrap_more]
theorem wrap_add (a b : Int) : IntKind.i64.wrap (IntKind.i64.wrap a + IntKind.i64.wrap b) = IntKind.i64.wrap (a + b) := by
  obtain ⟨k, hk⟩ := wrap_ex a
  obtain ⟨l, hl⟩ := wrap_ex b
  rw [hk, hl, show a + k * 18446744073709551616 + (b + l * 18446744073709551616) = a + b + (k + l) * 18446744073709551616 by omega, wrap_more]
theorem wrap_mul_l (a b : Int) : IntKind.i64.wrap (IntKind.i64.wrap a * b) = IntKind.i64.wrap (a * b) := by
  obtain ⟨k, hk⟩ := wrap_ex a
  rw [hk, show (a + k * 18446744073709551616) * b = a * b + (k * b) * 18446744073709551616 by rw [Int.add_mul, Int.mul_assoc k, Int.mul_assoc k, Int.mul_comm b], wrap_more]
def Fac.a (F : Fac) : Nat := (vAt F.vs 0).toNat
def Fac.b (F : Fac) : Nat := (vAt F.vs 1).toNat
/-- A forest with one factor more. -/
def addF (g : Gr) (F : Fac) : Option Gr :=
  if F.vs.length = 1 then some g else if F.vs.length = 2 then (if g.root F.a = g.root F.b then none else some (g.put F.a F.b)) else none
def grL (Fs : List Fac) : Option Gr := Fs.foldl (fun o F => o.bind fun g => addF g F) (some Gr.none_)
def treeOk (Fs : List Fac) : Bool := listOk Fs && (grL Fs).isSome
def ownL (Fs : List Fac) (v x : Nat) : Int := Fs.foldl (fun p F => if F.vs = [(v : Int)] then p * F.ns.getD x 0 else p) 1
def isP (F : Fac) (a b : Nat) : Bool := F.vs.length == 2 && ((F.a == a && F.b == b) || (F.a == b && F.b == a))
def btw (Fs : List Fac) (a b : Nat) : Fac := (Fs.find? fun F => isP F a b).getD ⟨[], []⟩
theorem grL_take {Fs : List Fac} {k : Nat} {F : Fac} (h : Fs[k]? = some F) : grL (Fs.take (k + 1)) = (grL (Fs.take k)).bind fun g => addF g F := by
  obtain ⟨hl, he⟩ := List.getElem?_eq_some_iff.1 h
  unfold grL
  rw [List.take_succ_eq_append_getElem hl, List.foldl_append, he]
  rfl
theorem grL_none : ∀ (Fs : List Fac), Fs.foldl (fun o F => o.bind fun g => addF g F) (none : Option Gr) = none
  | [] => rfl
  | F :: r => grL_none r
theorem grL_stop {Fs : List Fac} {k : Nat} (h : grL (Fs.take k) = none) : grL Fs = none := by
  have e : Fs = Fs.take k ++ Fs.drop k := (List.take_append_drop k Fs).symm
  rw [e]
  unfold grL at h ⊢
  rw [List.foldl_append, h, grL_none]
theorem ownL_take {Fs : List Fac} {k : Nat} {F : Fac} (h : Fs[k]? = some F) (v x : Nat) : ownL (Fs.take (k + 1)) v x = if F.vs = [(v : Int)] then ownL (Fs.take k) v x * F.ns.getD x 0 else ownL (Fs.take k) v x := by
  obtain ⟨hl, he⟩ := List.getElem?_eq_some_iff.1 h
  unfold ownL
  rw [List.take_succ_eq_append_getElem hl, List.foldl_append, he]
  rfl
theorem numsOk_getD {M : Int} {ds : List Int} (hM : 0 ≤ M) (h : numsOk M ds = true) (k : Nat) : 0 ≤ ds.getD k 0 ∧ ds.getD k 0 ≤ M := by
  rw [List.getD_eq_getElem?_getD]
  cases hk : ds[k]? with
  | none => exact ⟨Int.le_refl _, hM⟩
  | some d => exact inB_iff.1 (List.all_eq_true.1 h d (List.mem_of_getElem? hk))
theorem ownL_bd {Fs : List Fac} (h : ∀ F ∈ Fs, facOk 9 F = true) (v x : Nat) : ∀ k, 0 ≤ ownL (Fs.take k) v x ∧ ownL (Fs.take k) v x ≤ 9 ^ k
  | 0 => by simp [ownL]
  | k + 1 => by
    have ih := ownL_bd h v x k
    cases hk : Fs[k]? with
    | none =>
      rw [List.take_of_length_le (by have := List.getElem?_eq_none_iff.1 hk; omega)]
      rw [List.take_of_length_le (by have := List.getElem?_eq_none_iff.1 hk; omega)] at ih
      have : (9 : Int) ^ k ≤ 9 ^ (k + 1) := by rw [Int.pow_succ]; have : (0 : Int) ≤ 9 ^ k := Int.le_of_lt (Int.pow_pos (by decide)); omega
      exact ⟨ih.1, Int.le_trans ih.2 this⟩
    | some F =>
      rw [ownL_take hk, Int.pow_succ]
      have h9 := h F (List.mem_of_getElem? hk)
      unfold facOk at h9
      rw [Bool.and_eq_true, Bool.and_eq_true] at h9
      have hb := numsOk_getD (by decide) h9.2.1 x
      have h0 : (0 : Int) ≤ 9 ^ k := Int.le_of_lt (Int.pow_pos (by decide))
      split
      · exact ⟨Int.mul_nonneg ih.1 hb.1, Int.mul_le_mul ih.2 hb.2 hb.1 h0⟩
      · omega
theorem ownL_small {Fs : List Fac} (h : listOk Fs = true) (v x k : Nat) : 0 ≤ ownL (Fs.take k) v x ∧ ownL (Fs.take k) v x ≤ 43046721 := by
  unfold listOk at h
  rw [Bool.and_eq_true, decide_eq_true_eq] at h
  have hF := List.all_eq_true.1 h.2
  have hmin : Fs.take k = Fs.take (min k 8) := by
    by_cases h8 : k ≤ 8
    · rw [Nat.min_eq_left h8]
    · rw [Nat.min_eq_right (by omega), List.take_of_length_le (by omega), List.take_of_length_le h.1]
  rw [hmin]
  have hb := ownL_bd hF v x (min k 8)
  have hp : (9 : Int) ^ (min k 8) ≤ 9 ^ 8 := by
    obtain hk | hk | hk | hk | hk | hk | hk | hk | hk : min k 8 = 0 ∨ min k 8 = 1 ∨ min k 8 = 2 ∨ min k 8 = 3 ∨ min k 8 = 4 ∨ min k 8 = 5 ∨ min k 8 = 6 ∨ min k 8 = 7 ∨ min k 8 = 8 := by omega
    all_goals (rw [hk]; decide)
  exact ⟨hb.1, Int.le_trans hb.2 hp⟩
/-- The two variables of a pair. -/
theorem pair_two {F : Fac} (h : facOk 9 F = true) (h2 : F.vs.length = 2) : ∃ a b : Fin 4, a ≠ b ∧ F.vs = [(a.val : Int), (b.val : Int)] ∧ F.a = a.val ∧ F.b = b.val := by
  obtain ⟨q1, _, _, _, q5⟩ := fac_parts h
  have hv := vars_five q1
  match hF : F.vs, h2 with
  | [x, y], _ =>
    rw [hF] at hv q5
    have h0 := hv 0 (by simp)
    have h1 := hv 1 (by simp)
    simp [vAt] at h0 h1
    refine ⟨⟨x.toNat, by omega⟩, ⟨y.toNat, by omega⟩, fun e => ?_, ?_, ?_, ?_⟩
    · have := congrArg Fin.val e
      simp only at this
      omega
    · show [x, y] = [(x.toNat : Int), (y.toNat : Int)]
      rw [Int.toNat_of_nonneg h0.1, Int.toNat_of_nonneg h1.1.1]
    · unfold Fac.a; rw [hF]; rfl
    · unfold Fac.b; rw [hF]; rfl
theorem one_var {F : Fac} (h : facOk 9 F = true) (h1 : F.vs.length = 1) : ∃ a : Fin 4, F.vs = [(a.val : Int)] := by
  obtain ⟨q1, _, _, _, q5⟩ := fac_parts h
  match hF : F.vs, h1 with
  | [x], _ =>
    rw [hF] at q5
    have h0 := q5 x (by simp)
    exact ⟨⟨x.toNat, by omega⟩, by show [x] = [(x.toNat : Int)]; rw [Int.toNat_of_nonneg h0.1]⟩
/-- What holds of the forest of the first factors: it has no circles, and its pairs are those of the factors, each once. -/
structure Fst (Fs : List Fac) (g : Gr) : Prop where
  acy : g.acy = true
  ed : ∀ a b : Fin 4, (g.nx a.val).testBit b.val = Fs.any fun F => isP F a.val b.val
  one : ∀ a b : Fin 4, (Fs.filter fun F => isP F a.val b.val).length ≤ 1
theorem isP_self (F : Fac) {a b : Fin 4} (hn : a ≠ b) (hF : F.vs.length = 2) (ha : F.a = a.val) (hb : F.b = b.val) (v w : Fin 4) : isP F v.val w.val = (decide (v = a ∧ w = b) || decide (v = b ∧ w = a)) := by
  have key : ∀ a b v w : Fin 4, a ≠ b → ((2 : Nat) == 2 && ((a.val == v.val && b.val == w.val) || (a.val == w.val && b.val == v.val))) = (decide (v = a ∧ w = b) || decide (v = b ∧ w = a)) := by decide
  unfold isP
  rw [hF, ha, hb]
  exact key a b v w hn
theorem fst_nil : Fst [] Gr.none_ := ⟨none_ok.1, fun a b => by rw [(none_ok.2.2 a).2, Nat.zero_testBit]; rfl, fun a b => by simp⟩
theorem fst_add {Fs : List Fac} {g g' : Gr} {F : Fac} (h : Fst Fs g) (hF : facOk 9 F = true) (ha : addF g F = some g') : Fst (Fs ++ [F]) g' := by
  unfold addF at ha
  by_cases h1 : F.vs.length = 1
  · rw [if_pos h1] at ha
    obtain rfl := Option.some.inj ha
    have hn : ∀ a b : Nat, isP F a b = false := fun a b => by unfold isP; rw [h1]; rfl
    refine ⟨h.acy, fun a b => ?_, fun a b => ?_⟩
    · rw [h.ed a b, List.any_append]
      simp [hn]
    · rw [List.filter_append]
      simpa [hn] using h.one a b
  · rw [if_neg h1] at ha
    by_cases h2 : F.vs.length = 2
    · rw [if_pos h2] at ha
      obtain ⟨a, b, hab, hv, ea, eb⟩ := pair_two hF h2
      rw [ea, eb] at ha
      by_cases hr : g.root a.val = g.root b.val
      · rw [if_pos hr] at ha
        cases ha
      rw [if_neg hr] at ha
      obtain rfl := Option.some.inj ha
      have hp := put_acy g a b hab h.acy hr
      have hi := isP_self F hab h2 ea eb
      have he : (g.nx a.val).testBit b.val = false := by
        cases hq : (g.nx a.val).testBit b.val
        · rfl
        · exact absurd (root_near g a b hq) hr
      have he' : (g.nx b.val).testBit a.val = false := by rw [(prs_row g b).2.2.2.2 a]; exact he
      refine ⟨hp.1, fun v w => ?_, fun v w => ?_⟩
      · rw [put_nx g a b hab v w, h.ed v w, List.any_append]
        simp [hi v w]
      · rw [List.filter_append]
        cases hq : isP F v.val w.val
        · simpa [hq] using h.one v w
        · have h0 : (Fs.filter fun F => isP F v.val w.val) = [] := by
            have h3 : (g.nx v.val).testBit w.val = false := by
              rw [hi v w, Bool.or_eq_true, decide_eq_true_eq, decide_eq_true_eq] at hq
              rcases hq with ⟨rfl, rfl⟩ | ⟨rfl, rfl⟩
              · exact he
              · exact he'
            rw [h.ed v w] at h3
            rw [List.filter_eq_nil_iff]
            intro G hG hGp
            have := List.any_eq_false.1 h3 G hG
            exact this hGp
          rw [h0]
          simp [hq]
    · rw [if_neg h2] at ha
      cases ha
theorem fst_take {Fs : List Fac} (hF : ∀ F ∈ Fs, facOk 9 F = true) : ∀ (k : Nat) {g : Gr}, grL (Fs.take k) = some g → Fst (Fs.take k) g
  | 0, g, h => by
    have : Gr.none_ = g := Option.some.inj (by simpa [grL] using h)
    subst this
    simpa using fst_nil
  | k + 1, g, h => by
    cases hk : Fs[k]? with
    | none =>
      have hl := List.getElem?_eq_none_iff.1 hk
      rw [List.take_of_length_le (by omega)] at h ⊢
      have := fst_take hF k (g := g) (by rw [List.take_of_length_le (by omega)]; exact h)
      rwa [List.take_of_length_le (by omega)] at this
    | some F =>
      rw [grL_take hk] at h
      cases hg : grL (Fs.take k) with
      | none => rw [hg] at h; cases h
      | some g0 =>
        rw [hg] at h
        have ih := fst_take hF k hg
        obtain ⟨hl, he⟩ := List.getElem?_eq_some_iff.1 hk
        rw [List.take_succ_eq_append_getElem hl, he]
        exact fst_add ih (hF F (List.mem_of_getElem? hk)) h
theorem fst_all {Fs : List Fac} {g : Gr} (hF : listOk Fs = true) (h : grL Fs = some g) : Fst Fs g := by
  unfold listOk at hF
  rw [Bool.and_eq_true] at hF
  have := fst_take (List.all_eq_true.1 hF.2) Fs.length (g := g) (by rw [List.take_of_length_le (Nat.le_refl _)]; exact h)
  rwa [List.take_of_length_le (Nat.le_refl _)] at this
/-- The state in which two variables have values. -/
def st2 (u x t y : Nat) : Int := withValue (withValue 0 u x) t y
def sum3 (k : Nat → Int) : Int := k 0 + k 1 + k 2
/-- The variables next to one, but another. -/
def nbs (g : Gr) (u but : Nat) : List Nat := (bitsN (g.nx u)).filter fun w => w != but
def msg (Fs : List Fac) (g : Gr) : Nat → Nat → Nat → Nat → Int
  | 0, _, _, _ => 0
  | n + 1, u, t, y => sum3 fun x => (nbs g u t).foldl (fun p w => p * msg Fs g n w u x) (ownL Fs u x) * fAt (btw Fs u t) (st2 u x t y)
def msgT (Fs : List Fac) (g : Gr) (u t y : Nat) : Int := msg Fs g 3 u t y
/-- What a variable knows, after the first of those next to it. -/
def allP (Fs : List Fac) (g : Gr) (u but x k : Nat) : Int := ((nbs g u but).take k).foldl (fun p w => p * msgT Fs g w u x) (ownL Fs u x)
def allT (Fs : List Fac) (g : Gr) (u but x : Nat) : Int := (nbs g u but).foldl (fun p w => p * msgT Fs g w u x) (ownL Fs u x)
theorem foldl_same {f h : Int → Nat → Int} : ∀ (l : List Nat) (p : Int), (∀ q, ∀ w ∈ l, f q w = h q w) → l.foldl f p = l.foldl h p
  | [], p, _ => rfl
  | w :: r, p, e => by
    rw [List.foldl_cons, List.foldl_cons, e p w List.mem_cons_self]
    exact foldl_same r _ (fun q u hu => e q u (List.mem_cons_of_mem _ hu))
theorem msg_more (Fs : List Fac) (g : Gr) : ∀ (n u t y : Nat), g.dep n u t = true → msg Fs g (n + 1) u t y = msg Fs g n u t y
  | 0, u, t, y, h => by cases h
  | n + 1, u, t, y, h => by
    have hd := List.all_eq_true.1 (show (bitsN (g.nx u)).all (fun w => w == t || g.dep n w u) = true from h)
    show (sum3 fun x => (nbs g u t).foldl (fun p w => p * msg Fs g (n + 1) w u x) (ownL Fs u x) * fAt (btw Fs u t) (st2 u x t y)) = sum3 fun x => (nbs g u t).foldl (fun p w => p * msg Fs g n w u x) (ownL Fs u x) * fAt (btw Fs u t) (st2 u x t y)
    have e : ∀ x, (nbs g u t).foldl (fun p w => p * msg Fs g (n + 1) w u x) (ownL Fs u x) = (nbs g u t).foldl (fun p w => p * msg Fs g n w u x) (ownL Fs u x) := fun x => foldl_same _ _ fun q w hw => by
      unfold nbs at hw
      obtain ⟨h1, h2⟩ := List.mem_filter.1 hw
      have h3 := hd w h1
      rw [Bool.or_eq_true, beq_iff_eq] at h3
      rcases h3 with h3 | h3
      · rw [h3] at h2
        simp at h2
      · rw [msg_more Fs g n w u x h3]
    unfold sum3
    dsimp only
    rw [e 0, e 1, e 2]
theorem msgT_eq {Fs : List Fac} {g : Gr} (ha : g.acy = true) {u t : Nat} (hu : u ≤ 3) (ht : t ≤ 3) (h : (g.nx u).testBit t = true) (y : Nat) : msgT Fs g u t y = sum3 fun x => allT Fs g u t x * fAt (btw Fs u t) (st2 u x t y) := by
  have hd := dep_all g ha ⟨u, by omega⟩ ⟨t, by omega⟩ h
  have := msg_more Fs g 3 u t y hd
  unfold msgT
  rw [← this]
  rfl
theorem allP_zero (Fs : List Fac) (g : Gr) (u but x : Nat) : allP Fs g u but x 0 = ownL Fs u x := rfl
theorem allP_succ {Fs : List Fac} {g : Gr} {u but k w : Nat} (x : Nat) (h : (nbs g u but)[k]? = some w) : allP Fs g u but x (k + 1) = allP Fs g u but x k * msgT Fs g w u x := by
  obtain ⟨hl, he⟩ := List.getElem?_eq_some_iff.1 h
  unfold allP
  rw [List.take_succ_eq_append_getElem hl, List.foldl_append, he]
  rfl
theorem allP_all (Fs : List Fac) (g : Gr) (u but x : Nat) : allP Fs g u but x (nbs g u but).length = allT Fs g u but x := by
  unfold allP
  rw [List.take_of_length_le (Nat.le_refl _)]
  rfl
/-- The row of those next to one. -/
theorem nbs_over (g : Gr) {u : Nat} (hu : u ≤ 3) (t : Nat) (ht : t ≤ 4) : ((nbs g u t).map fun (w : Nat) => (w : Int)) = over (bdf (g.nx u : Int) (if t ≤ 3 then bitN (t : Int) else 0)) ∧ (nbs g u t).length ≤ 4 := by
  have hx := (prs_row g ⟨u, by omega⟩).2.2.1
  have hall : ∀ n : Fin 16, ∀ t : Fin 5, (((bitsN n.val).filter fun w => w != t.val).map fun (w : Nat) => (w : Int)) = over (bdf (n.val : Int) (if t.val ≤ 3 then bitN (t.val : Int) else 0)) ∧ ((bitsN n.val).filter fun w => w != t.val).length ≤ 4 := by decide +kernel
  exact hall ⟨g.nx u, hx⟩ ⟨t, by omega⟩
theorem nbs_mem {g : Gr} {u t w : Nat} (h : w ∈ nbs g u t) : w ≤ 3 ∧ (g.nx u).testBit w = true ∧ w ≠ t := by
  unfold nbs bitsN at h
  obtain ⟨h1, h2⟩ := List.mem_filter.1 h
  obtain ⟨h3, h4⟩ := List.mem_filter.1 h1
  have := List.mem_range.1 h3
  exact ⟨by omega, h4, by simpa using h2⟩
end Go.Proofs.Ytghkpmafocacoaa
