/- Factors: the variables' values as an index, products, sums over a variable, what is set; plain. -/
import Derived.Test.YtaipdkfbkcknkaaLiv
import Derived.Test.YtaipdkfbkcknkaaAn
namespace Go.Proofs.Ytaipdkfbkcknkaa
set_option maxRecDepth 100000
set_option linter.unusedVariables false
open Go.RowKit

structure Fac where
  vs : List Int
  ns : List Int
def vAt (vs : List Int) (i : Nat) : Int := vs.getD i 0
def vOkAt (vs : List Int) (i : Nat) : Bool := inB (vAt vs i) 0 3 && (decide (i = 0) || decide (vAt vs (i - 1) < vAt vs i))
def varsOk (vs : List Int) : Bool := (List.range vs.length).all (vOkAt vs)
def facOk (M : Int) (F : Fac) : Bool := varsOk F.vs && (numsOk M F.ns && decide (F.ns.length = 3 ^ F.vs.length))
/-- The index of a number: the first variable changes first. -/
def idx (vs : List Int) (st : Int) : Int := vs.foldr (fun v at_ => 3 * at_ + valueAt st v) 0
def fAt (F : Fac) (st : Int) : Int := F.ns.getD (idx F.vs st).toNat 0
def over (L : Int) : List Int := ((List.range 4).filter fun v => tb L v).map fun (v : Nat) => (v : Int)
def setOf (vs : List Int) : Int := vs.foldl (fun s v => bor s (bitN v)) 0
/-- The state that has the values of an index, and 0 for all other variables. -/
def stF : List Int → Int → Int → Int
  | [], _, x => x
  | v :: r, i, x => stF r (i / 3) (withValue x v (i % 3))
def stOf (vs : List Int) (i : Int) : Int := stF vs i 0

theorem vars_five {vs : List Int} (h : varsOk vs = true) : ∀ i, i < vs.length → (0 ≤ vAt vs i ∧ vAt vs i ≤ 3) ∧ (0 < i → vAt vs (i - 1) < vAt vs i) := fun i hi => by
  have := List.all_eq_true.1 h i (List.mem_range.2 hi)
  unfold vOkAt at this
  rw [Bool.and_eq_true, Bool.or_eq_true] at this
  refine ⟨inB_iff.1 this.1, fun h0 => ?_⟩
  rcases this.2 with h1 | h1
  · have := of_decide_eq_true h1; omega
  · exact of_decide_eq_true h1
/-- Ascending variables are those of their set. -/
theorem vars_over {vs : List Int} (h : varsOk vs = true) : ∃ L : Fin 16, vs = over (L.val : Int) := by
  have hv := vars_five h
  match vs, hv with
  | [], _ => exact ⟨0, by decide⟩
  | [a], hv =>
    have h0 := hv 0 (by simp)
    simp [vAt] at h0
    obtain rfl | rfl | rfl | rfl : a = 0 ∨ a = 1 ∨ a = 2 ∨ a = 3 := by omega
    · exact ⟨1, by decide⟩
    · exact ⟨2, by decide⟩
    · exact ⟨4, by decide⟩
    · exact ⟨8, by decide⟩
  | [a, b], hv =>
    have h0 := hv 0 (by simp)
    have h1 := hv 1 (by simp)
    simp [vAt] at h0 h1
    have : (a = 0 ∧ b = 1) ∨ (a = 0 ∧ b = 2) ∨ (a = 0 ∧ b = 3) ∨ (a = 1 ∧ b = 2) ∨ (a = 1 ∧ b = 3) ∨ (a = 2 ∧ b = 3) := by omega
    obtain ⟨rfl, rfl⟩ | ⟨rfl, rfl⟩ | ⟨rfl, rfl⟩ | ⟨rfl, rfl⟩ | ⟨rfl, rfl⟩ | ⟨rfl, rfl⟩ := this
    · exact ⟨3, by decide⟩
    · exact ⟨5, by decide⟩
    · exact ⟨9, by decide⟩
    · exact ⟨6, by decide⟩
    · exact ⟨10, by decide⟩
    · exact ⟨12, by decide⟩
  | [a, b, c], hv =>
    have h0 := hv 0 (by simp)
    have h1 := hv 1 (by simp)
    have h2 := hv 2 (by simp)
    simp [vAt] at h0 h1 h2
    have : (a = 0 ∧ b = 1 ∧ c = 2) ∨ (a = 0 ∧ b = 1 ∧ c = 3) ∨ (a = 0 ∧ b = 2 ∧ c = 3) ∨ (a = 1 ∧ b = 2 ∧ c = 3) := by omega
    obtain ⟨rfl, rfl, rfl⟩ | ⟨rfl, rfl, rfl⟩ | ⟨rfl, rfl, rfl⟩ | ⟨rfl, rfl, rfl⟩ := this
    · exact ⟨7, by decide⟩
    · exact ⟨11, by decide⟩
    · exact ⟨13, by decide⟩
    · exact ⟨14, by decide⟩
  | [a, b, c, d], hv =>
    have h0 := hv 0 (by simp)
    have h1 := hv 1 (by simp)
    have h2 := hv 2 (by simp)
    have h3 := hv 3 (by simp)
    simp [vAt] at h0 h1 h2 h3
    obtain ⟨rfl, rfl, rfl, rfl⟩ : a = 0 ∧ b = 1 ∧ c = 2 ∧ d = 3 := by omega
    exact ⟨15, by decide⟩
  | a :: b :: c :: d :: e :: r, hv =>
    have h0 := hv 0 (by simp)
    have h1 := hv 1 (by simp)
    have h2 := hv 2 (by simp)
    have h3 := hv 3 (by simp)
    have h4 := hv 4 (by simp)
    simp [vAt] at h0 h1 h2 h3 h4
    omega
theorem over_ok : ∀ L : Fin 16, varsOk (over (L.val : Int)) = true ∧ setOf (over (L.val : Int)) = L.val ∧ (over (L.val : Int)).length ≤ 4 := by decide +kernel
theorem over_mem : ∀ L : Fin 16, ∀ v : Fin 4, ((v.val : Int) ∈ over (L.val : Int)) ↔ tb (L.val : Int) v.val = true := by decide +kernel
/-- An index and its state, there and back. -/
theorem idx_st : ∀ L : Fin 16, ∀ st : Fin 81, (0 ≤ idx (over (L.val : Int)) (st.val : Int) ∧ idx (over (L.val : Int)) (st.val : Int) < ((3 ^ (over (L.val : Int)).length : Nat) : Int)) ∧
    (0 ≤ stOf (over (L.val : Int)) (idx (over (L.val : Int)) (st.val : Int)) ∧ stOf (over (L.val : Int)) (idx (over (L.val : Int)) (st.val : Int)) ≤ 80) ∧
    ∀ v : Fin 4, tb (L.val : Int) v.val = true → valueAt (stOf (over (L.val : Int)) (idx (over (L.val : Int)) (st.val : Int))) (v.val : Int) = valueAt (st.val : Int) (v.val : Int) := by decide +kernel
theorem st_idx : ∀ L : Fin 16, ∀ i : Fin 81, i.val < 3 ^ (over (L.val : Int)).length → idx (over (L.val : Int)) (stOf (over (L.val : Int)) (i.val : Int)) = i.val ∧ 0 ≤ stOf (over (L.val : Int)) (i.val : Int) ∧ stOf (over (L.val : Int)) (i.val : Int) ≤ 80 := by decide +kernel

theorem fin_of {L : Fin 16} {st : Int} (hs : 0 ≤ st ∧ st ≤ 80) : ∃ q : Fin 81, st = (q.val : Int) := ⟨⟨st.toNat, by omega⟩, by show st = (st.toNat : Int); omega⟩
/-- What an index hangs on. -/
theorem idx_agree {vs : List Int} {a b : Int} (h : ∀ v ∈ vs, valueAt a v = valueAt b v) : idx vs a = idx vs b := by
  unfold idx
  induction vs with
  | nil => rfl
  | cons v r ih =>
    rw [List.foldr_cons, List.foldr_cons, ih (fun u hu => h u (List.mem_cons_of_mem v hu)), h v List.mem_cons_self]
theorem fAt_agree {F : Fac} {a b : Int} (h : ∀ v ∈ F.vs, valueAt a v = valueAt b v) : fAt F a = fAt F b := by
  unfold fAt
  rw [idx_agree h]
/-- A list of numbers by the states of a set of variables is a factor with just these numbers. -/
def facBy_ (L : Int) (g : Int → Int) : Fac := ⟨over L, (List.range (3 ^ (over L).length)).map fun (i : Nat) => g (stOf (over L) i)⟩
theorem facBy_at (L : Fin 16) {g : Int → Int} (hg : ∀ a b : Int, 0 ≤ a ∧ a ≤ 80 → 0 ≤ b ∧ b ≤ 80 → (∀ v : Fin 4, tb (L.val : Int) v.val = true → valueAt a (v.val : Int) = valueAt b (v.val : Int)) → g a = g b) {st : Int} (hs : 0 ≤ st ∧ st ≤ 80) : fAt (facBy_ (L.val : Int) g) st = g st := by
  obtain ⟨q, rfl⟩ := fin_of (L := L) hs
  obtain ⟨h1, h2, h3⟩ := idx_st L q
  unfold fAt facBy_
  dsimp only
  rw [List.getD_eq_getElem?_getD, List.getElem?_map, List.getElem?_range (by omega)]
  show g (stOf (over (L.val : Int)) ((idx (over (L.val : Int)) (q.val : Int)).toNat : Int)) = g q.val
  rw [Int.toNat_of_nonneg h1.1]
  exact hg _ _ h2 hs h3
/-- The set of a factor's variables. -/
theorem fac_set {M : Int} {F : Fac} (h : facOk M F = true) : ∃ L : Fin 16, F.vs = over (L.val : Int) ∧ setOf F.vs = L.val ∧ ∀ v ∈ F.vs, ∃ u : Fin 4, v = (u.val : Int) ∧ tb (L.val : Int) u.val = true := by
  unfold facOk at h
  rw [Bool.and_eq_true] at h
  obtain ⟨L, hL⟩ := vars_over h.1
  refine ⟨L, hL, by rw [hL]; exact (over_ok L).2.1, fun v hv => ?_⟩
  have hv' := hv
  rw [hL] at hv'
  unfold over at hv'
  obtain ⟨u, hu, rfl⟩ := List.mem_map.1 hv'
  obtain ⟨h1, h2⟩ := List.mem_filter.1 hu
  exact ⟨⟨u, by simpa using h1⟩, rfl, h2⟩
theorem bor_fin (A B : Fin 16) : ∃ C : Fin 16, bor (A.val : Int) (B.val : Int) = (C.val : Int) ∧ ∀ v : Fin 4, tb (C.val : Int) v.val = (tb (A.val : Int) v.val || tb (B.val : Int) v.val) := by
  have hb := bor_bd (a := (A.val : Int)) (b := (B.val : Int)) (by omega) (by omega)
  refine ⟨⟨(bor (A.val : Int) (B.val : Int)).toNat, by omega⟩, by show _ = ((bor (A.val : Int) (B.val : Int)).toNat : Int); omega, fun v => ?_⟩
  show tb ((bor (A.val : Int) (B.val : Int)).toNat : Int) v.val = _
  rw [Int.toNat_of_nonneg hb.1, tb_bor]
/-- The product of two factors. -/
def fTimes (F G : Fac) : Fac := facBy_ (bor (setOf F.vs) (setOf G.vs)) fun st => fAt F st * fAt G st
theorem fTimes_at {M N : Int} {F G : Fac} (hF : facOk M F = true) (hG : facOk N G = true) {st : Int} (hs : 0 ≤ st ∧ st ≤ 80) : fAt (fTimes F G) st = fAt F st * fAt G st := by
  obtain ⟨A, _, hA, hAv⟩ := fac_set hF
  obtain ⟨B, _, hB, hBv⟩ := fac_set hG
  obtain ⟨C, hC, hCt⟩ := bor_fin A B
  unfold fTimes
  rw [hA, hB, hC]
  refine facBy_at C (fun a b ha hb h => ?_) hs
  rw [fAt_agree (F := F) (a := a) (b := b) fun v hv => ?_, fAt_agree (F := G) (a := a) (b := b) fun v hv => ?_]
  · obtain ⟨u, rfl, hu⟩ := hBv v hv
    exact h u (by rw [hCt, hu, Bool.or_true])
  · obtain ⟨u, rfl, hu⟩ := hAv v hv
    exact h u (by rw [hCt, hu, Bool.true_or])

theorem bdf_fin (A : Fin 16) (v : Fin 4) : ∃ C : Fin 16, bdf (A.val : Int) (bitN (v.val : Int)) = (C.val : Int) ∧ ∀ u : Fin 4, tb (C.val : Int) u.val = (tb (A.val : Int) u.val && !decide ((v.val : Int) = u.val)) := by
  have h0 : 0 ≤ bdf (A.val : Int) (bitN (v.val : Int)) ∧ bdf (A.val : Int) (bitN (v.val : Int)) ≤ 15 := by
    unfold bdf
    refine ⟨Int.natCast_nonneg _, ?_⟩
    have : (A.val : Int).toNat &&& (15 - (bitN (v.val : Int)).toNat) ≤ (A.val : Int).toNat := Nat.and_le_left
    omega
  refine ⟨⟨(bdf (A.val : Int) (bitN (v.val : Int))).toNat, by omega⟩, by show _ = ((bdf (A.val : Int) (bitN (v.val : Int))).toNat : Int); omega, fun u => ?_⟩
  show tb ((bdf (A.val : Int) (bitN (v.val : Int))).toNat : Int) u.val = _
  rw [Int.toNat_of_nonneg h0.1, tb_bdf (by omega) (by omega) (by omega)]
theorem nat_three {v : Int} (hv : 0 ≤ v ∧ v ≤ 3) : ∃ V : Fin 4, v = (V.val : Int) ∧ V.val = v.toNat := ⟨⟨v.toNat, by omega⟩, by show v = (v.toNat : Int); omega, rfl⟩
theorem set_ext : ∀ A B : Fin 16, (∀ u : Fin 4, tb (A.val : Int) u.val = tb (B.val : Int) u.val) → A = B := by decide +kernel
theorem facBy_congr (L : Fin 16) {g g' : Int → Int} (h : ∀ st, 0 ≤ st ∧ st ≤ 80 → g st = g' st) : facBy_ (L.val : Int) g = facBy_ (L.val : Int) g' := by
  unfold facBy_
  congr 1
  refine List.map_congr_left fun i hi => ?_
  have hi' := List.mem_range.1 hi
  have h81 : 3 ^ (over (L.val : Int)).length ≤ 81 := by
    have := (over_ok L).2.2
    calc 3 ^ (over (L.val : Int)).length ≤ 3 ^ 4 := Nat.pow_le_pow_right (by decide) this
      _ = 81 := by decide
  exact h _ (st_idx L ⟨i, by omega⟩ hi').2
/-- A factor without a variable, which is summed over (val below 0), or has a value. -/
def fOut (F : Fac) (v val : Int) : Fac := facBy_ (bdf (setOf F.vs) (bitN v)) fun st => (if val < 0 ∨ val = 0 then fAt F (withValue st v 0) else 0) + (if val < 0 ∨ val = 1 then fAt F (withValue st v 1) else 0) + (if val < 0 ∨ val = 2 then fAt F (withValue st v 2) else 0)
theorem fOut_free {M : Int} {F : Fac} (hF : facOk M F = true) {v : Int} (hv : 0 ≤ v ∧ v ≤ 3) {x a b : Int} (hx : 0 ≤ x ∧ x ≤ 2) (ha : 0 ≤ a ∧ a ≤ 80) (hb : 0 ≤ b ∧ b ≤ 80) {A : Fin 16} (hA : F.vs = over (A.val : Int)) (h : ∀ u : Fin 4, tb (A.val : Int) u.val = true → (u.val : Int) ≠ v → valueAt a (u.val : Int) = valueAt b (u.val : Int)) : fAt F (withValue a v x) = fAt F (withValue b v x) := by
  refine fAt_agree fun w hw => ?_
  rw [hA] at hw
  unfold over at hw
  obtain ⟨u, hu, rfl⟩ := List.mem_map.1 hw
  obtain ⟨h1, h2⟩ := List.mem_filter.1 hu
  have hu4 : u < 4 := by simpa using h1
  by_cases he : (u : Int) = v
  · rw [he, (valueAt_with ha hv hx).1, (valueAt_with hb hv hx).1]
  · rw [(valueAt_with ha hv hx).2 u (by omega) (by omega) he, (valueAt_with hb hv hx).2 u (by omega) (by omega) he]
    exact h ⟨u, hu4⟩ h2 he
theorem fOut_at {M : Int} {F : Fac} (hF : facOk M F = true) {v val : Int} (hv : 0 ≤ v ∧ v ≤ 3) {st : Int} (hs : 0 ≤ st ∧ st ≤ 80) :
    fAt (fOut F v val) st = (if val < 0 ∨ val = 0 then fAt F (withValue st v 0) else 0) + (if val < 0 ∨ val = 1 then fAt F (withValue st v 1) else 0) + (if val < 0 ∨ val = 2 then fAt F (withValue st v 2) else 0) := by
  obtain ⟨A, hAv, hA, _⟩ := fac_set hF
  obtain ⟨V, hV, _⟩ := nat_three hv
  obtain ⟨C, hC, hCt⟩ := bdf_fin A V
  unfold fOut
  rw [hA, hV, hC]
  refine facBy_at C (fun a b ha hb h => ?_) hs
  have hf : ∀ x, 0 ≤ x ∧ x ≤ 2 → fAt F (withValue a (V.val : Int) x) = fAt F (withValue b (V.val : Int) x) := fun x hx => fOut_free hF (by omega) hx ha hb hAv fun u hu hne => h u (by
    rw [hCt, hu, decide_eq_false (fun e => hne e.symm)]
    rfl)
  rw [hf 0 (by decide), hf 1 (by decide), hf 2 (by decide)]
/-- A product summed over a variable that only one of both has. -/
theorem fOut_times {M N : Int} {F G : Fac} (hF : facOk M F = true) (hG : facOk N G = true) {v : Int} (hv : 0 ≤ v ∧ v ≤ 3) (hno : v ∉ F.vs) : fOut (fTimes F G) v (-1) = fTimes F (fOut G v (-1)) := by
  obtain ⟨A, hAv, hA, _⟩ := fac_set hF
  obtain ⟨B, hBv, hB, _⟩ := fac_set hG
  obtain ⟨V, hV, _⟩ := nat_three hv
  obtain ⟨C, hC, hCt⟩ := bor_fin A B
  obtain ⟨D, hD, hDt⟩ := bdf_fin C V
  obtain ⟨E, hE, hEt⟩ := bdf_fin B V
  obtain ⟨G', hG', hGt⟩ := bor_fin A E
  have hsT : setOf (fTimes F G).vs = C.val := by
    unfold fTimes facBy_
    dsimp only
    rw [hA, hB, hC]
    exact (over_ok C).2.1
  have hsO : setOf (fOut G v (-1)).vs = E.val := by
    unfold fOut facBy_
    dsimp only
    rw [hB, hV, hE]
    exact (over_ok E).2.1
  have hnA : tb (A.val : Int) V.val = false := by
    rw [hAv] at hno
    cases h : tb (A.val : Int) V.val
    · rfl
    · exact absurd ((over_mem A V).2 h) (by rw [← hV]; exact hno)
  have hDG : D = G' := by
    have : ∀ u : Fin 4, tb (D.val : Int) u.val = tb (G'.val : Int) u.val := fun u => by
      rw [hDt, hCt, hGt, hEt]
      by_cases hu : (V.val : Int) = u.val
      · have : V = u := Fin.ext (by omega)
        subst this
        rw [hnA]
        simp
      · rw [decide_eq_false hu]
        simp
    exact set_ext D G' this
  have e1 : fOut (fTimes F G) v (-1) = facBy_ (D.val : Int) fun st => fAt F st * (fAt G (withValue st v 0) + fAt G (withValue st v 1) + fAt G (withValue st v 2)) := by
    unfold fOut
    rw [hsT, hV, hD]
    refine facBy_congr D fun st hs => ?_
    have hw := fun x (hx : 0 ≤ x ∧ x ≤ 2) => with_bd hs (show 0 ≤ (V.val : Int) ∧ (V.val : Int) ≤ 3 by omega) hx
    rw [fTimes_at hF hG (hw 0 (by decide)), fTimes_at hF hG (hw 1 (by decide)), fTimes_at hF hG (hw 2 (by decide))]
    have hfF : ∀ x, 0 ≤ x ∧ x ≤ 2 → fAt F (withValue st (V.val : Int) x) = fAt F st := fun x hx => fAt_agree fun w hw' => by
      rw [hAv] at hw'
      unfold over at hw'
      obtain ⟨u, hu, rfl⟩ := List.mem_map.1 hw'
      obtain ⟨h1, h2⟩ := List.mem_filter.1 hu
      have hne : (u : Int) ≠ (V.val : Int) := fun e => by
        have : u = V.val := by omega
        rw [this, hnA] at h2
        cases h2
      exact (valueAt_with hs (by omega) hx).2 u (by omega) (by have : u < 4 := by simpa using h1
                                                               omega) hne
    rw [hfF 0 (by decide), hfF 1 (by decide), hfF 2 (by decide)]
    simp [Int.mul_add]
  have e2 : fTimes F (fOut G v (-1)) = facBy_ (G'.val : Int) fun st => fAt F st * (fAt G (withValue st v 0) + fAt G (withValue st v 1) + fAt G (withValue st v 2)) := by
    unfold fTimes
    rw [hsO, hA, hG']
    refine facBy_congr G' fun st hs => ?_
    rw [fOut_at hG hv hs]
    simp
  rw [e1, e2, hDG]
end Go.Proofs.Ytaipdkfbkcknkaa
