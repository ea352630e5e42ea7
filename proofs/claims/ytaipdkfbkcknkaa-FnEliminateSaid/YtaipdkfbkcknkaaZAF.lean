/- Parts of the proof: K4. -/
import Derived.Test.YtaipdkfbkcknkaaZAC
import Derived.Test.YtaipdkfbkcknkaaZAE
namespace Go.Proofs.Ytaipdkfbkcknkaa
set_option maxRecDepth 100000
set_option linter.unusedVariables false
open Go.RowKit
theorem facOk_le {M N : Int} {F : Fac} (h : facOk M F = true) (hMN : M ≤ N) : facOk N F = true := by
  unfold facOk numsOk at h ⊢
  rw [Bool.and_eq_true, Bool.and_eq_true] at h ⊢
  refine ⟨h.1, List.all_eq_true.2 fun x hx => ?_, h.2.2⟩
  have := inB_iff.1 (List.all_eq_true.1 h.2.1 x hx)
  exact inB_iff.2 ⟨this.1, by omega⟩
/-- The greatest number of a factor, or 1. -/
def mB (F : Fac) : Int := F.ns.foldl max 1
theorem fmax_ge : ∀ (l : List Int) (a : Int), a ≤ l.foldl max a ∧ ∀ x ∈ l, x ≤ l.foldl max a
  | [], a => ⟨Int.le_refl _, fun x hx => by cases hx⟩
  | y :: r, a => by
    have ih := fmax_ge r (max a y)
    rw [List.foldl_cons]
    refine ⟨by omega, fun x hx => ?_⟩
    rcases List.mem_cons.1 hx with rfl | hx
    · omega
    · exact ih.2 x hx
theorem fmax_le {M : Int} : ∀ (l : List Int) (a : Int), a ≤ M → (∀ x ∈ l, x ≤ M) → l.foldl max a ≤ M
  | [], a, ha, _ => ha
  | y :: r, a, ha, h => by
    rw [List.foldl_cons]
    have := h y List.mem_cons_self
    exact fmax_le r _ (by omega) fun x hx => h x (List.mem_cons_of_mem _ hx)
theorem mB_pos (F : Fac) : 1 ≤ mB F := (fmax_ge F.ns 1).1
theorem mB_le {M : Int} {F : Fac} (h : facOk M F = true) (hM : 1 ≤ M) : mB F ≤ M := fmax_le F.ns 1 hM fun x hx => by
  obtain ⟨_, h2, _⟩ := fac_parts h
  exact (inB_iff.1 (List.all_eq_true.1 h2 x hx)).2
theorem mB_ok {M : Int} {F : Fac} (h : facOk M F = true) : facOk (mB F) F = true := by
  unfold facOk numsOk at h ⊢
  rw [Bool.and_eq_true, Bool.and_eq_true] at h ⊢
  refine ⟨h.1, List.all_eq_true.2 fun x hx => ?_, h.2.2⟩
  exact inB_iff.2 ⟨(inB_iff.1 (List.all_eq_true.1 h.2.1 x hx)).1, (fmax_ge F.ns 1).2 x hx⟩
def pb (Fs : List Fac) : Int := Fs.foldr (fun F k => mB F * k) 1
theorem pb_cons (F : Fac) (Fs : List Fac) : pb (F :: Fs) = mB F * pb Fs := rfl
theorem pb_pos : ∀ Fs, 1 ≤ pb Fs
  | [] => by decide
  | F :: r => by
    rw [pb_cons]
    have h1 := mB_pos F
    have h2 := pb_pos r
    have := Int.mul_le_mul h1 h2 (by decide) (by omega)
    omega
theorem pb_append : ∀ (a b : List Fac), pb (a ++ b) = pb a * pb b
  | [], b => by show pb b = 1 * pb b; omega
  | F :: r, b => by rw [List.cons_append, pb_cons, pb_cons, pb_append r b, Int.mul_assoc]
theorem pb_one (F : Fac) : pb [F] = mB F := by show mB F * 1 = mB F; omega
theorem pb_part (p : Fac → Bool) : ∀ Fs, pb (Fs.filter p) * pb (Fs.filter fun F => !p F) = pb Fs
  | [] => by simp [pb]
  | F :: r => by
    have ih := pb_part p r
    cases hp : p F
    · rw [List.filter_cons_of_neg (by simp [hp]), List.filter_cons_of_pos (by simp [hp]), pb_cons, pb_cons, ← ih, Int.mul_left_comm]
    · rw [List.filter_cons_of_pos hp, List.filter_cons_of_neg (by simp [hp]), pb_cons, pb_cons, ← ih, Int.mul_assoc]
theorem le_mul_pos {a b : Int} (ha : 1 ≤ a) (hb : 1 ≤ b) : a ≤ a * b := by
  have := Int.mul_le_mul_of_nonneg_left hb (show 0 ≤ a by omega)
  omega
theorem pb_sub (p : Fac → Bool) (Fs : List Fac) : pb (Fs.filter p) ≤ pb Fs := by
  have := le_mul_pos (pb_pos (Fs.filter p)) (pb_pos (Fs.filter fun F => !p F))
  rw [pb_part] at this
  exact this
theorem pb_take (Fs : List Fac) (k : Nat) : pb (Fs.take k) ≤ pb Fs := by
  have := le_mul_pos (pb_pos (Fs.take k)) (pb_pos (Fs.drop k))
  rwa [← pb_append, List.take_append_drop] at this
theorem pb_nine : ∀ {Fs : List Fac}, (∀ F ∈ Fs, facOk 9 F = true) → pb Fs ≤ 9 ^ Fs.length
  | [], _ => by decide
  | F :: r, h => by
    have ih := pb_nine fun G hG => h G (List.mem_cons_of_mem _ hG)
    have h1 := mB_le (h F List.mem_cons_self) (by decide)
    have h2 := pb_pos r
    rw [pb_cons, List.length_cons, Int.pow_succ]
    have := Int.mul_le_mul h1 ih (by omega) (by decide)
    rw [Int.mul_comm (9 ^ r.length) 9]
    exact this
def Fine (Fs : List Fac) : Prop := ∀ F ∈ Fs, facOk (mB F) F = true
theorem facBy_ok (L : Fin 16) {g : Int → Int} {M : Int} (h : ∀ st, 0 ≤ st ∧ st ≤ 80 → 0 ≤ g st ∧ g st ≤ M) : facOk M (facBy_ (L.val : Int) g) = true := by
  have hL := over_ok L
  have h4 := pow_four hL.2.2
  unfold facOk numsOk
  rw [Bool.and_eq_true, Bool.and_eq_true]
  refine ⟨hL.1, List.all_eq_true.2 fun x hx => ?_, decide_eq_true (facBy_len _ _)⟩
  unfold facBy_ at hx
  obtain ⟨i, hi, rfl⟩ := List.mem_map.1 hx
  have hi' := List.mem_range.1 hi
  exact inB_iff.2 (h _ (st_idx L ⟨i, by omega⟩ hi').2)
theorem fTimes_ok {M N : Int} {F G : Fac} (hF : facOk M F = true) (hG : facOk N G = true) (hM : 0 ≤ M) (hN : 0 ≤ N) : facOk (M * N) (fTimes F G) = true := by
  obtain ⟨A, _, hA, _⟩ := fac_set hF
  obtain ⟨B, _, hB, _⟩ := fac_set hG
  obtain ⟨C, hC, _⟩ := bor_fin A B
  unfold fTimes
  rw [hA, hB, hC]
  refine facBy_ok C fun st _ => ?_
  have h1 := fAt_bd hF hM st
  have h2 := fAt_bd hG hN st
  exact ⟨Int.mul_nonneg h1.1 h2.1, Int.mul_le_mul h1.2 h2.2 h2.1 hM⟩
theorem fTimes_set {M N : Int} {F G : Fac} (hF : facOk M F = true) (hG : facOk N G = true) : setOf (fTimes F G).vs = bor (setOf F.vs) (setOf G.vs) := by
  obtain ⟨A, _, hA, _⟩ := fac_set hF
  obtain ⟨B, _, hB, _⟩ := fac_set hG
  obtain ⟨C, hC, _⟩ := bor_fin A B
  unfold fTimes facBy_
  dsimp only
  rw [hA, hB, hC]
  exact (over_ok C).2.1
theorem fOut_set {M : Int} {F : Fac} (hF : facOk M F = true) {v x : Int} (hv : 0 ≤ v ∧ v ≤ 3) : setOf (fOut F v x).vs = bdf (setOf F.vs) (bitN v) := by
  obtain ⟨A, _, hA, _⟩ := fac_set hF
  obtain ⟨V, hV, _⟩ := nat_three hv
  obtain ⟨C, hC, _⟩ := bdf_fin A V
  unfold fOut facBy_
  dsimp only
  rw [hA, hV, hC]
  exact (over_ok C).2.1
theorem fOut_ok {M : Int} {F : Fac} (hF : facOk M F = true) (hM : 0 ≤ M) {v : Int} (hv : 0 ≤ v ∧ v ≤ 3) : facOk (3 * M) (fOut F v (-1)) = true := by
  obtain ⟨A, _, hA, _⟩ := fac_set hF
  obtain ⟨V, hV, _⟩ := nat_three hv
  obtain ⟨C, hC, _⟩ := bdf_fin A V
  unfold fOut
  rw [hA, hV, hC]
  refine facBy_ok C fun st hs => ?_
  have h0 := fAt_bd hF hM (withValue st (V.val : Int) 0)
  have h1 := fAt_bd hF hM (withValue st (V.val : Int) 1)
  have h2 := fAt_bd hF hM (withValue st (V.val : Int) 2)
  simp
  omega
/-- A factor is what its set and its numbers in all states say. -/
theorem fac_eta {M : Int} {F : Fac} (h : facOk M F = true) : F = facBy_ (setOf F.vs) (fAt F) := by
  obtain ⟨A, hA, hs, _⟩ := fac_set h
  obtain ⟨_, _, hl, _⟩ := fac_parts h
  have h4 := pow_four (over_ok A).2.2
  rw [hs]
  obtain ⟨vs, ns⟩ := F
  simp only at hA hl
  subst hA
  unfold facBy_
  congr 1
  apply List.ext_getElem?
  intro i
  by_cases hi : i < 3 ^ (over (A.val : Int)).length
  · rw [List.getElem?_map, List.getElem?_range hi]
    show ns[i]? = some (ns.getD (idx (over (A.val : Int)) (stOf (over (A.val : Int)) (i : Int))).toNat 0)
    have := (st_idx A ⟨i, by omega⟩ hi).1
    simp only at this
    rw [this, Int.toNat_natCast, List.getD_eq_getElem?_getD, List.getElem?_eq_getElem (by omega)]
    rfl
  · rw [List.getElem?_eq_none (by omega), List.getElem?_eq_none (by simp; omega)]
def oneF : Fac := ⟨[], [1]⟩
def onesF (v : Int) : Fac := ⟨[v], [1, 1, 1]⟩
theorem one_ok : facOk 1 oneF = true := by decide
theorem ones_ok : ∀ v : Fin 4, facOk 1 (onesF (v.val : Int)) = true := by decide +kernel
theorem ones_at {v st : Int} (hv : 0 ≤ v ∧ v ≤ 3) (hs : 0 ≤ st ∧ st ≤ 80) : fAt (onesF v) st = 1 := by
  have := value_bd hs hv
  unfold fAt onesF idx
  simp only [List.foldr_cons, List.foldr_nil]
  obtain h | h | h : valueAt st v = 0 ∨ valueAt st v = 1 ∨ valueAt st v = 2 := by omega
  all_goals rw [h]; rfl
def prodG (G : Fac) (Fs : List Fac) : Fac := Fs.foldl fTimes G
def prodF (Fs : List Fac) : Fac := prodG oneF Fs
theorem prodG_all : ∀ (Fs : List Fac), Fine Fs → ∀ {G : Fac} {M : Int}, 1 ≤ M → facOk M G = true → facOk (M * pb Fs) (prodG G Fs) = true ∧
    (∀ st, 0 ≤ st ∧ st ≤ 80 → fAt (prodG G Fs) st = Fs.foldl (fun m F => m * fAt F st) (fAt G st)) ∧ ∀ w, w ≤ 3 → tb (setOf (prodG G Fs).vs) w = (tb (setOf G.vs) w || Fs.any fun F => tb (setOf F.vs) w)
  | [], _, G, M, _, h => ⟨by show facOk (M * 1) G = true; rwa [Int.mul_one], fun _ _ => rfl, fun w _ => by simp [prodG]⟩
  | F :: r, hf, G, M, hM, h => by
    have hF := hf F List.mem_cons_self
    have h1 := fTimes_ok h hF (by omega) (by have := mB_pos F; omega)
    have hp := le_mul_pos hM (mB_pos F)
    obtain ⟨i1, i2, i3⟩ := prodG_all r (fun H hH => hf H (List.mem_cons_of_mem _ hH)) (show 1 ≤ M * mB F by omega) h1
    have e : prodG G (F :: r) = prodG (fTimes G F) r := rfl
    rw [e]
    refine ⟨by rw [pb_cons, ← Int.mul_assoc]; exact i1, fun st hs => ?_, fun w hw => ?_⟩
    · rw [i2 st hs, fTimes_at h hF hs]; rfl
    · rw [i3 w hw, fTimes_set h hF, tb_bor, List.any_cons, Bool.or_assoc]
theorem prodF_all {Fs : List Fac} (hf : Fine Fs) : facOk (pb Fs) (prodF Fs) = true ∧ (∀ st, 0 ≤ st ∧ st ≤ 80 → fAt (prodF Fs) st = prodAt Fs st) ∧ ∀ w, w ≤ 3 → tb (setOf (prodF Fs).vs) w = Fs.any fun F => tb (setOf F.vs) w := by
  obtain ⟨h1, h2, h3⟩ := prodG_all Fs hf (by decide) one_ok
  rw [Int.one_mul] at h1
  refine ⟨h1, h2, fun w hw => ?_⟩
  show tb (setOf (prodG oneF Fs).vs) w = _
  rw [h3 w hw, show tb (setOf oneF.vs) w = false from by unfold tb; exact Nat.zero_testBit _, Bool.false_or]
def hasF (v : Int) (F : Fac) : Bool := decide (v ∈ F.vs)
def havF (Fs : List Fac) (v : Int) : List Fac := Fs.filter (hasF v)
def witF (Fs : List Fac) (v : Int) : List Fac := Fs.filter fun F => !hasF v F
/-- The product by which a variable is eliminated, the factor that comes of it, and the list without it. -/
def prodV (Fs : List Fac) (v : Int) : Fac := if havF Fs v = [] then onesF v else prodF (havF Fs v)
def elimF (Fs : List Fac) (v : Int) : Fac := fOut (prodV Fs v) v (-1)
def elim1 (Fs : List Fac) (v : Int) : List Fac := witF Fs v ++ [elimF Fs v]
def elimA (Fs : List Fac) (os : List Int) : List Fac := os.foldl elim1 Fs
def setsF (Fs : List Fac) : List Int := Fs.map fun F => setOf F.vs
theorem has_tb {M : Int} {F : Fac} (h : facOk M F = true) (v : Fin 4) : hasF (v.val : Int) F = tb (setOf F.vs) v.val := by
  obtain ⟨A, hA, hs, _⟩ := fac_set h
  unfold hasF
  rw [hs, hA, Bool.eq_iff_iff, decide_eq_true_eq]
  exact over_mem A v
theorem fine_filter {Fs : List Fac} (h : Fine Fs) (p : Fac → Bool) : Fine (Fs.filter p) := fun F hF => h F (List.mem_filter.1 hF).1
theorem sets_sts {Fs : List Fac} (h : Fine Fs) : Sts (setsF Fs) := fun s hs => by
  obtain ⟨F, hF, rfl⟩ := List.mem_map.1 hs
  obtain ⟨A, _, hA, _⟩ := fac_set (h F hF)
  rw [hA]
  omega
theorem prodV_all {Fs : List Fac} (h : Fine Fs) (v : Fin 4) : facOk (pb (havF Fs (v.val : Int))) (prodV Fs (v.val : Int)) = true ∧ (∀ st, 0 ≤ st ∧ st ≤ 80 → fAt (prodV Fs (v.val : Int)) st = prodAt (havF Fs (v.val : Int)) st) ∧ setOf (prodV Fs (v.val : Int)).vs = nbS (setsF Fs) v.val := by
  have hnb := nbS_bd (sets_sts h) v.val
  have hext : ∀ {F : Fac} {M : Int}, facOk M F = true → (∀ w, w ≤ 3 → tb (setOf F.vs) w = (decide (v.val = w) || (havF Fs (v.val : Int)).any fun F => tb (setOf F.vs) w)) → setOf F.vs = nbS (setsF Fs) v.val := fun {F M} hF ht => by
    obtain ⟨A, _, hA, _⟩ := fac_set hF
    obtain ⟨B, hB⟩ := fin16 hnb
    rw [hA] at ht ⊢
    rw [hB]
    have : A = B := set_ext A B fun u => by
      rw [ht u.val (by omega), ← hB, nbS_tb _ (by omega) (by omega)]
      congr 1
      unfold havF setsF
      rw [any_filter_, List.any_map]
      refine Bool.eq_iff_iff.2 ?_
      rw [List.any_eq_true, List.any_eq_true]
      constructor
      · rintro ⟨G, hG, hq⟩
        refine ⟨G, hG, ?_⟩
        rw [has_tb (h G hG) v] at hq
        exact hq
      · rintro ⟨G, hG, hq⟩
        refine ⟨G, hG, ?_⟩
        rw [has_tb (h G hG) v]
        exact hq
    rw [this]
  unfold prodV
  by_cases he : havF Fs (v.val : Int) = []
  · rw [if_pos he, he]
    refine ⟨ones_ok v, fun st hs => ones_at (by omega) hs, ?_⟩
    refine hext (ones_ok v) fun w hw => ?_
    rw [he]
    have : ∀ v w : Fin 4, tb (setOf (onesF (v.val : Int)).vs) w.val = (decide (v.val = w.val) || ([] : List Fac).any fun F => tb (setOf F.vs) w.val) := by decide +kernel
    exact this v ⟨w, by omega⟩
  · rw [if_neg he]
    obtain ⟨h1, h2, h3⟩ := prodF_all (fine_filter h (hasF (v.val : Int)))
    refine ⟨h1, h2, hext h1 fun w hw => ?_⟩
    show tb (setOf (prodF (havF Fs (v.val : Int))).vs) w = _
    rw [show tb (setOf (prodF (havF Fs (v.val : Int))).vs) w = _ from h3 w hw]
    by_cases hvw : v.val = w
    · subst hvw
      rw [decide_eq_true rfl, Bool.true_or]
      obtain ⟨G, hG⟩ : ∃ G, G ∈ havF Fs (v.val : Int) := List.exists_mem_of_ne_nil _ he
      refine List.any_eq_true.2 ⟨G, hG, ?_⟩
      obtain ⟨hG1, hG2⟩ := List.mem_filter.1 hG
      rw [← has_tb (h G hG1) v]
      exact hG2
    · rw [decide_eq_false hvw, Bool.false_or]
      rfl
theorem elimF_ok {Fs : List Fac} (h : Fine Fs) (v : Fin 4) : facOk (3 * pb (havF Fs (v.val : Int))) (elimF Fs (v.val : Int)) = true :=
  fOut_ok (prodV_all h v).1 (by have := pb_pos (havF Fs (v.val : Int)); omega) (by omega)
theorem elim1_fine {Fs : List Fac} (h : Fine Fs) (v : Fin 4) : Fine (elim1 Fs (v.val : Int)) := fun F hF => by
  rcases List.mem_append.1 hF with hF | hF
  · exact h F (List.mem_filter.1 hF).1
  · rw [List.mem_singleton.1 hF]
    exact mB_ok (elimF_ok h v)
theorem elim1_pb {Fs : List Fac} (h : Fine Fs) (v : Fin 4) : pb (elim1 Fs (v.val : Int)) ≤ 3 * pb Fs := by
  unfold elim1
  rw [pb_append, pb_one]
  have h1 := pb_pos (havF Fs (v.val : Int))
  have h2 := mB_le (elimF_ok h v) (by omega)
  have h3 := pb_pos (witF Fs (v.val : Int))
  have h4 : pb (havF Fs (v.val : Int)) * pb (witF Fs (v.val : Int)) = pb Fs := pb_part (hasF (v.val : Int)) Fs
  have h5 := Int.mul_le_mul_of_nonneg_left h2 (show 0 ≤ pb (witF Fs (v.val : Int)) by omega)
  have h6 : pb (witF Fs (v.val : Int)) * (3 * pb (havF Fs (v.val : Int))) = 3 * (pb (havF Fs (v.val : Int)) * pb (witF Fs (v.val : Int))) := by rw [Int.mul_left_comm, Int.mul_comm (pb (witF Fs (v.val : Int)))]
  rw [h6, h4] at h5
  exact h5
theorem elim1_len (Fs : List Fac) (v : Int) : (elim1 Fs v).length ≤ Fs.length + 1 := by
  unfold elim1 witF
  rw [List.length_append]
  have := List.length_filter_le (fun F => !hasF v F) Fs
  simp
  omega
theorem elim1_sets {Fs : List Fac} (h : Fine Fs) (v : Fin 4) : setsF (elim1 Fs (v.val : Int)) = elS1 (setsF Fs) v.val := by
  unfold elim1 setsF elS1
  rw [List.map_append, List.map_cons, List.map_nil]
  congr 1
  · unfold witF
    rw [List.filter_map]
    congr 1
    refine List.filter_congr fun F hF => ?_
    rw [has_tb (h F hF) v]
    rfl
  · obtain ⟨h1, _, h3⟩ := prodV_all h v
    show [setOf (elimF Fs (v.val : Int)).vs] = _
    unfold elimF
    rw [fOut_set h1 (by omega), h3]
    rfl
theorem elim1_gr {Fs : List Fac} (h : Fine Fs) (v : Fin 4) : grS (setsF (elim1 Fs (v.val : Int))) = (grS (setsF Fs)).el v.val := by
  rw [elim1_sets h, el_grS (sets_sts h) (by omega)]
end Go.Proofs.Ytaipdkfbkcknkaa
