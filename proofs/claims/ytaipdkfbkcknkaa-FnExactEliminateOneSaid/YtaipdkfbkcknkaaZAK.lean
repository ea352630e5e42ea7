/- Parts of the proof: K0, K1, K4, KD, Gg, K3, FU. -/
import Derived.Test.YtaipdkfbkcknkaaZAC
import Derived.Test.YtaipdkfbkcknkaaZAG
import Derived.Deep.MidRow
import Derived.Deep.WholeRow
namespace Go.Proofs.Ytaipdkfbkcknkaa
set_option maxRecDepth 100000
set_option linter.unusedVariables false
/-- Graphs of the four variables: the pairs 01 02 03 12 13 23. -/
structure Gr where
  a : Bool
  b : Bool
  c : Bool
  d : Bool
  e : Bool
  f : Bool
def Gr.nb (g : Gr) : Nat → Nat
  | 0 => 1 + 2 * g.a.toNat + 4 * g.b.toNat + 8 * g.c.toNat
  | 1 => g.a.toNat + 2 + 4 * g.d.toNat + 8 * g.e.toNat
  | 2 => g.b.toNat + 2 * g.d.toNat + 4 + 8 * g.f.toNat
  | _ => g.c.toNat + 2 * g.e.toNat + 4 * g.f.toNat + 8
def grOf (N : Nat → Nat) : Gr := ⟨(N 0).testBit 1, (N 0).testBit 2, (N 0).testBit 3, (N 1).testBit 2, (N 1).testBit 3, (N 2).testBit 3⟩
/-- A graph without a variable. -/
def Gr.el (g : Gr) (v : Nat) : Gr := grOf fun u => if u = v then 2 ^ v else if (g.nb v).testBit u then (g.nb u ||| g.nb v) &&& (15 - 2 ^ v) else g.nb u
def cntN (L : Nat) : Nat := (L % 2 + L / 2 % 2) + (L / 4 % 2 + L / 8 % 2)
def Gr.w1 (g : Gr) (v : Nat) : Nat := cntN (g.nb v)
def Gr.stepJ (g : Gr) (T J : Nat) : Nat := (List.range 4).foldl (fun R u => if J.testBit u && T.testBit u then R ||| g.nb u else R) J
def Gr.cl (g : Gr) (T v : Nat) : Nat := g.stepJ T (g.stepJ T (g.stepJ T (2 ^ v)))
/-- How many variables the product has by which one is eliminated when others are gone. -/
def Gr.wP (g : Gr) (gone v : Nat) : Nat := cntN (g.cl (gone ||| 2 ^ v) v &&& (15 - gone))
def Gr.elS (g : Gr) (p : List Nat) : Gr := p.foldl Gr.el g
def maskN (p : List Nat) : Nat := p.foldl (fun m v => m ||| 2 ^ v) 0
def Gr.nxt (g : Gr) (least : List Nat) (gone : Nat) : Nat → Nat × Nat
  | 0 => (0, 5)
  | v + 1 => if gone.testBit v then g.nxt least gone v else if max (max (g.wP gone v) (least.getD (gone ||| 2 ^ v) 0)) (least.getD 0 0) < (g.nxt least gone v).2 then (v, max (max (g.wP gone v) (least.getD (gone ||| 2 ^ v) 0)) (least.getD 0 0)) else g.nxt least gone v
def zN (n : Nat) : List Nat := List.replicate n 0
def Gr.lst (g : Gr) : Nat → List Nat
  | 0 => zN 16
  | k + 1 => (g.lst k).set (14 - k) (g.nxt (g.lst k) (14 - k) 4).2
def Gr.ord (g : Gr) (least : List Nat) : Nat → List Nat
  | 0 => []
  | k + 1 => g.ord least k ++ [(g.nxt least (maskN (g.ord least k)) 4).1]
def Gr.greedy (g : Gr) : List Nat := g.ord (zN 16) 4
/-- The model's greedy choice among the first variables: 4 is none yet. -/
def Gr.pickM (g : Gr) (out : List Nat) : Nat → Nat
  | 0 => 4
  | v + 1 => if !out.contains v && (g.pickM out v == 4 || decide (g.w1 v < g.w1 (g.pickM out v))) then v else g.pickM out v
def Gr.gm (g : Gr) : Nat → List Nat
  | 0 => []
  | k + 1 => g.gm k ++ [(g.elS (g.gm k)).pickM (g.gm k) 4]
end Go.Proofs.Ytaipdkfbkcknkaa

namespace Go.Proofs.Ytaipdkfbkcknkaa
set_option maxRecDepth 100000
set_option linter.unusedVariables false
open Go.RowKit
/-- The variables that have a set with one, and itself. -/
def nbS (ss : List Int) (u : Nat) : Int := ss.foldl (fun J s => if tb s u = true then bor J s else J) (bitN (u : Int))
def Sts (ss : List Int) : Prop := ∀ s ∈ ss, 0 ≤ s ∧ s ≤ 15
theorem fold_bdS (p : Int → Bool) : ∀ {ss : List Int}, Sts ss → ∀ {J : Int}, 0 ≤ J ∧ J ≤ 15 → 0 ≤ ss.foldl (fun J s => if p s = true then bor J s else J) J ∧ ss.foldl (fun J s => if p s = true then bor J s else J) J ≤ 15
  | [], _, _, hJ => hJ
  | s :: r, h, J, hJ => by
    rw [List.foldl_cons]
    refine fold_bdS p (fun x hx => h x (List.mem_cons_of_mem _ hx)) ?_
    split
    · exact bor_bd hJ.2 (h s List.mem_cons_self).2
    · exact hJ
theorem fold_tbS (p : Int → Bool) (w : Nat) : ∀ (ss : List Int) (J : Int), tb (ss.foldl (fun J s => if p s = true then bor J s else J) J) w = (tb J w || ss.any fun s => p s && tb s w)
  | [], J => by simp
  | s :: r, J => by
    rw [List.foldl_cons, fold_tbS p w r, List.any_cons]
    cases hp : p s
    · rw [if_neg (by decide), Bool.false_and, Bool.false_or]
    · rw [if_pos rfl, tb_bor, Bool.true_and, Bool.or_assoc]
theorem nbS_tb (ss : List Int) {u w : Nat} (hu : u ≤ 3) (hw : w ≤ 3) : tb (nbS ss u) w = (decide (u = w) || ss.any fun s => tb s u && tb s w) := by
  unfold nbS
  rw [fold_tbS (fun s => tb s u) w ss, tb_bit (by omega) (by omega) hw]
  congr 1
  rw [decide_eq_decide]
  omega
theorem nbS_bd {ss : List Int} (h : Sts ss) (u : Nat) : 0 ≤ nbS ss u ∧ nbS ss u ≤ 15 := fold_bdS (fun s => tb s u) h (bitN_le _)
theorem any_filter_ {α : Type} (p q : α → Bool) : ∀ l : List α, (l.filter p).any q = l.any fun x => p x && q x
  | [] => rfl
  | x :: r => by
    rw [List.any_cons]
    cases h : p x
    · rw [List.filter_cons_of_neg (by simp [h]), any_filter_ p q r]; simp
    · rw [List.filter_cons_of_pos h, List.any_cons, any_filter_ p q r]; simp
end Go.Proofs.Ytaipdkfbkcknkaa

namespace Go.Proofs.Ytaipdkfbkcknkaa
set_option maxRecDepth 100000
set_option linter.unusedVariables false
open Go.RowKit
theorem facOk_le {M N : Int} {F : Fac} (h : facOk M F = true) (hMN : M ≤ N) : facOk N F = true := by
  unfold facOk numsOk at h ⊢
  rw [Bool.and_eq_true, Bool.and_eq_true] at h ⊢
  refine ⟨h.1, List.all_eq_true.2 fun x hx => ?_, h.2.2⟩
  have := inB_iff.1 (List.all_eq_true.1 h.2.1 x hx)
  exact inB_iff.2 ⟨this.1, by omega⟩
/-- The greatest number of a factor, or 1. -/
def mB (F : Fac) : Int := F.ns.foldl max 1
theorem fmax_ge : ∀ (l : List Int) (a : Int), a ≤ l.foldl max a ∧ ∀ x ∈ l, x ≤ l.foldl max a
  | [], a => ⟨Int.le_refl _, fun x hx => by cases hx⟩
  | y :: r, a => by
    have ih := fmax_ge r (max a y)
    rw [List.foldl_cons]
    refine ⟨by omega, fun x hx => ?_⟩
    rcases List.mem_cons.1 hx with rfl | hx
    · omega
    · exact ih.2 x hx
theorem fmax_le {M : Int} : ∀ (l : List Int) (a : Int), a ≤ M → (∀ x ∈ l, x ≤ M) → l.foldl max a ≤ M
  | [], a, ha, _ => ha
  | y :: r, a, ha, h => by
    rw [List.foldl_cons]
    have := h y List.mem_cons_self
    exact fmax_le r _ (by omega) fun x hx => h x (List.mem_cons_of_mem _ hx)
theorem mB_pos (F : Fac) : 1 ≤ mB F := (fmax_ge F.ns 1).1
theorem mB_le {M : Int} {F : Fac} (h : facOk M F = true) (hM : 1 ≤ M) : mB F ≤ M := fmax_le F.ns 1 hM fun x hx => by
  obtain ⟨_, h2, _⟩ := fac_parts h
  exact (inB_iff.1 (List.all_eq_true.1 h2 x hx)).2
theorem mB_ok {M : Int} {F : Fac} (h : facOk M F = true) : facOk (mB F) F = true := by
  unfold facOk numsOk at h ⊢
  rw [Bool.and_eq_true, Bool.and_eq_true] at h ⊢
  refine ⟨h.1, List.all_eq_true.2 fun x hx => ?_, h.2.2⟩
  exact inB_iff.2 ⟨(inB_iff.1 (List.all_eq_true.1 h.2.1 x hx)).1, (fmax_ge F.ns 1).2 x hx⟩
def pb (Fs : List Fac) : Int := Fs.foldr (fun F k => mB F * k) 1
theorem pb_cons (F : Fac) (Fs : List Fac) : pb (F :: Fs) = mB F * pb Fs := rfl
theorem pb_pos : ∀ Fs, 1 ≤ pb Fs
  | [] => by decide
  | F :: r => by
    rw [pb_cons]
    have h1 := mB_pos F
    have h2 := pb_pos r
    have := Int.mul_le_mul h1 h2 (by decide) (by omega)
    omega
theorem pb_append : ∀ (a b : List Fac), pb (a ++ b) = pb a * pb b
  | [], b => by show pb b = 1 * pb b; omega
  | F :: r, b => by rw [List.cons_append, pb_cons, pb_cons, pb_append r b, Int.mul_assoc]
theorem pb_one (F : Fac) : pb [F] = mB F := by show mB F * 1 = mB F; omega
theorem pb_part (p : Fac → Bool) : ∀ Fs, pb (Fs.filter p) * pb (Fs.filter fun F => !p F) = pb Fs
  | [] => by simp [pb]
  | F :: r => by
    have ih := pb_part p r
    cases hp : p F
    · rw [List.filter_cons_of_neg (by simp [hp]), List.filter_cons_of_pos (by simp [hp]), pb_cons, pb_cons, ← ih, Int.mul_left_comm]
    · rw [List.filter_cons_of_pos hp, List.filter_cons_of_neg (by simp [hp]), pb_cons, pb_cons, ← ih, Int.mul_assoc]
theorem le_mul_pos {a b : Int} (ha : 1 ≤ a) (hb : 1 ≤ b) : a ≤ a * b := by
  have := Int.mul_le_mul_of_nonneg_left hb (show 0 ≤ a by omega)
  omega
theorem pb_sub (p : Fac → Bool) (Fs : List Fac) : pb (Fs.filter p) ≤ pb Fs := by
  have := le_mul_pos (pb_pos (Fs.filter p)) (pb_pos (Fs.filter fun F => !p F))
  rw [pb_part] at this
  exact this
theorem pb_take (Fs : List Fac) (k : Nat) : pb (Fs.take k) ≤ pb Fs := by
  have := le_mul_pos (pb_pos (Fs.take k)) (pb_pos (Fs.drop k))
  rwa [← pb_append, List.take_append_drop] at this
theorem pb_nine : ∀ {Fs : List Fac}, (∀ F ∈ Fs, facOk 9 F = true) → pb Fs ≤ 9 ^ Fs.length
  | [], _ => by decide
  | F :: r, h => by
    have ih := pb_nine fun G hG => h G (List.mem_cons_of_mem _ hG)
    have h1 := mB_le (h F List.mem_cons_self) (by decide)
    have h2 := pb_pos r
    rw [pb_cons, List.length_cons, Int.pow_succ]
    have := Int.mul_le_mul h1 ih (by omega) (by decide)
    rw [Int.mul_comm (9 ^ r.length) 9]
    exact this
def Fine (Fs : List Fac) : Prop := ∀ F ∈ Fs, facOk (mB F) F = true
theorem facBy_ok (L : Fin 16) {g : Int → Int} {M : Int} (h : ∀ st, 0 ≤ st ∧ st ≤ 80 → 0 ≤ g st ∧ g st ≤ M) : facOk M (facBy_ (L.val : Int) g) = true := by
  have hL := over_ok L
  have h4 := pow_four hL.2.2
  unfold facOk numsOk
  rw [Bool.and_eq_true, Bool.and_eq_true]
  refine ⟨hL.1, List.all_eq_true.2 fun x hx => ?_, decide_eq_true (facBy_len _ _)⟩
  unfold facBy_ at hx
  obtain ⟨i, hi, rfl⟩ := List.mem_map.1 hx
  have hi' := List.mem_range.1 hi
  exact inB_iff.2 (h _ (st_idx L ⟨i, by omega⟩ hi').2)
theorem fTimes_ok {M N : Int} {F G : Fac} (hF : facOk M F = true) (hG : facOk N G = true) (hM : 0 ≤ M) (hN : 0 ≤ N) : facOk (M * N) (fTimes F G) = true := by
  obtain ⟨A, _, hA, _⟩ := fac_set hF
  obtain ⟨B, _, hB, _⟩ := fac_set hG
  obtain ⟨C, hC, _⟩ := bor_fin A B
  unfold fTimes
  rw [hA, hB, hC]
  refine facBy_ok C fun st _ => ?_
  have h1 := fAt_bd hF hM st
  have h2 := fAt_bd hG hN st
  exact ⟨Int.mul_nonneg h1.1 h2.1, Int.mul_le_mul h1.2 h2.2 h2.1 hM⟩
theorem fTimes_set {M N : Int} {F G : Fac} (hF : facOk M F = true) (hG : facOk N G = true) : setOf (fTimes F G).vs = bor (setOf F.vs) (setOf G.vs) := by
  obtain ⟨A, _, hA, _⟩ := fac_set hF
  obtain ⟨B, _, hB, _⟩ := fac_set hG
  obtain ⟨C, hC, _⟩ := bor_fin A B
  unfold fTimes facBy_
  dsimp only
  rw [hA, hB, hC]
  exact (over_ok C).2.1
theorem fOut_ok {M : Int} {F : Fac} (hF : facOk M F = true) (hM : 0 ≤ M) {v : Int} (hv : 0 ≤ v ∧ v ≤ 3) : facOk (3 * M) (fOut F v (-1)) = true := by
  obtain ⟨A, _, hA, _⟩ := fac_set hF
  obtain ⟨V, hV, _⟩ := nat_three hv
  obtain ⟨C, hC, _⟩ := bdf_fin A V
  unfold fOut
  rw [hA, hV, hC]
  refine facBy_ok C fun st hs => ?_
  have h0 := fAt_bd hF hM (withValue st (V.val : Int) 0)
  have h1 := fAt_bd hF hM (withValue st (V.val : Int) 1)
  have h2 := fAt_bd hF hM (withValue st (V.val : Int) 2)
  simp
  omega
def oneF : Fac := ⟨[], [1]⟩
def onesF (v : Int) : Fac := ⟨[v], [1, 1, 1]⟩
theorem one_ok : facOk 1 oneF = true := by decide
theorem ones_ok : ∀ v : Fin 4, facOk 1 (onesF (v.val : Int)) = true := by decide +kernel
theorem ones_at {v st : Int} (hv : 0 ≤ v ∧ v ≤ 3) (hs : 0 ≤ st ∧ st ≤ 80) : fAt (onesF v) st = 1 := by
  have := value_bd hs hv
  unfold fAt onesF idx
  simp only [List.foldr_cons, List.foldr_nil]
  obtain h | h | h : valueAt st v = 0 ∨ valueAt st v = 1 ∨ valueAt st v = 2 := by omega
  all_goals rw [h]; rfl
def prodG (G : Fac) (Fs : List Fac) : Fac := Fs.foldl fTimes G
def prodF (Fs : List Fac) : Fac := prodG oneF Fs
theorem prodG_all : ∀ (Fs : List Fac), Fine Fs → ∀ {G : Fac} {M : Int}, 1 ≤ M → facOk M G = true → facOk (M * pb Fs) (prodG G Fs) = true ∧
    (∀ st, 0 ≤ st ∧ st ≤ 80 → fAt (prodG G Fs) st = Fs.foldl (fun m F => m * fAt F st) (fAt G st)) ∧ ∀ w, w ≤ 3 → tb (setOf (prodG G Fs).vs) w = (tb (setOf G.vs) w || Fs.any fun F => tb (setOf F.vs) w)
  | [], _, G, M, _, h => ⟨by show facOk (M * 1) G = true; rwa [Int.mul_one], fun _ _ => rfl, fun w _ => by simp [prodG]⟩
  | F :: r, hf, G, M, hM, h => by
    have hF := hf F List.mem_cons_self
    have h1 := fTimes_ok h hF (by omega) (by have := mB_pos F; omega)
    have hp := le_mul_pos hM (mB_pos F)
    obtain ⟨i1, i2, i3⟩ := prodG_all r (fun H hH => hf H (List.mem_cons_of_mem _ hH)) (show 1 ≤ M * mB F by omega) h1
    have e : prodG G (F :: r) = prodG (fTimes G F) r := rfl
    rw [e]
    refine ⟨by rw [pb_cons, ← Int.mul_assoc]; exact i1, fun st hs => ?_, fun w hw => ?_⟩
    · rw [i2 st hs, fTimes_at h hF hs]; rfl
    · rw [i3 w hw, fTimes_set h hF, tb_bor, List.any_cons, Bool.or_assoc]
theorem prodF_all {Fs : List Fac} (hf : Fine Fs) : facOk (pb Fs) (prodF Fs) = true ∧ (∀ st, 0 ≤ st ∧ st ≤ 80 → fAt (prodF Fs) st = prodAt Fs st) ∧ ∀ w, w ≤ 3 → tb (setOf (prodF Fs).vs) w = Fs.any fun F => tb (setOf F.vs) w := by
  obtain ⟨h1, h2, h3⟩ := prodG_all Fs hf (by decide) one_ok
  rw [Int.one_mul] at h1
  refine ⟨h1, h2, fun w hw => ?_⟩
  show tb (setOf (prodG oneF Fs).vs) w = _
  rw [h3 w hw, show tb (setOf oneF.vs) w = false from by unfold tb; exact Nat.zero_testBit _, Bool.false_or]
def hasF (v : Int) (F : Fac) : Bool := decide (v ∈ F.vs)
def havF (Fs : List Fac) (v : Int) : List Fac := Fs.filter (hasF v)
def witF (Fs : List Fac) (v : Int) : List Fac := Fs.filter fun F => !hasF v F
/-- The product by which a variable is eliminated, the factor that comes of it, and the list without it. -/
def prodV (Fs : List Fac) (v : Int) : Fac := if havF Fs v = [] then onesF v else prodF (havF Fs v)
def elimF (Fs : List Fac) (v : Int) : Fac := fOut (prodV Fs v) v (-1)
def elim1 (Fs : List Fac) (v : Int) : List Fac := witF Fs v ++ [elimF Fs v]
def setsF (Fs : List Fac) : List Int := Fs.map fun F => setOf F.vs
theorem has_tb {M : Int} {F : Fac} (h : facOk M F = true) (v : Fin 4) : hasF (v.val : Int) F = tb (setOf F.vs) v.val := by
  obtain ⟨A, hA, hs, _⟩ := fac_set h
  unfold hasF
  rw [hs, hA, Bool.eq_iff_iff, decide_eq_true_eq]
  exact over_mem A v
theorem fine_filter {Fs : List Fac} (h : Fine Fs) (p : Fac → Bool) : Fine (Fs.filter p) := fun F hF => h F (List.mem_filter.1 hF).1
theorem sets_sts {Fs : List Fac} (h : Fine Fs) : Sts (setsF Fs) := fun s hs => by
  obtain ⟨F, hF, rfl⟩ := List.mem_map.1 hs
  obtain ⟨A, _, hA, _⟩ := fac_set (h F hF)
  rw [hA]
  omega
theorem prodV_all {Fs : List Fac} (h : Fine Fs) (v : Fin 4) : facOk (pb (havF Fs (v.val : Int))) (prodV Fs (v.val : Int)) = true ∧ (∀ st, 0 ≤ st ∧ st ≤ 80 → fAt (prodV Fs (v.val : Int)) st = prodAt (havF Fs (v.val : Int)) st) ∧ setOf (prodV Fs (v.val : Int)).vs = nbS (setsF Fs) v.val := by
  have hnb := nbS_bd (sets_sts h) v.val
  have hext : ∀ {F : Fac} {M : Int}, facOk M F = true → (∀ w, w ≤ 3 → tb (setOf F.vs) w = (decide (v.val = w) || (havF Fs (v.val : Int)).any fun F => tb (setOf F.vs) w)) → setOf F.vs = nbS (setsF Fs) v.val := fun {F M} hF ht => by
    obtain ⟨A, _, hA, _⟩ := fac_set hF
    obtain ⟨B, hB⟩ := fin16 hnb
    rw [hA] at ht ⊢
    rw [hB]
    have : A = B := set_ext A B fun u => by
      rw [ht u.val (by omega), ← hB, nbS_tb _ (by omega) (by omega)]
      congr 1
      unfold havF setsF
      rw [any_filter_, List.any_map]
      refine Bool.eq_iff_iff.2 ?_
      rw [List.any_eq_true, List.any_eq_true]
      constructor
      · rintro ⟨G, hG, hq⟩
        refine ⟨G, hG, ?_⟩
        rw [has_tb (h G hG) v] at hq
        exact hq
      · rintro ⟨G, hG, hq⟩
        refine ⟨G, hG, ?_⟩
        rw [has_tb (h G hG) v]
        exact hq
    rw [this]
  unfold prodV
  by_cases he : havF Fs (v.val : Int) = []
  · rw [if_pos he, he]
    refine ⟨ones_ok v, fun st hs => ones_at (by omega) hs, ?_⟩
    refine hext (ones_ok v) fun w hw => ?_
    rw [he]
    have : ∀ v w : Fin 4, tb (setOf (onesF (v.val : Int)).vs) w.val = (decide (v.val = w.val) || ([] : List Fac).any fun F => tb (setOf F.vs) w.val) := by decide +kernel
    exact this v ⟨w, by omega⟩
  · rw [if_neg he]
    obtain ⟨h1, h2, h3⟩ := prodF_all (fine_filter h (hasF (v.val : Int)))
    refine ⟨h1, h2, hext h1 fun w hw => ?_⟩
    show tb (setOf (prodF (havF Fs (v.val : Int))).vs) w = _
    rw [show tb (setOf (prodF (havF Fs (v.val : Int))).vs) w = _ from h3 w hw]
    by_cases hvw : v.val = w
    · subst hvw
      rw [decide_eq_true rfl, Bool.true_or]
      obtain ⟨G, hG⟩ : ∃ G, G ∈ havF Fs (v.val : Int) := List.exists_mem_of_ne_nil _ he
      refine List.any_eq_true.2 ⟨G, hG, ?_⟩
      obtain ⟨hG1, hG2⟩ := List.mem_filter.1 hG
      rw [← has_tb (h G hG1) v]
      exact hG2
    · rw [decide_eq_false hvw, Bool.false_or]
      rfl
theorem elimF_ok {Fs : List Fac} (h : Fine Fs) (v : Fin 4) : facOk (3 * pb (havF Fs (v.val : Int))) (elimF Fs (v.val : Int)) = true :=
  fOut_ok (prodV_all h v).1 (by have := pb_pos (havF Fs (v.val : Int)); omega) (by omega)
theorem elim1_fine {Fs : List Fac} (h : Fine Fs) (v : Fin 4) : Fine (elim1 Fs (v.val : Int)) := fun F hF => by
  rcases List.mem_append.1 hF with hF | hF
  · exact h F (List.mem_filter.1 hF).1
  · rw [List.mem_singleton.1 hF]
    exact mB_ok (elimF_ok h v)
theorem elim1_len (Fs : List Fac) (v : Int) : (elim1 Fs v).length ≤ Fs.length + 1 := by
  unfold elim1 witF
  rw [List.length_append]
  have := List.length_filter_le (fun F => !hasF v F) Fs
  simp
  omega
end Go.Proofs.Ytaipdkfbkcknkaa

namespace Go.Proofs.Ytaipdkfbkcknkaa
set_option maxRecDepth 100000
set_option linter.unusedVariables false
open Go.RowKit
/-- The stride of a variable in a factor over a set. -/
def strL (L : Int) (v : Nat) : Int := if tb L v = true then ((3 ^ ((List.range v).filter fun u => tb L u).length : Nat) : Int) else 0
def atK (L st : Int) : Nat → Int
  | 0 => 0
  | k + 1 => atK L st k + strL L k * valueAt st (k : Int)
theorem atK_all : ∀ L : Fin 16, ∀ st : Fin 81, atK (L.val : Int) (st.val : Int) 4 = idx (over (L.val : Int)) (st.val : Int) := by decide +kernel
theorem strL_bd : ∀ L : Fin 16, ∀ v : Fin 4, 0 ≤ strL (L.val : Int) v.val ∧ strL (L.val : Int) v.val ≤ 27 := by decide +kernel
theorem strL_zero : ∀ L : Fin 16, ∀ v : Fin 4, (strL (L.val : Int) v.val == 0) = !tb (L.val : Int) v.val := by decide +kernel
/-- The strides while they are laid: variable by variable, and the next stride. -/
theorem strL_at : ∀ L : Fin 16, ∀ k : Fin 4, k.val < (over (L.val : Int)).length → strL (L.val : Int) ((over (L.val : Int)).getD k.val 0).toNat = ((3 ^ k.val : Nat) : Int) ∧ 0 ≤ (over (L.val : Int)).getD k.val 0 ∧ (over (L.val : Int)).getD k.val 0 ≤ 3 := by decide +kernel
/-- The strides of the first k variables of a set. -/
def strP (L : Int) (k v : Nat) : Int := if (v : Int) ∈ (over L).take k then strL L v else 0
theorem strP_zero (L : Int) (v : Nat) : strP L 0 v = 0 := by unfold strP; rw [List.take_zero, if_neg (by simp)]
theorem strP_all : ∀ L : Fin 16, ∀ v : Fin 4, strP (L.val : Int) (over (L.val : Int)).length v.val = strL (L.val : Int) v.val := by decide +kernel
theorem strP_step : ∀ L : Fin 16, ∀ k : Fin 4, ∀ v : Fin 4, k.val < (over (L.val : Int)).length → strP (L.val : Int) (k.val + 1) v.val = if (v.val : Int) = (over (L.val : Int)).getD k.val 0 then ((3 ^ k.val : Nat) : Int) else strP (L.val : Int) k.val v.val := by decide +kernel
/-- The states below k whose numbers go to one place. -/
def stsOf (U L : Int) (i k : Nat) : List Nat := (List.range k).filter fun (s : Nat) => decide (vo U (s : Int) = (s : Int)) && decide (idx (over L) (s : Int) = (i : Int))
def ptN (Hs : List Fac) (U L : Int) (k : Nat) : List Int := (List.range (3 ^ (over L).length)).map fun i => isum ((stsOf U L i k).map fun (s : Nat) => prodAt Hs (s : Int))
theorem ptN_len (Hs : List Fac) (U L : Int) (k : Nat) : (ptN Hs U L k).length = 3 ^ (over L).length := by unfold ptN; simp
theorem ptN_get (Hs : List Fac) (U L : Int) (k : Nat) {i : Nat} (hi : i < 3 ^ (over L).length) : (ptN Hs U L k)[i]? = some (isum ((stsOf U L i k).map fun (s : Nat) => prodAt Hs (s : Int))) := by
  unfold ptN
  rw [List.getElem?_map, List.getElem?_range hi]
  rfl
theorem stsOf_succ (U L : Int) (i k : Nat) : stsOf U L i (k + 1) = stsOf U L i k ++ if vo U (k : Int) = (k : Int) ∧ idx (over L) (k : Int) = (i : Int) then [k] else [] := by
  unfold stsOf
  rw [List.range_succ, List.filter_append]
  congr 1
  by_cases h : vo U (k : Int) = (k : Int) ∧ idx (over L) (k : Int) = (i : Int)
  · rw [if_pos h, List.filter_cons_of_pos (by simp [h.1, h.2])]; rfl
  · rw [if_neg h, List.filter_cons_of_neg (by simpa using h)]; rfl
theorem ptN_zero (Hs : List Fac) (U L : Int) : ptN Hs U L 0 = zs (3 ^ (over L).length) := by
  unfold ptN zs
  apply List.ext_getElem?
  intro i
  rw [List.getElem?_map, List.getElem?_replicate]
  by_cases hi : i < 3 ^ (over L).length
  · rw [List.getElem?_range hi, if_pos hi]; rfl
  · rw [List.getElem?_eq_none (by simp; omega), if_neg hi]; rfl
theorem ptN_skip (Hs : List Fac) {U L : Int} {k : Nat} (h : vo U (k : Int) ≠ (k : Int)) : ptN Hs U L (k + 1) = ptN Hs U L k := by
  unfold ptN
  refine List.map_congr_left fun i _ => ?_
  rw [stsOf_succ, if_neg (fun e => h e.1), List.append_nil]
theorem ptN_add (Hs : List Fac) {U L : Int} {k j : Nat} {x : Int} (h : vo U (k : Int) = (k : Int)) (hj : idx (over L) (k : Int) = (j : Int)) (hx : (ptN Hs U L k)[j]? = some x) : (ptN Hs U L k).set j (x + prodAt Hs (k : Int)) = ptN Hs U L (k + 1) := by
  have hjl : j < 3 ^ (over L).length := by have := (List.getElem?_eq_some_iff.1 hx).1; rwa [ptN_len] at this
  have hxe := ptN_get Hs U L k hjl
  rw [hx] at hxe
  apply List.ext_getElem?
  intro i
  by_cases hi : i < 3 ^ (over L).length
  · rw [ptN_get Hs U L (k + 1) hi, stsOf_succ]
    by_cases he : j = i
    · subst he
      rw [List.getElem?_set_self (by rw [ptN_len]; exact hi), if_pos ⟨h, hj⟩, List.map_append, isum_append, Option.some.inj hxe]
      congr 2
      show _ = prodAt Hs (k : Int) + 0
      omega
    · rw [List.getElem?_set_ne he, ptN_get Hs U L k hi, if_neg (fun e => he (by omega)), List.append_nil]
  · rw [List.getElem?_eq_none (by rw [List.length_set, ptN_len]; omega), List.getElem?_eq_none (by rw [ptN_len]; omega)]
theorem sts_len (U L : Int) (i k : Nat) : (stsOf U L i k).length ≤ k := by
  unfold stsOf
  exact Nat.le_trans (List.length_filter_le _ _) (by rw [List.length_range]; exact Nat.le_refl _)
theorem sts_three : ∀ v : Fin 4, ∀ U : Fin 16, tb (U.val : Int) v.val = true → ∀ i : Fin 81, i.val < 3 ^ (over (bdf (U.val : Int) (bitN (v.val : Int)))).length → stsOf (U.val : Int) (bdf (U.val : Int) (bitN (v.val : Int))) i.val 81 = [(withValue (stOf (over (bdf (U.val : Int) (bitN (v.val : Int)))) (i.val : Int)) (v.val : Int) 0).toNat, (withValue (stOf (over (bdf (U.val : Int) (bitN (v.val : Int)))) (i.val : Int)) (v.val : Int) 1).toNat, (withValue (stOf (over (bdf (U.val : Int) (bitN (v.val : Int)))) (i.val : Int)) (v.val : Int) 2).toNat] := by decide +kernel
/-- The program's product over a set, summed over what is not left. -/
def sumT (Hs : List Fac) (U L : Int) : Fac := ⟨over L, ptN Hs U L 81⟩
theorem sumT_elim {Fs : List Fac} (h : Fine Fs) (v : Fin 4) : sumT (havF Fs (v.val : Int)) (nbS (setsF Fs) v.val) (bdf (nbS (setsF Fs) v.val) (bitN (v.val : Int))) = elimF Fs (v.val : Int) := by
  obtain ⟨h1, h2, h3⟩ := prodV_all h v
  have hvb : 0 ≤ (v.val : Int) ∧ (v.val : Int) ≤ 3 := by omega
  unfold elimF fOut
  rw [h3]
  have htv : tb (nbS (setsF Fs) v.val) v.val = true := by rw [nbS_tb _ (by omega) (by omega), decide_eq_true rfl, Bool.true_or]
  obtain ⟨U, hU⟩ := fin16 (nbS_bd (sets_sts h) v.val)
  rw [hU] at htv ⊢
  have hlb := bdf_bd (a := (U.val : Int)) (b := bitN (v.val : Int)) (by omega)
  unfold sumT facBy_ ptN
  congr 1
  refine List.map_congr_left fun i hi => ?_
  have hi' := List.mem_range.1 hi
  obtain ⟨L, hL⟩ := fin16 hlb
  have h4 : 3 ^ (over (bdf (U.val : Int) (bitN (v.val : Int)))).length ≤ 81 := by rw [hL]; exact pow_four (over_ok L).2.2
  have g1 := sts_three v U htv ⟨i, by omega⟩ hi'
  simp only at g1
  rw [g1]
  have hs : 0 ≤ stOf (over (bdf (U.val : Int) (bitN (v.val : Int)))) (i : Int) ∧ stOf (over (bdf (U.val : Int) (bitN (v.val : Int)))) (i : Int) ≤ 80 := stOver_bd hlb
  generalize stOf (over (bdf (U.val : Int) (bitN (v.val : Int)))) (i : Int) = s at hs
  have w0 := with_bd (v := (v.val : Int)) (x := 0) hs hvb (by decide)
  have w1 := with_bd (v := (v.val : Int)) (x := 1) hs hvb (by decide)
  have w2 := with_bd (v := (v.val : Int)) (x := 2) hs hvb (by decide)
  dsimp only
  rw [h2 _ w0, h2 _ w1, h2 _ w2]
  show prodAt _ ((withValue s (v.val : Int) 0).toNat : Int) + (prodAt _ ((withValue s (v.val : Int) 1).toNat : Int) + (prodAt _ ((withValue s (v.val : Int) 2).toNat : Int) + 0)) = _
  rw [Int.toNat_of_nonneg w0.1, Int.toNat_of_nonneg w1.1, Int.toNat_of_nonneg w2.1, if_pos (.inl (by decide)), if_pos (.inl (by decide)), if_pos (.inl (by decide))]
  omega
theorem prodAt_bd {Fs : List Fac} (h : Fine Fs) {st : Int} (hs : 0 ≤ st ∧ st ≤ 80) (k : Nat) : 0 ≤ prodAt (Fs.take k) st ∧ prodAt (Fs.take k) st ≤ pb Fs := by
  obtain ⟨h1, h2, _⟩ := prodF_all (Fs := Fs.take k) (fun F hF => h F (List.mem_of_mem_take hF))
  have h3 := fAt_bd h1 (by have := pb_pos (Fs.take k); omega) st
  rw [h2 st hs] at h3
  exact ⟨h3.1, Int.le_trans h3.2 (pb_take Fs k)⟩
theorem ptN_bd {Hs : List Fac} (h : Fine Hs) {U L : Int} {k i : Nat} {x : Int} (hk : k ≤ 81) (hx : (ptN Hs U L k)[i]? = some x) : 0 ≤ x ∧ x ≤ 81 * pb Hs := by
  have hil : i < 3 ^ (over L).length := by have := (List.getElem?_eq_some_iff.1 hx).1; rwa [ptN_len] at this
  rw [ptN_get Hs U L k hil] at hx
  have hp := pb_pos Hs
  have hq := isum_top (M := pb Hs) (by omega) (ds := (stsOf U L i k).map fun (s : Nat) => prodAt Hs (s : Int)) fun y hy => by
    obtain ⟨s, hs, rfl⟩ := List.mem_map.1 hy
    have hs' := List.mem_range.1 (List.mem_filter.1 hs).1
    have := prodAt_bd h (st := (s : Int)) (by omega) Hs.length
    rwa [List.take_of_length_le (Nat.le_refl _)] at this
  rw [List.length_map, Option.some.inj hx] at hq
  have hl := sts_len U L i k
  have : ((stsOf U L i k).length : Int) * pb Hs ≤ 81 * pb Hs := Int.mul_le_mul_of_nonneg_right (by omega) (by omega)
  omega
end Go.Proofs.Ytaipdkfbkcknkaa

namespace Go.Proofs.Ytaipdkfbkcknkaa
set_option maxRecDepth 100000
set_option linter.unusedVariables false
open Go.RowKit
theorem list_parts {Fs : List Fac} (h : listOk Fs = true) : Fs.length ≤ 8 ∧ ∀ F ∈ Fs, facOk 9 F = true := by
  unfold listOk at h
  rw [Bool.and_eq_true] at h
  exact ⟨of_decide_eq_true h.1, fun F hF => List.all_eq_true.1 h.2 F hF⟩
end Go.Proofs.Ytaipdkfbkcknkaa

namespace Go.Proofs.Ytaipdkfbkcknkaa
set_option maxRecDepth 100000
set_option linter.unusedVariables false
open Go.RowKit
/-- The cells of widths. -/
def ArrN (cs : Array Value) (ls : List Nat) : Prop := cs.size = 16 ∧ ∀ q : Nat, q < 16 → cs[q]? = some (.int .i64 ((ls.getD q 0 : Nat) : Int))
theorem ArrN.one {cs : Array Value} {ls : List Nat} (h : ArrN cs ls) : cs.all (·.oneCell') = true := by
  refine Array.all_eq_true_iff_forall_mem.2 fun u hu => ?_
  obtain ⟨i, hi, rfl⟩ := Array.mem_iff_getElem.1 hu
  have h2 := h.2 i (by rw [← h.1]; exact hi)
  rw [Array.getElem?_eq_getElem hi] at h2
  rw [Option.some.inj h2]; rfl
theorem ArrN.put {cs : Array Value} {ls : List Nat} (h : ArrN cs ls) (hl : ls.length = 16) {q : Nat} (hq : q < 16) (x : Nat) : ArrN (cs.setIfInBounds q (.int .i64 (x : Int))) (ls.set q x) := by
  refine ⟨by simpa using h.1, fun j hj => ?_⟩
  by_cases hjq : q = j
  · subst hjq
    rw [Array.getElem?_setIfInBounds, if_pos rfl, if_pos (by rw [h.1]; exact hq), List.getD_eq_getElem?_getD, List.getElem?_set_self (by omega)]
    rfl
  · rw [Array.getElem?_setIfInBounds, if_neg hjq, h.2 j hj, List.getD_eq_getElem?_getD, List.getD_eq_getElem?_getD, List.getElem?_set_ne hjq]
theorem ArrN.zero : ArrN (List.toArray (List.replicate 16 (.int .i64 0))) (zN 16) := by
  refine ⟨by simp, fun q hq => ?_⟩
  have : (zN 16).getD q 0 = 0 := by
    unfold zN
    rw [List.getD_eq_getElem?_getD, List.getElem?_replicate]
    split <;> rfl
  rw [this, List.getElem?_toArray, List.getElem?_replicate, if_pos hq]
  rfl
/-- Cells written in the midst of a block. -/
theorem has_setCells_ {g : Nat} {t : TypeId} : ∀ (vs : List Value) (o : Nat) (w : World) (cs : Array Value), Has w g t cs → o + vs.length ≤ cs.size →
    ∃ cs', Has (w.setCells g o vs) g t cs' ∧ cs'.size = cs.size ∧ (∀ j v, vs[j]? = some v → cs'[o + j]? = some v) ∧ ∀ i, (i < o ∨ o + vs.length ≤ i) → cs'[i]? = cs[i]?
  | [], o, w, cs, h, hl => ⟨cs, h, rfl, fun j v hv => by simp at hv, fun i _ => rfl⟩
  | u :: vs, o, w, cs, h, hl => by
    rw [List.length_cons] at hl
    obtain ⟨cs', h1, h2, h3, h4⟩ := has_setCells_ vs (o + 1) (w.setCell ⟨g, o, none⟩ u) (cs.setIfInBounds o u) (h.put o u) (by simp; omega)
    refine ⟨cs', h1, by rw [h2]; simp, fun j v hv => ?_, fun i hi => ?_⟩
    · cases j with
      | zero =>
        have e : u = v := by simpa using hv
        subst e
        rw [Nat.add_zero, h4 o (by omega), Array.getElem?_setIfInBounds, if_pos rfl, if_pos (by omega)]
      | succ j =>
        have := h3 j v (by simpa using hv)
        rwa [show o + (j + 1) = o + 1 + j by omega]
    · rw [List.length_cons] at hi
      rw [h4 i (by omega), Array.getElem?_setIfInBounds, if_neg (by omega)]
theorem below_setCells_ {B b : Nat} {w0 : World} (hb : B ≤ b) : ∀ (vs : List Value) (o : Nat) (w : World), Below B w0 w → Below B w0 (w.setCells b o vs)
  | [], o, w, h => h
  | u :: vs, o, w, h => below_setCells_ hb vs (o + 1) _ (h.setCell (p := ⟨b, o, none⟩) hb u)
theorem has_there_ {w : World} {g : Nat} {t : TypeId} {cs : Array Value} (h : Has w g t cs) {o n : Nat} (hn : o + n ≤ cs.size) : w.there g o n := fun j hj => by
  refine ⟨?_, h.frozen _⟩
  rw [h.cell, Array.getElem?_eq_getElem (by omega)]; rfl
theorem has_range_ {w : World} {g : Nat} {t : TypeId} {cs : Array Value} (h : Has w g t cs) {o : Nat} {vs : List Value} (hv : ∀ j v, vs[j]? = some v → cs[o + j]? = some v) : w.rangeAt g o vs := fun j v hj => (h.cell _).trans (hv j v hj)
theorem results_cell_ {fn : Func} {p : Tmp} {ty : TypeId} (h : fn.results = #[.cell p ty]) (tmps : Array Value) (P : Program) (w : World) :
    (results fn tmps).run P w = ((asAddr (tmps.getD p undef)).run P w).andThen fun a w₁ => (loadVar ty a).run P w₁ := by
  simp only [results, h]
  simp [Sem.run_bind, Result.andThen]
end Go.Proofs.Ytaipdkfbkcknkaa

namespace Go.Proofs.Ytaipdkfbkcknkaa
set_option maxRecDepth 100000
set_option linter.unusedVariables false
open Go.RowKit
theorem FcV.below {w w' : World} {base : Nat} {v1 v2 : Value} {F : Fac} (h : FcV w base v1 v2 F) (hb : Below w.heap.size w w') : FcV w' base v1 v2 F := ⟨h.1.below hb, h.2.1.below hb, h.2.2⟩
theorem FcV.le {w : World} {base base' : Nat} {v1 v2 : Value} {F : Fac} (h : FcV w base v1 v2 F) (hb : base' ≤ base) : FcV w base' v1 v2 F := ⟨owns_le h.1 hb, owns_le h.2.1 hb, h.2.2⟩
theorem FcV.put2 {w : World} {base g : Nat} {v1 v2 : Value} {F : Fac} {cs : Array Value} (h : FcV w base v1 v2 F) (hg : Has w g 36 cs) (x y : Value) : FcV ((w.setCell ⟨g, 0, none⟩ x).setCell ⟨g, 1, none⟩ y) base v1 v2 F := by
  have hk := ((KeptBut.refl w (fun i => i = g)).put (p := ⟨g, 0, none⟩) (fun _ => rfl) x).put (p := ⟨g, 1, none⟩) (fun _ => rfl) y
  exact ⟨h.1.but hk (fun k hk e => iown_ne h.1 hg (by decide) k hk e), h.2.1.but hk (fun k hk e => iown_ne h.2.1 hg (by decide) k hk e), h.2.2⟩
theorem FcV.fac {w : World} {base n1 c1 n2 c2 : Nat} {A1 A2 : Option Addr} {F : Fac} (h : FcV w base (.slice A1 n1 c1) (.slice A2 n2 c2) F) : FacW w w.heap.size A1 n1 A2 n2 F := ⟨h.1.lst, h.2.1.lst⟩
end Go.Proofs.Ytaipdkfbkcknkaa
