/- Parts of the proof: KP, KD. -/
import Derived.Test.YtaipdkfbkcknkaaZAQ
import Derived.Test.YtaipdkfbkcknkaaZAN
import Derived.Test.YtaipdkfbkcknkaaZAF
import Derived.Test.YtaipdkfbkcknkaaZAC
namespace Go.Proofs.Ytaipdkfbkcknkaa
set_option maxRecDepth 100000
set_option linter.unusedVariables false
open Go.RowKit
theorem fold_mul (st : Int) : ∀ (l : List Fac) (m : Int), l.foldl (fun m F => m * fAt F st) m = m * l.foldl (fun m F => m * fAt F st) 1
  | [], m => by show m = m * 1; omega
  | F :: r, m => by
    rw [List.foldl_cons, List.foldl_cons, fold_mul st r (m * fAt F st), fold_mul st r (1 * fAt F st), Int.one_mul, Int.mul_assoc]
theorem wcInts_eq (A A2 : Option Addr) (n n2 c c2 : Nat) (ds es : List Int) (w : World) (h : Ils w w.heap.size A n ds) (h2 : Ils w w.heap.size A2 n2 es) (hn : n ≤ maxLen) (hn2 : n2 ≤ maxLen) (he : ds = es) :
    Calls Try.prog 43 #[.slice A n c, .slice A2 n2 c2] w fun e w' => e = .returned (.bool true) ∧ Below w.heap.size w w' :=
  (wcInts_any A A2 n n2 c c2 ds es w h h2 hn hn2).mono fun e w' ⟨h1, q, h3⟩ => ⟨by rw [h1, decide_eq_true he], by rw [h3]; exact below_drewN (Below.refl _ _) q⟩
/-- A row of factors of the call's own whose numbers are elder ones. -/
def Bk (w : World) (b : Nat) (v : Value) (Fs : List Fac) (vs : List Value) : Prop :=
  w.ownsRow b 36 2 v Fs.length vs ∧ ∀ j F, Fs[j]? = some F → ∃ (A1 : Option Addr) (n1 c1 : Nat) (A2 : Option Addr) (n2 c2 : Nat), vs[j * 2]? = some (.slice A1 n1 c1) ∧ vs[j * 2 + 1]? = some (.slice A2 n2 c2) ∧ FacW w b A1 n1 A2 n2 F
theorem Bk.length {w : World} {b : Nat} {v : Value} {Fs : List Fac} {vs : List Value} (h : Bk w b v Fs vs) : vs.length = Fs.length * 2 := h.1.1
theorem Bk.form {w : World} {b : Nat} {v : Value} {Fs : List Fac} {vs : List Value} (h : Bk w b v Fs vs) : ∃ A c, v = .slice A Fs.length c ∧ Fs.length ≤ c ∧ c ≤ maxLen := by
  rcases h.1.2 with ⟨hv, hn⟩ | ⟨g, cap, cur, hv, _, _, h1, h2, _⟩
  · exact ⟨none, 0, by rw [hv, hn], by omega, by simp [maxLen]⟩
  · exact ⟨_, cap, hv, h1, h2⟩
theorem Bk.flst {w : World} {b n c : Nat} {A : Option Addr} {Fs : List Fac} {vs : List Value} (h : Bk w b (.slice A n c) Fs vs) (hn : Fs.length = n) (hb : b ≤ w.heap.size) : FLst w w.heap.size A n Fs := by
  refine ⟨hn, fun h0 => ?_⟩
  obtain ⟨g, hA⟩ : ∃ g, A = some ⟨g, 0, none⟩ := by
    rcases h.1.2 with ⟨hv, h9⟩ | ⟨g', cap, cur, hv, _⟩
    · injection hv; omega
    · injection hv with e1 _ _; exact ⟨g', e1⟩
  subst hA
  refine ⟨g, 0, rfl, (World.ownsRow.lt h.1 g rfl).2, fun k F hF => ?_⟩
  obtain ⟨A1, n1, c1, A2, n2, c2, h1, h2, h3⟩ := h.2 k F hF
  have e1 := World.ownsRow.cells h.1 (g := g) rfl _ _ h1
  have e2 := World.ownsRow.cells h.1 (g := g) rfl _ _ h2
  rw [cell_add] at e1 e2
  rw [Nat.zero_add]
  exact ⟨A1, n1, c1, A2, n2, c2, e1, e2, h3.more hb⟩
theorem Bk.append_ {w w' : World} {b m1 d1 m2 d2 : Nat} {D1 D2 : Option Addr} {v v' : Value} {Fs : List Fac} {vs : List Value} {F : Fac} (h : Bk w b v Fs vs) (hx : FacW w b D1 m1 D2 m2 F)
    (hN : w'.ownsRow b 36 2 v' (Fs.length + 1) (vs ++ [.slice D1 m1 d1, .slice D2 m2 d2])) (hb : Below b w w') : Bk w' b v' (Fs ++ [F]) (vs ++ [.slice D1 m1 d1, .slice D2 m2 d2]) := by
  refine ⟨by rw [List.length_append, List.length_singleton]; exact hN, fun j G hG => ?_⟩
  have hl := h.length
  by_cases hj : j < Fs.length
  · rw [List.getElem?_append_left hj] at hG
    obtain ⟨A1, n1, c1, A2, n2, c2, h1, h2, h3⟩ := h.2 j G hG
    exact ⟨A1, n1, c1, A2, n2, c2, by rw [List.getElem?_append_left (by omega)]; exact h1, by rw [List.getElem?_append_left (by omega)]; exact h2, h3.keep_ hb⟩
  · have hjl : j = Fs.length := by
      have := (List.getElem?_eq_some_iff.1 hG).1
      rw [List.length_append, List.length_singleton] at this
      omega
    subst hjl
    rw [List.getElem?_append_right (Nat.le_refl _), Nat.sub_self] at hG
    obtain rfl : F = G := by simpa using hG
    refine ⟨D1, m1, d1, D2, m2, d2, ?_, ?_, hx.keep_ hb⟩
    · rw [List.getElem?_append_right (by omega), hl, Nat.sub_self]; rfl
    · rw [List.getElem?_append_right (by omega), hl, Nat.add_sub_cancel_left]; rfl
theorem Bk.below {w w' : World} {b : Nat} {v : Value} {Fs : List Fac} {vs : List Value} (h : Bk w b v Fs vs) (hb : Below w.heap.size w w') (hbw : b ≤ w.heap.size) : Bk w' b v Fs vs :=
  ⟨owns_but h.1 (KeptBut.of_below hb (fun _ => False)) (fun _ _ e => e), fun j F hF => by
    obtain ⟨A1, n1, c1, A2, n2, c2, h1, h2, h3⟩ := h.2 j F hF
    exact ⟨A1, n1, c1, A2, n2, c2, h1, h2, h3.keep_ (hb.mono hbw)⟩⟩
end Go.Proofs.Ytaipdkfbkcknkaa

namespace Go.Proofs.Ytaipdkfbkcknkaa
set_option maxRecDepth 100000
set_option linter.unusedVariables false
open Go.RowKit
/-- The stride of a variable in a factor over a set. -/
def strL (L : Int) (v : Nat) : Int := if tb L v = true then ((3 ^ ((List.range v).filter fun u => tb L u).length : Nat) : Int) else 0
def atK (L st : Int) : Nat → Int
  | 0 => 0
  | k + 1 => atK L st k + strL L k * valueAt st (k : Int)
theorem atK_all : ∀ L : Fin 16, ∀ st : Fin 81, atK (L.val : Int) (st.val : Int) 4 = idx (over (L.val : Int)) (st.val : Int) := by decide +kernel
theorem strL_bd : ∀ L : Fin 16, ∀ v : Fin 4, 0 ≤ strL (L.val : Int) v.val ∧ strL (L.val : Int) v.val ≤ 27 := by decide +kernel
theorem strL_zero : ∀ L : Fin 16, ∀ v : Fin 4, (strL (L.val : Int) v.val == 0) = !tb (L.val : Int) v.val := by decide +kernel
/-- The strides while they are laid: variable by variable, and the next stride. -/
theorem strL_at : ∀ L : Fin 16, ∀ k : Fin 4, k.val < (over (L.val : Int)).length → strL (L.val : Int) ((over (L.val : Int)).getD k.val 0).toNat = ((3 ^ k.val : Nat) : Int) ∧ 0 ≤ (over (L.val : Int)).getD k.val 0 ∧ (over (L.val : Int)).getD k.val 0 ≤ 3 := by decide +kernel
/-- The strides of the first k variables of a set. -/
def strP (L : Int) (k v : Nat) : Int := if (v : Int) ∈ (over L).take k then strL L v else 0
theorem strP_zero (L : Int) (v : Nat) : strP L 0 v = 0 := by unfold strP; rw [List.take_zero, if_neg (by simp)]
theorem strP_all : ∀ L : Fin 16, ∀ v : Fin 4, strP (L.val : Int) (over (L.val : Int)).length v.val = strL (L.val : Int) v.val := by decide +kernel
theorem strP_step : ∀ L : Fin 16, ∀ k : Fin 4, ∀ v : Fin 4, k.val < (over (L.val : Int)).length → strP (L.val : Int) (k.val + 1) v.val = if (v.val : Int) = (over (L.val : Int)).getD k.val 0 then ((3 ^ k.val : Nat) : Int) else strP (L.val : Int) k.val v.val := by decide +kernel
/-- The states below k whose numbers go to one place. -/
def stsOf (U L : Int) (i k : Nat) : List Nat := (List.range k).filter fun (s : Nat) => decide (vo U (s : Int) = (s : Int)) && decide (idx (over L) (s : Int) = (i : Int))
def ptN (Hs : List Fac) (U L : Int) (k : Nat) : List Int := (List.range (3 ^ (over L).length)).map fun i => isum ((stsOf U L i k).map fun (s : Nat) => prodAt Hs (s : Int))
theorem ptN_len (Hs : List Fac) (U L : Int) (k : Nat) : (ptN Hs U L k).length = 3 ^ (over L).length := by unfold ptN; simp
theorem ptN_get (Hs : List Fac) (U L : Int) (k : Nat) {i : Nat} (hi : i < 3 ^ (over L).length) : (ptN Hs U L k)[i]? = some (isum ((stsOf U L i k).map fun (s : Nat) => prodAt Hs (s : Int))) := by
  unfold ptN
  rw [List.getElem?_map, List.getElem?_range hi]
  rfl
theorem stsOf_succ (U L : Int) (i k : Nat) : stsOf U L i (k + 1) = stsOf U L i k ++ if vo U (k : Int) = (k : Int) ∧ idx (over L) (k : Int) = (i : Int) then [k] else [] := by
  unfold stsOf
  rw [List.range_succ, List.filter_append]
  congr 1
  by_cases h : vo U (k : Int) = (k : Int) ∧ idx (over L) (k : Int) = (i : Int)
  · rw [if_pos h, List.filter_cons_of_pos (by simp [h.1, h.2])]; rfl
  · rw [if_neg h, List.filter_cons_of_neg (by simpa using h)]; rfl
theorem ptN_zero (Hs : List Fac) (U L : Int) : ptN Hs U L 0 = zs (3 ^ (over L).length) := by
  unfold ptN zs
  apply List.ext_getElem?
  intro i
  rw [List.getElem?_map, List.getElem?_replicate]
  by_cases hi : i < 3 ^ (over L).length
  · rw [List.getElem?_range hi, if_pos hi]; rfl
  · rw [List.getElem?_eq_none (by simp; omega), if_neg hi]; rfl
theorem ptN_skip (Hs : List Fac) {U L : Int} {k : Nat} (h : vo U (k : Int) ≠ (k : Int)) : ptN Hs U L (k + 1) = ptN Hs U L k := by
  unfold ptN
  refine List.map_congr_left fun i _ => ?_
  rw [stsOf_succ, if_neg (fun e => h e.1), List.append_nil]
theorem ptN_add (Hs : List Fac) {U L : Int} {k j : Nat} {x : Int} (h : vo U (k : Int) = (k : Int)) (hj : idx (over L) (k : Int) = (j : Int)) (hx : (ptN Hs U L k)[j]? = some x) : (ptN Hs U L k).set j (x + prodAt Hs (k : Int)) = ptN Hs U L (k + 1) := by
  have hjl : j < 3 ^ (over L).length := by have := (List.getElem?_eq_some_iff.1 hx).1; rwa [ptN_len] at this
  have hxe := ptN_get Hs U L k hjl
  rw [hx] at hxe
  apply List.ext_getElem?
  intro i
  by_cases hi : i < 3 ^ (over L).length
  · rw [ptN_get Hs U L (k + 1) hi, stsOf_succ]
    by_cases he : j = i
    · subst he
      rw [List.getElem?_set_self (by rw [ptN_len]; exact hi), if_pos ⟨h, hj⟩, List.map_append, isum_append, Option.some.inj hxe]
      congr 2
      show _ = prodAt Hs (k : Int) + 0
      omega
    · rw [List.getElem?_set_ne he, ptN_get Hs U L k hi, if_neg (fun e => he (by omega)), List.append_nil]
  · rw [List.getElem?_eq_none (by rw [List.length_set, ptN_len]; omega), List.getElem?_eq_none (by rw [ptN_len]; omega)]
theorem sts_len (U L : Int) (i k : Nat) : (stsOf U L i k).length ≤ k := by
  unfold stsOf
  exact Nat.le_trans (List.length_filter_le _ _) (by rw [List.length_range]; exact Nat.le_refl _)
theorem sts_one : ∀ L : Fin 16, ∀ i : Fin 81, i.val < 3 ^ (over (L.val : Int)).length → stsOf (L.val : Int) (L.val : Int) i.val 81 = [(stOf (over (L.val : Int)) (i.val : Int)).toNat] := by decide +kernel
theorem sts_three : ∀ v : Fin 4, ∀ U : Fin 16, tb (U.val : Int) v.val = true → ∀ i : Fin 81, i.val < 3 ^ (over (bdf (U.val : Int) (bitN (v.val : Int)))).length → stsOf (U.val : Int) (bdf (U.val : Int) (bitN (v.val : Int))) i.val 81 = [(withValue (stOf (over (bdf (U.val : Int) (bitN (v.val : Int)))) (i.val : Int)) (v.val : Int) 0).toNat, (withValue (stOf (over (bdf (U.val : Int) (bitN (v.val : Int)))) (i.val : Int)) (v.val : Int) 1).toNat, (withValue (stOf (over (bdf (U.val : Int) (bitN (v.val : Int)))) (i.val : Int)) (v.val : Int) 2).toNat] := by decide +kernel
/-- The program's product over a set, summed over what is not left. -/
def sumT (Hs : List Fac) (U L : Int) : Fac := ⟨over L, ptN Hs U L 81⟩
theorem sumT_all (Hs : List Fac) (L : Fin 16) : sumT Hs (L.val : Int) (L.val : Int) = facBy_ (L.val : Int) (prodAt Hs) := by
  unfold sumT facBy_ ptN
  congr 1
  refine List.map_congr_left fun i hi => ?_
  have hi' := List.mem_range.1 hi
  have h4 := pow_four (over_ok L).2.2
  have h1 := sts_one L ⟨i, by omega⟩ hi'
  simp only at h1
  have h2 := (st_idx L ⟨i, by omega⟩ hi').2
  simp only at h2
  rw [h1]
  show prodAt Hs ((stOf (over (L.val : Int)) (i : Int)).toNat : Int) + 0 = _
  rw [Int.toNat_of_nonneg h2.1]
  omega
theorem sumT_elim {Fs : List Fac} (h : Fine Fs) (v : Fin 4) : sumT (havF Fs (v.val : Int)) (nbS (setsF Fs) v.val) (bdf (nbS (setsF Fs) v.val) (bitN (v.val : Int))) = elimF Fs (v.val : Int) := by
  obtain ⟨h1, h2, h3⟩ := prodV_all h v
  have hvb : 0 ≤ (v.val : Int) ∧ (v.val : Int) ≤ 3 := by omega
  unfold elimF fOut
  rw [h3]
  have htv : tb (nbS (setsF Fs) v.val) v.val = true := by rw [nbS_tb _ (by omega) (by omega), decide_eq_true rfl, Bool.true_or]
  obtain ⟨U, hU⟩ := fin16 (nbS_bd (sets_sts h) v.val)
  rw [hU] at htv ⊢
  have hlb := bdf_bd (a := (U.val : Int)) (b := bitN (v.val : Int)) (by omega)
  unfold sumT facBy_ ptN
  congr 1
  refine List.map_congr_left fun i hi => ?_
  have hi' := List.mem_range.1 hi
  obtain ⟨L, hL⟩ := fin16 hlb
  have h4 : 3 ^ (over (bdf (U.val : Int) (bitN (v.val : Int)))).length ≤ 81 := by rw [hL]; exact pow_four (over_ok L).2.2
  have g1 := sts_three v U htv ⟨i, by omega⟩ hi'
  simp only at g1
  rw [g1]
  have hs : 0 ≤ stOf (over (bdf (U.val : Int) (bitN (v.val : Int)))) (i : Int) ∧ stOf (over (bdf (U.val : Int) (bitN (v.val : Int)))) (i : Int) ≤ 80 := stOver_bd hlb
  generalize stOf (over (bdf (U.val : Int) (bitN (v.val : Int)))) (i : Int) = s at hs
  have w0 := with_bd (v := (v.val : Int)) (x := 0) hs hvb (by decide)
  have w1 := with_bd (v := (v.val : Int)) (x := 1) hs hvb (by decide)
  have w2 := with_bd (v := (v.val : Int)) (x := 2) hs hvb (by decide)
  dsimp only
  rw [h2 _ w0, h2 _ w1, h2 _ w2]
  show prodAt _ ((withValue s (v.val : Int) 0).toNat : Int) + (prodAt _ ((withValue s (v.val : Int) 1).toNat : Int) + (prodAt _ ((withValue s (v.val : Int) 2).toNat : Int) + 0)) = _
  rw [Int.toNat_of_nonneg w0.1, Int.toNat_of_nonneg w1.1, Int.toNat_of_nonneg w2.1, if_pos (.inl (by decide)), if_pos (.inl (by decide)), if_pos (.inl (by decide))]
  omega
theorem prodAt_bd {Fs : List Fac} (h : Fine Fs) {st : Int} (hs : 0 ≤ st ∧ st ≤ 80) (k : Nat) : 0 ≤ prodAt (Fs.take k) st ∧ prodAt (Fs.take k) st ≤ pb Fs := by
  obtain ⟨h1, h2, _⟩ := prodF_all (Fs := Fs.take k) (fun F hF => h F (List.mem_of_mem_take hF))
  have h3 := fAt_bd h1 (by have := pb_pos (Fs.take k); omega) st
  rw [h2 st hs] at h3
  exact ⟨h3.1, Int.le_trans h3.2 (pb_take Fs k)⟩
theorem ptN_bd {Hs : List Fac} (h : Fine Hs) {U L : Int} {k i : Nat} {x : Int} (hk : k ≤ 81) (hx : (ptN Hs U L k)[i]? = some x) : 0 ≤ x ∧ x ≤ 81 * pb Hs := by
  have hil : i < 3 ^ (over L).length := by have := (List.getElem?_eq_some_iff.1 hx).1; rwa [ptN_len] at this
  rw [ptN_get Hs U L k hil] at hx
  have hp := pb_pos Hs
  have hq := isum_top (M := pb Hs) (by omega) (ds := (stsOf U L i k).map fun (s : Nat) => prodAt Hs (s : Int)) fun y hy => by
    obtain ⟨s, hs, rfl⟩ := List.mem_map.1 hy
    have hs' := List.mem_range.1 (List.mem_filter.1 hs).1
    have := prodAt_bd h (st := (s : Int)) (by omega) Hs.length
    rwa [List.take_of_length_le (Nat.le_refl _)] at this
  rw [List.length_map, Option.some.inj hx] at hq
  have hl := sts_len U L i k
  have : ((stsOf U L i k).length : Int) * pb Hs ≤ 81 * pb Hs := Int.mul_le_mul_of_nonneg_right (by omega) (by omega)
  omega
end Go.Proofs.Ytaipdkfbkcknkaa
