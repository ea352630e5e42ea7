/- Parts of the proof: KD, K2, Gg, K3, FU. -/
import Derived.Test.YtaipdkfbkcknkaaZAJ
import Derived.Test.YtaipdkfbkcknkaaZAC
import Derived.Test.YtaipdkfbkcknkaaZAI
import Derived.Test.YtaipdkfbkcknkaaZAG
import Derived.Deep.MidRow
import Derived.Deep.WholeRow
namespace Go.Proofs.Ytaipdkfbkcknkaa
set_option maxRecDepth 100000
set_option linter.unusedVariables false
open Go.RowKit
/-- The stride of a variable in a factor over a set. -/
def strL (L : Int) (v : Nat) : Int := if tb L v = true then ((3 ^ ((List.range v).filter fun u => tb L u).length : Nat) : Int) else 0
def atK (L st : Int) : Nat → Int
  | 0 => 0
  | k + 1 => atK L st k + strL L k * valueAt st (k : Int)
theorem atK_all : ∀ L : Fin 16, ∀ st : Fin 81, atK (L.val : Int) (st.val : Int) 4 = idx (over (L.val : Int)) (st.val : Int) := by decide +kernel
theorem strL_bd : ∀ L : Fin 16, ∀ v : Fin 4, 0 ≤ strL (L.val : Int) v.val ∧ strL (L.val : Int) v.val ≤ 27 := by decide +kernel
theorem strL_zero : ∀ L : Fin 16, ∀ v : Fin 4, (strL (L.val : Int) v.val == 0) = !tb (L.val : Int) v.val := by decide +kernel
/-- The strides while they are laid: variable by variable, and the next stride. -/
theorem strL_at : ∀ L : Fin 16, ∀ k : Fin 4, k.val < (over (L.val : Int)).length → strL (L.val : Int) ((over (L.val : Int)).getD k.val 0).toNat = ((3 ^ k.val : Nat) : Int) ∧ 0 ≤ (over (L.val : Int)).getD k.val 0 ∧ (over (L.val : Int)).getD k.val 0 ≤ 3 := by decide +kernel
/-- The strides of the first k variables of a set. -/
def strP (L : Int) (k v : Nat) : Int := if (v : Int) ∈ (over L).take k then strL L v else 0
theorem strP_zero (L : Int) (v : Nat) : strP L 0 v = 0 := by unfold strP; rw [List.take_zero, if_neg (by simp)]
theorem strP_all : ∀ L : Fin 16, ∀ v : Fin 4, strP (L.val : Int) (over (L.val : Int)).length v.val = strL (L.val : Int) v.val := by decide +kernel
theorem strP_step : ∀ L : Fin 16, ∀ k : Fin 4, ∀ v : Fin 4, k.val < (over (L.val : Int)).length → strP (L.val : Int) (k.val + 1) v.val = if (v.val : Int) = (over (L.val : Int)).getD k.val 0 then ((3 ^ k.val : Nat) : Int) else strP (L.val : Int) k.val v.val := by decide +kernel
/-- The states below k whose numbers go to one place. -/
def stsOf (U L : Int) (i k : Nat) : List Nat := (List.range k).filter fun (s : Nat) => decide (vo U (s : Int) = (s : Int)) && decide (idx (over L) (s : Int) = (i : Int))
def ptN (Hs : List Fac) (U L : Int) (k : Nat) : List Int := (List.range (3 ^ (over L).length)).map fun i => isum ((stsOf U L i k).map fun (s : Nat) => prodAt Hs (s : Int))
theorem ptN_len (Hs : List Fac) (U L : Int) (k : Nat) : (ptN Hs U L k).length = 3 ^ (over L).length := by unfold ptN; simp
theorem ptN_get (Hs : List Fac) (U L : Int) (k : Nat) {i : Nat} (hi : i < 3 ^ (over L).length) : (ptN Hs U L k)[i]? = some (isum ((stsOf U L i k).map fun (s : Nat) => prodAt Hs (s : Int))) := by
  unfold ptN
  rw [List.getElem?_map, List.getElem?_range hi]
  rfl
theorem stsOf_succ (U L : Int) (i k : Nat) : stsOf U L i (k + 1) = stsOf U L i k ++ if vo U (k : Int) = (k : Int) ∧ idx (over L) (k : Int) = (i : Int) then [k] else [] := by
  unfold stsOf
  rw [List.range_succ, List.filter_append]
  congr 1
  by_cases h : vo U (k : Int) = (k : Int) ∧ idx (over L) (k : Int) = (i : Int)
  · rw [if_pos h, List.filter_cons_of_pos (by simp [h.1, h.2])]; rfl
  · rw [if_neg h, List.filter_cons_of_neg (by simpa using h)]; rfl
theorem ptN_zero (Hs : List Fac) (U L : Int) : ptN Hs U L 0 = zs (3 ^ (over L).length) := by
  unfold ptN zs
  apply List.ext_getElem?
  intro i
  rw [List.getElem?_map, List.getElem?_replicate]
  by_cases hi : i < 3 ^ (over L).length
  · rw [List.getElem?_range hi, if_pos hi]; rfl
  · rw [List.getElem?_eq_none (by simp; omega), if_neg hi]; rfl
theorem ptN_skip (Hs : List Fac) {U L : Int} {k : Nat} (h : vo U (k : Int) ≠ (k : Int)) : ptN Hs U L (k + 1) = ptN Hs U L k := by
  unfold ptN
  refine List.map_congr_left fun i _ => ?_
  rw [stsOf_succ, if_neg (fun e => h e.1), List.append_nil]
theorem ptN_add (Hs : List Fac) {U L : Int} {k j : Nat} {x : Int} (h : vo U (k : Int) = (k : Int)) (hj : idx (over L) (k : Int) = (j : Int)) (hx : (ptN Hs U L k)[j]? = some x) : (ptN Hs U L k).set j (x + prodAt Hs (k : Int)) = ptN Hs U L (k + 1) := by
  have hjl : j < 3 ^ (over L).length := by have := (List.getElem?_eq_some_iff.1 hx).1; rwa [ptN_len] at this
  have hxe := ptN_get Hs U L k hjl
  rw [hx] at hxe
  apply List.ext_getElem?
  intro i
  by_cases hi : i < 3 ^ (over L).length
  · rw [ptN_get Hs U L (k + 1) hi, stsOf_succ]
    by_cases he : j = i
    · subst he
      rw [List.getElem?_set_self (by rw [ptN_len]; exact hi), if_pos ⟨h, hj⟩, List.map_append, isum_append, Option.some.inj hxe]
      congr 2
      show _ = prodAt Hs (k : Int) + 0
      omega
    · rw [List.getElem?_set_ne he, ptN_get Hs U L k hi, if_neg (fun e => he (by omega)), List.append_nil]
  · rw [List.getElem?_eq_none (by rw [List.length_set, ptN_len]; omega), List.getElem?_eq_none (by rw [ptN_len]; omega)]
theorem sts_len (U L : Int) (i k : Nat) : (stsOf U L i k).length ≤ k := by
  unfold stsOf
  exact Nat.le_trans (List.length_filter_le _ _) (by rw [List.length_range]; exact Nat.le_refl _)
theorem sts_one : ∀ L : Fin 16, ∀ i : Fin 81, i.val < 3 ^ (over (L.val : Int)).length → stsOf (L.val : Int) (L.val : Int) i.val 81 = [(stOf (over (L.val : Int)) (i.val : Int)).toNat] := by decide +kernel
theorem sts_three : ∀ v : Fin 4, ∀ U : Fin 16, tb (U.val : Int) v.val = true → ∀ i : Fin 81, i.val < 3 ^ (over (bdf (U.val : Int) (bitN (v.val : Int)))).length → stsOf (U.val : Int) (bdf (U.val : Int) (bitN (v.val : Int))) i.val 81 = [(withValue (stOf (over (bdf (U.val : Int) (bitN (v.val : Int)))) (i.val : Int)) (v.val : Int) 0).toNat, (withValue (stOf (over (bdf (U.val : Int) (bitN (v.val : Int)))) (i.val : Int)) (v.val : Int) 1).toNat, (withValue (stOf (over (bdf (U.val : Int) (bitN (v.val : Int)))) (i.val : Int)) (v.val : Int) 2).toNat] := by decide +kernel
/-- The program's product over a set, summed over what is not left. -/
def sumT (Hs : List Fac) (U L : Int) : Fac := ⟨over L, ptN Hs U L 81⟩
theorem sumT_all (Hs : List Fac) (L : Fin 16) : sumT Hs (L.val : Int) (L.val : Int) = facBy_ (L.val : Int) (prodAt Hs) := by
  unfold sumT facBy_ ptN
  congr 1
  refine List.map_congr_left fun i hi => ?_
  have hi' := List.mem_range.1 hi
  have h4 := pow_four (over_ok L).2.2
  have h1 := sts_one L ⟨i, by omega⟩ hi'
  simp only at h1
  have h2 := (st_idx L ⟨i, by omega⟩ hi').2
  simp only at h2
  rw [h1]
  show prodAt Hs ((stOf (over (L.val : Int)) (i : Int)).toNat : Int) + 0 = _
  rw [Int.toNat_of_nonneg h2.1]
  omega
theorem sumT_elim {Fs : List Fac} (h : Fine Fs) (v : Fin 4) : sumT (havF Fs (v.val : Int)) (nbS (setsF Fs) v.val) (bdf (nbS (setsF Fs) v.val) (bitN (v.val : Int))) = elimF Fs (v.val : Int) := by
  obtain ⟨h1, h2, h3⟩ := prodV_all h v
  have hvb : 0 ≤ (v.val : Int) ∧ (v.val : Int) ≤ 3 := by omega
  unfold elimF fOut
  rw [h3]
  have htv : tb (nbS (setsF Fs) v.val) v.val = true := by rw [nbS_tb _ (by omega) (by omega), decide_eq_true rfl, Bool.true_or]
  obtain ⟨U, hU⟩ := fin16 (nbS_bd (sets_sts h) v.val)
  rw [hU] at htv ⊢
  have hlb := bdf_bd (a := (U.val : Int)) (b := bitN (v.val : Int)) (by omega)
  unfold sumT facBy_ ptN
  congr 1
  refine List.map_congr_left fun i hi => ?_
  have hi' := List.mem_range.1 hi
  obtain ⟨L, hL⟩ := fin16 hlb
  have h4 : 3 ^ (over (bdf (U.val : Int) (bitN (v.val : Int)))).length ≤ 81 := by rw [hL]; exact pow_four (over_ok L).2.2
  have g1 := sts_three v U htv ⟨i, by omega⟩ hi'
  simp only at g1
  rw [g1]
  have hs : 0 ≤ stOf (over (bdf (U.val : Int) (bitN (v.val : Int)))) (i : Int) ∧ stOf (over (bdf (U.val : Int) (bitN (v.val : Int)))) (i : Int) ≤ 80 := stOver_bd hlb
  generalize stOf (over (bdf (U.val : Int) (bitN (v.val : Int)))) (i : Int) = s at hs
  have w0 := with_bd (v := (v.val : Int)) (x := 0) hs hvb (by decide)
  have w1 := with_bd (v := (v.val : Int)) (x := 1) hs hvb (by decide)
  have w2 := with_bd (v := (v.val : Int)) (x := 2) hs hvb (by decide)
  dsimp only
  rw [h2 _ w0, h2 _ w1, h2 _ w2]
  show prodAt _ ((withValue s (v.val : Int) 0).toNat : Int) + (prodAt _ ((withValue s (v.val : Int) 1).toNat : Int) + (prodAt _ ((withValue s (v.val : Int) 2).toNat : Int) + 0)) = _
  rw [Int.toNat_of_nonneg w0.1, Int.toNat_of_nonneg w1.1, Int.toNat_of_nonneg w2.1, if_pos (.inl (by decide)), if_pos (.inl (by decide)), if_pos (.inl (by decide))]
  omega
theorem prodAt_bd {Fs : List Fac} (h : Fine Fs) {st : Int} (hs : 0 ≤ st ∧ st ≤ 80) (k : Nat) : 0 ≤ prodAt (Fs.take k) st ∧ prodAt (Fs.take k) st ≤ pb Fs := by
  obtain ⟨h1, h2, _⟩ := prodF_all (Fs := Fs.take k) (fun F hF => h F (List.mem_of_mem_take hF))
  have h3 := fAt_bd h1 (by have := pb_pos (Fs.take k); omega) st
  rw [h2 st hs] at h3
  exact ⟨h3.1, Int.le_trans h3.2 (pb_take Fs k)⟩
theorem ptN_bd {Hs : List Fac} (h : Fine Hs) {U L : Int} {k i : Nat} {x : Int} (hk : k ≤ 81) (hx : (ptN Hs U L k)[i]? = some x) : 0 ≤ x ∧ x ≤ 81 * pb Hs := by
  have hil : i < 3 ^ (over L).length := by have := (List.getElem?_eq_some_iff.1 hx).1; rwa [ptN_len] at this
  rw [ptN_get Hs U L k hil] at hx
  have hp := pb_pos Hs
  have hq := isum_top (M := pb Hs) (by omega) (ds := (stsOf U L i k).map fun (s : Nat) => prodAt Hs (s : Int)) fun y hy => by
    obtain ⟨s, hs, rfl⟩ := List.mem_map.1 hy
    have hs' := List.mem_range.1 (List.mem_filter.1 hs).1
    have := prodAt_bd h (st := (s : Int)) (by omega) Hs.length
    rwa [List.take_of_length_le (Nat.le_refl _)] at this
  rw [List.length_map, Option.some.inj hx] at hq
  have hl := sts_len U L i k
  have : ((stsOf U L i k).length : Int) * pb Hs ≤ 81 * pb Hs := Int.mul_le_mul_of_nonneg_right (by omega) (by omega)
  omega
end Go.Proofs.Ytaipdkfbkcknkaa

namespace Go.Proofs.Ytaipdkfbkcknkaa
set_option maxRecDepth 100000
set_option linter.unusedVariables false
open Go.RowKit
/-- Different variables. -/
def oOkF : List Int → Int → Bool
  | [], _ => true
  | v :: r, L => (inB v 0 3 && !tb L v.toNat) && oOkF r (bor L (bitN v))
def orderOk (os : List Int) : Bool := oOkF os 0
theorem OrderOk_any (A : Option Addr) (n c : Nat) (os : List Int) (w : World) (h : Ils w w.heap.size A n os) (hn : n ≤ maxLen) :
    Calls Try.prog 17 #[.slice A n c] w fun e w' => e = .returned (.bool (orderOk os)) ∧ w = w' := by
  have hI := Lib.hid h
  have hl := h.1
  have hn9 : n ≤ 9223372036854775807 := by unfold maxLen at hn; omega
  clear h hn
  go_enter Try.func17, Try.ntmps17
  go_wp2_with fail
  go_loopg [3, 8] n (fun gn o r wr => ∃ (k : Nat) (L : Int), k ≤ n ∧ gn = n - k ∧ r = .int .i64 k ∧ o = .int .i64 L ∧ (0 ≤ L ∧ L ≤ 15) ∧ oOkF (os.drop k) L = orderOk os ∧ wr = w)
  case atStart => exact ⟨0, 0, Nat.zero_le _, rfl, rfl, rfl, by decide, rfl, rfl⟩
  case round =>
    obtain ⟨k, L, hk, hgn, rfl, rfl, hL, hO, rfl⟩ := hrel
    have hgk : gk = n - k := hgn
    clear hgn
    by_cases hlt : k < n
    · obtain ⟨g, off, d, rfl, hg, hd, cd⟩ := hI.out.at_ hlt
      have hdr : os.drop k = d :: os.drop (k + 1) := by
        rw [List.drop_eq_getElem_cons (by omega), (List.getElem?_eq_some_iff.1 hd).2]
      rw [hdr] at hO
      have hO' : ((inB d 0 3 && !tb L d.toNat) && oOkF (os.drop (k + 1)) (bor L (bitN d))) = orderOk os := hO
      have hOh := Lib.hid hO'
      have hk0 : (0 : Int) ≤ (k : Int) := by omega
      have hk1 : (k : Int) < (n : Int) := by omega
      have cV := Lib.hid (fun wx => varOk_any d wx)
      have cB := Lib.hid (fun wx => bitOf_any d wx)
      have hor := bits_or hL (bitN_le d)
      have hLh := Lib.hid hL
      clear hO hO' hd hdr hL
      cases hin : inB d 0 3
      · rw [hin] at cV hOh
        have hR := Lib.hid (show orderOk os = false from hOh.out.symm)
        clear hin hOh
        go_wp2_with fail
        refine (cV.out _).mono ?_
        rintro e w' ⟨rfl, rfl⟩
        go_wp2_with fail
        go_ret
        exact ⟨ret_bool hR.out, rfl⟩
      · rw [hin] at cV hOh
        obtain ⟨u, rfl, hu⟩ := nat4 (inB_iff.1 hin).1 (inB_iff.1 hin).2
        rw [Int.toNat_natCast] at hOh
        have hba : (bits .and .i64 L (bitN (u : Int)) != 0) = tb L u := by
          have := bits_and hLh.out (show u ≤ 3 by omega)
          simp only [bne, this, Bool.not_not]
        clear hin
        cases ht : tb L u
        · rw [ht] at hOh hba
          have hR := Lib.hid (show oOkF (os.drop (k + 1)) (bor L (bitN (u : Int))) = orderOk os from by rw [← hOh.out]; simp)
          have hLb := Lib.hid (bor_bd (a := L) (b := bitN (u : Int)) hLh.out.2 (bitN_le (u : Int)).2)
          clear ht hOh
          go_wp2_with fail
          refine (cV.out _).mono ?_
          rintro e w' ⟨rfl, rfl⟩
          go_wp2_with fail
          refine (cB.out _).mono ?_
          rintro e w' ⟨rfl, rfl⟩
          go_wp2_with fail
          refine (cB.out _).mono ?_
          rintro e w' ⟨rfl, rfl⟩
          go_wp2_with fail
          go_roundg (n - (k + 1))
          case measure => omega
          case rel => exact ⟨k + 1, _, by omega, rfl, by go_num, rfl, hLb.out, hR.out, rfl⟩
        · rw [ht] at hOh hba
          have hR := Lib.hid (show orderOk os = false from by rw [← hOh.out]; rfl)
          clear ht hOh
          go_wp2_with fail
          refine (cV.out _).mono ?_
          rintro e w' ⟨rfl, rfl⟩
          go_wp2_with fail
          refine (cB.out _).mono ?_
          rintro e w' ⟨rfl, rfl⟩
          go_wp2_with fail
          go_ret
          exact ⟨ret_bool hR.out, rfl⟩
    · obtain rfl : k = n := by omega
      have hR := Lib.hid (show orderOk os = true from by rw [← hO, List.drop_eq_nil_of_le (by omega)]; rfl)
      go_wp2_with fail
      go_ret
      exact ⟨ret_bool hR.out, rfl⟩
end Go.Proofs.Ytaipdkfbkcknkaa

namespace Go.Proofs.Ytaipdkfbkcknkaa
set_option maxRecDepth 100000
set_option linter.unusedVariables false
open Go.RowKit
theorem list_parts {Fs : List Fac} (h : listOk Fs = true) : Fs.length ≤ 8 ∧ ∀ F ∈ Fs, facOk 9 F = true := by
  unfold listOk at h
  rw [Bool.and_eq_true] at h
  exact ⟨of_decide_eq_true h.1, fun F hF => List.all_eq_true.1 h.2 F hF⟩
end Go.Proofs.Ytaipdkfbkcknkaa

namespace Go.Proofs.Ytaipdkfbkcknkaa
set_option maxRecDepth 100000
set_option linter.unusedVariables false
open Go.RowKit
def nats (l : List Nat) : List Int := l.map fun (n : Nat) => (n : Int)
/-- The cells of widths. -/
def ArrN (cs : Array Value) (ls : List Nat) : Prop := cs.size = 16 ∧ ∀ q : Nat, q < 16 → cs[q]? = some (.int .i64 ((ls.getD q 0 : Nat) : Int))
theorem ArrN.one {cs : Array Value} {ls : List Nat} (h : ArrN cs ls) : cs.all (·.oneCell') = true := by
  refine Array.all_eq_true_iff_forall_mem.2 fun u hu => ?_
  obtain ⟨i, hi, rfl⟩ := Array.mem_iff_getElem.1 hu
  have h2 := h.2 i (by rw [← h.1]; exact hi)
  rw [Array.getElem?_eq_getElem hi] at h2
  rw [Option.some.inj h2]; rfl
theorem ArrN.put {cs : Array Value} {ls : List Nat} (h : ArrN cs ls) (hl : ls.length = 16) {q : Nat} (hq : q < 16) (x : Nat) : ArrN (cs.setIfInBounds q (.int .i64 (x : Int))) (ls.set q x) := by
  refine ⟨by simpa using h.1, fun j hj => ?_⟩
  by_cases hjq : q = j
  · subst hjq
    rw [Array.getElem?_setIfInBounds, if_pos rfl, if_pos (by rw [h.1]; exact hq), List.getD_eq_getElem?_getD, List.getElem?_set_self (by omega)]
    rfl
  · rw [Array.getElem?_setIfInBounds, if_neg hjq, h.2 j hj, List.getD_eq_getElem?_getD, List.getD_eq_getElem?_getD, List.getElem?_set_ne hjq]
theorem ArrN.zero : ArrN (List.toArray (List.replicate 16 (.int .i64 0))) (zN 16) := by
  refine ⟨by simp, fun q hq => ?_⟩
  have : (zN 16).getD q 0 = 0 := by
    unfold zN
    rw [List.getD_eq_getElem?_getD, List.getElem?_replicate]
    split <;> rfl
  rw [this, List.getElem?_toArray, List.getElem?_replicate, if_pos hq]
  rfl
/-- Cells written in the midst of a block. -/
theorem has_setCells_ {g : Nat} {t : TypeId} : ∀ (vs : List Value) (o : Nat) (w : World) (cs : Array Value), Has w g t cs → o + vs.length ≤ cs.size →
    ∃ cs', Has (w.setCells g o vs) g t cs' ∧ cs'.size = cs.size ∧ (∀ j v, vs[j]? = some v → cs'[o + j]? = some v) ∧ ∀ i, (i < o ∨ o + vs.length ≤ i) → cs'[i]? = cs[i]?
  | [], o, w, cs, h, hl => ⟨cs, h, rfl, fun j v hv => by simp at hv, fun i _ => rfl⟩
  | u :: vs, o, w, cs, h, hl => by
    rw [List.length_cons] at hl
    obtain ⟨cs', h1, h2, h3, h4⟩ := has_setCells_ vs (o + 1) (w.setCell ⟨g, o, none⟩ u) (cs.setIfInBounds o u) (h.put o u) (by simp; omega)
    refine ⟨cs', h1, by rw [h2]; simp, fun j v hv => ?_, fun i hi => ?_⟩
    · cases j with
      | zero =>
        have e : u = v := by simpa using hv
        subst e
        rw [Nat.add_zero, h4 o (by omega), Array.getElem?_setIfInBounds, if_pos rfl, if_pos (by omega)]
      | succ j =>
        have := h3 j v (by simpa using hv)
        rwa [show o + (j + 1) = o + 1 + j by omega]
    · rw [List.length_cons] at hi
      rw [h4 i (by omega), Array.getElem?_setIfInBounds, if_neg (by omega)]
theorem below_setCells_ {B b : Nat} {w0 : World} (hb : B ≤ b) : ∀ (vs : List Value) (o : Nat) (w : World), Below B w0 w → Below B w0 (w.setCells b o vs)
  | [], o, w, h => h
  | u :: vs, o, w, h => below_setCells_ hb vs (o + 1) _ (h.setCell (p := ⟨b, o, none⟩) hb u)
theorem has_there_ {w : World} {g : Nat} {t : TypeId} {cs : Array Value} (h : Has w g t cs) {o n : Nat} (hn : o + n ≤ cs.size) : w.there g o n := fun j hj => by
  refine ⟨?_, h.frozen _⟩
  rw [h.cell, Array.getElem?_eq_getElem (by omega)]; rfl
theorem has_range_ {w : World} {g : Nat} {t : TypeId} {cs : Array Value} (h : Has w g t cs) {o : Nat} {vs : List Value} (hv : ∀ j v, vs[j]? = some v → cs[o + j]? = some v) : w.rangeAt g o vs := fun j v hj => (h.cell _).trans (hv j v hj)
theorem results_cell_ {fn : Func} {p : Tmp} {ty : TypeId} (h : fn.results = #[.cell p ty]) (tmps : Array Value) (P : Program) (w : World) :
    (results fn tmps).run P w = ((asAddr (tmps.getD p undef)).run P w).andThen fun a w₁ => (loadVar ty a).run P w₁ := by
  simp only [results, h]
  simp [Sem.run_bind, Result.andThen]
end Go.Proofs.Ytaipdkfbkcknkaa

namespace Go.Proofs.Ytaipdkfbkcknkaa
set_option maxRecDepth 100000
set_option linter.unusedVariables false
open Go.RowKit
theorem FcV.below {w w' : World} {base : Nat} {v1 v2 : Value} {F : Fac} (h : FcV w base v1 v2 F) (hb : Below w.heap.size w w') : FcV w' base v1 v2 F := ⟨h.1.below hb, h.2.1.below hb, h.2.2⟩
theorem FcV.none_ (w : World) (base : Nat) : FcV w base (.slice none 0 0) (.slice none 0 0) ⟨[], []⟩ := ⟨IOwn.nil _ _, IOwn.nil _ _, fun b h => by cases h⟩
theorem FcV.le {w : World} {base base' : Nat} {v1 v2 : Value} {F : Fac} (h : FcV w base v1 v2 F) (hb : base' ≤ base) : FcV w base' v1 v2 F := ⟨owns_le h.1 hb, owns_le h.2.1 hb, h.2.2⟩
theorem FcV.put2 {w : World} {base g : Nat} {v1 v2 : Value} {F : Fac} {cs : Array Value} (h : FcV w base v1 v2 F) (hg : Has w g 36 cs) (x y : Value) : FcV ((w.setCell ⟨g, 0, none⟩ x).setCell ⟨g, 1, none⟩ y) base v1 v2 F := by
  have hk := ((KeptBut.refl w (fun i => i = g)).put (p := ⟨g, 0, none⟩) (fun _ => rfl) x).put (p := ⟨g, 1, none⟩) (fun _ => rfl) y
  exact ⟨h.1.but hk (fun k hk e => iown_ne h.1 hg (by decide) k hk e), h.2.1.but hk (fun k hk e => iown_ne h.2.1 hg (by decide) k hk e), h.2.2⟩
theorem FcV.fac {w : World} {base n1 c1 n2 c2 : Nat} {A1 A2 : Option Addr} {F : Fac} (h : FcV w base (.slice A1 n1 c1) (.slice A2 n2 c2) F) : FacW w w.heap.size A1 n1 A2 n2 F := ⟨h.1.lst, h.2.1.lst⟩
end Go.Proofs.Ytaipdkfbkcknkaa
