/- Parts of the proof: K2, Gg, K3, K6, KA, K9, Dr. -/
import Derived.Test.YtaipdkfbkcknkaaZAC
import Derived.Test.YtaipdkfbkcknkaaZAI
import Derived.Deep.MidRow
import Derived.Deep.WholeRow
import Derived.Test.YtaipdkfbkcknkaaZAF
import Derived.BigQuiet
import Derived.Test.YtaipdkfbkcknkaaZAG
import Derived.Test.YtaipdkfbkcknkaaZAM
import Derived.Test.YtaipdkfbkcknkaaZAA
namespace Go.Proofs.Ytaipdkfbkcknkaa
set_option maxRecDepth 100000
set_option linter.unusedVariables false
open Go.RowKit
/-- Different variables. -/
def oOkF : List Int → Int → Bool
  | [], _ => true
  | v :: r, L => (inB v 0 3 && !tb L v.toNat) && oOkF r (bor L (bitN v))
def orderOk (os : List Int) : Bool := oOkF os 0
theorem OrderOk_any (A : Option Addr) (n c : Nat) (os : List Int) (w : World) (h : Ils w w.heap.size A n os) (hn : n ≤ maxLen) :
    Calls Try.prog 17 #[.slice A n c] w fun e w' => e = .returned (.bool (orderOk os)) ∧ w = w' := by
  have hI := Lib.hid h
  have hl := h.1
  have hn9 : n ≤ 9223372036854775807 := by unfold maxLen at hn; omega
  clear h hn
  go_enter Try.func17, Try.ntmps17
  go_wp2_with fail
  go_loopg [3, 8] n (fun gn o r wr => ∃ (k : Nat) (L : Int), k ≤ n ∧ gn = n - k ∧ r = .int .i64 k ∧ o = .int .i64 L ∧ (0 ≤ L ∧ L ≤ 15) ∧ oOkF (os.drop k) L = orderOk os ∧ wr = w)
  case atStart => exact ⟨0, 0, Nat.zero_le _, rfl, rfl, rfl, by decide, rfl, rfl⟩
  case round =>
    obtain ⟨k, L, hk, hgn, rfl, rfl, hL, hO, rfl⟩ := hrel
    have hgk : gk = n - k := hgn
    clear hgn
    by_cases hlt : k < n
    · obtain ⟨g, off, d, rfl, hg, hd, cd⟩ := hI.out.at_ hlt
      have hdr : os.drop k = d :: os.drop (k + 1) := by
        rw [List.drop_eq_getElem_cons (by omega), (List.getElem?_eq_some_iff.1 hd).2]
      rw [hdr] at hO
      have hO' : ((inB d 0 3 && !tb L d.toNat) && oOkF (os.drop (k + 1)) (bor L (bitN d))) = orderOk os := hO
      have hOh := Lib.hid hO'
      have hk0 : (0 : Int) ≤ (k : Int) := by omega
      have hk1 : (k : Int) < (n : Int) := by omega
      have cV := Lib.hid (fun wx => varOk_any d wx)
      have cB := Lib.hid (fun wx => bitOf_any d wx)
      have hor := bits_or hL (bitN_le d)
      have hLh := Lib.hid hL
      clear hO hO' hd hdr hL
      cases hin : inB d 0 3
      · rw [hin] at cV hOh
        have hR := Lib.hid (show orderOk os = false from hOh.out.symm)
        clear hin hOh
        go_wp2_with fail
        refine (cV.out _).mono ?_
        rintro e w' ⟨rfl, rfl⟩
        go_wp2_with fail
        go_ret
        exact ⟨ret_bool hR.out, rfl⟩
      · rw [hin] at cV hOh
        obtain ⟨u, rfl, hu⟩ := nat4 (inB_iff.1 hin).1 (inB_iff.1 hin).2
        rw [Int.toNat_natCast] at hOh
        have hba : (bits .and .i64 L (bitN (u : Int)) != 0) = tb L u := by
          have := bits_and hLh.out (show u ≤ 3 by omega)
          simp only [bne, this, Bool.not_not]
        clear hin
        cases ht : tb L u
        · rw [ht] at hOh hba
          have hR := Lib.hid (show oOkF (os.drop (k + 1)) (bor L (bitN (u : Int))) = orderOk os from by rw [← hOh.out]; simp)
          have hLb := Lib.hid (bor_bd (a := L) (b := bitN (u : Int)) hLh.out.2 (bitN_le (u : Int)).2)
          clear ht hOh
          go_wp2_with fail
          refine (cV.out _).mono ?_
          rintro e w' ⟨rfl, rfl⟩
          go_wp2_with fail
          refine (cB.out _).mono ?_
          rintro e w' ⟨rfl, rfl⟩
          go_wp2_with fail
          refine (cB.out _).mono ?_
          rintro e w' ⟨rfl, rfl⟩
          go_wp2_with fail
          go_roundg (n - (k + 1))
          case measure => omega
          case rel => exact ⟨k + 1, _, by omega, rfl, by go_num, rfl, hLb.out, hR.out, rfl⟩
        · rw [ht] at hOh hba
          have hR := Lib.hid (show orderOk os = false from by rw [← hOh.out]; rfl)
          clear ht hOh
          go_wp2_with fail
          refine (cV.out _).mono ?_
          rintro e w' ⟨rfl, rfl⟩
          go_wp2_with fail
          refine (cB.out _).mono ?_
          rintro e w' ⟨rfl, rfl⟩
          go_wp2_with fail
          go_ret
          exact ⟨ret_bool hR.out, rfl⟩
    · obtain rfl : k = n := by omega
      have hR := Lib.hid (show orderOk os = true from by rw [← hO, List.drop_eq_nil_of_le (by omega)]; rfl)
      go_wp2_with fail
      go_ret
      exact ⟨ret_bool hR.out, rfl⟩
end Go.Proofs.Ytaipdkfbkcknkaa

namespace Go.Proofs.Ytaipdkfbkcknkaa
set_option maxRecDepth 100000
set_option linter.unusedVariables false
open Go.RowKit
theorem st_all : ∀ i : Fin 81, stOf (over 15) (i.val : Int) = (i.val : Int) := by decide +kernel
theorem list_parts {Fs : List Fac} (h : listOk Fs = true) : Fs.length ≤ 8 ∧ ∀ F ∈ Fs, facOk 9 F = true := by
  unfold listOk at h
  rw [Bool.and_eq_true] at h
  exact ⟨of_decide_eq_true h.1, fun F hF => List.all_eq_true.1 h.2 F hF⟩
theorem nine_pow {k : Nat} (h : k ≤ 8) : (9 : Int) ^ k ≤ 1000000000000000000 := by
  obtain rfl | rfl | rfl | rfl | rfl | rfl | rfl | rfl | rfl : k = 0 ∨ k = 1 ∨ k = 2 ∨ k = 3 ∨ k = 4 ∨ k = 5 ∨ k = 6 ∨ k = 7 ∨ k = 8 := by omega
  all_goals decide
theorem fac15 (Fs : List Fac) : (facBy_ 15 (prodAt Fs)).ns = (List.range 81).map fun (i : Nat) => prodAt Fs (i : Int) := by
  have e : 3 ^ (over 15).length = 81 := by decide
  unfold facBy_
  dsimp only
  rw [e]
  refine List.map_congr_left fun i hi => ?_
  rw [st_all ⟨i, List.mem_range.1 hi⟩]
theorem field_two (x y : Value) (w : World) : (Instr.field 36 (.agg #[x, y]) 1).run Try.prog w = .ok y w := by kernel_rfl
theorem ListOfFactors_any (A : Option Addr) (n c : Nat) (Fs : List Fac) (w : World) (h : FLst w w.heap.size A n Fs) (hn : n ≤ maxLen) (hsm : smallF Fs) :
    Calls Try.prog 41 #[.slice A n c] w (Lbd w (lofTo Fs) (listOk Fs)) := by
  have hI := Lib.hid h
  have hl := h.1
  have cK := Lib.hid (factorsOk_any A n c Fs w h hn hsm)
  have hnh := Lib.hid hn
  clear h hn hsm
  cases hk : listOk Fs
  · have hT : lofTo Fs = [] := by unfold lofTo; rw [hk]; rfl
    rw [hT]
    rw [hk] at cK
    clear hk hT
    go_enter Try.func41, Try.ntmps41
    go_wp2_with fail
    refine cK.out.mono ?_
    rintro e w1 ⟨rfl, hb⟩
    go_wp2_with fail
    go_ret2
    exact ⟨_, rfl, IOwn.nil _ _, hb⟩
  · have hT : lofTo Fs = (facBy_ 15 (prodAt Fs)).ns := by unfold lofTo; rw [hk, if_pos rfl, fac15]
    rw [hT]
    rw [hk] at cK
    obtain ⟨h8, hf⟩ := list_parts hk
    have cT := Lib.hid (fun wx hx => timesOver_any A n c Fs 15 9 wx hx hnh.out (by decide) (by decide) hf (fun k hk => nine_pow (by omega)))
    clear hk hT hf
    go_enter Try.func41, Try.ntmps41
    go_wp2_with fail
    refine cK.out.mono ?_
    rintro e w1 ⟨rfl, hb⟩
    have hI1 := Lib.hid ((hI.out.below hb).more hb.size)
    have hbh := Lib.hid hb
    clear hb
    go_wp2_with fail
    refine (cT.out _ hI1.out).mono ?_
    rintro e w2 ⟨v1, v2, rfl, hV, hb2⟩
    obtain ⟨D1, e1, rfl, _, _⟩ := hV.1.form
    obtain ⟨D2, e2, rfl, _, _⟩ := hV.2.1.form
    have hB2 := Lib.hid (hbh.out.trans (hb2.mono hbh.out.size))
    have hO := Lib.hid (show IOwn w2 w.heap.size (.slice D2 (facBy_ 15 (prodAt Fs)).ns.length e2) (facBy_ 15 (prodAt Fs)).ns from owns_le hV.2.1 hbh.out.size)
    clear hb2
    have hfi : ∀ wx : World, (Instr.field 36 (.agg #[.slice D1 (facBy_ 15 (prodAt Fs)).vs.length e1, .slice D2 (facBy_ 15 (prodAt Fs)).ns.length e2]) 1).run Try.prog wx = .ok (.slice D2 (facBy_ 15 (prodAt Fs)).ns.length e2) wx := fun wx => field_two _ _ wx
    go_wp2_with fail
    go_ret2
    exact ⟨_, rfl, hO.out, hB2.out⟩
end Go.Proofs.Ytaipdkfbkcknkaa

namespace Go.Proofs.Ytaipdkfbkcknkaa
set_option maxRecDepth 100000
set_option linter.unusedVariables false
open Go.RowKit
def nats (l : List Nat) : List Int := l.map fun (n : Nat) => (n : Int)
/-- The cells of widths. -/
def ArrN (cs : Array Value) (ls : List Nat) : Prop := cs.size = 16 ∧ ∀ q : Nat, q < 16 → cs[q]? = some (.int .i64 ((ls.getD q 0 : Nat) : Int))
theorem ArrN.one {cs : Array Value} {ls : List Nat} (h : ArrN cs ls) : cs.all (·.oneCell') = true := by
  refine Array.all_eq_true_iff_forall_mem.2 fun u hu => ?_
  obtain ⟨i, hi, rfl⟩ := Array.mem_iff_getElem.1 hu
  have h2 := h.2 i (by rw [← h.1]; exact hi)
  rw [Array.getElem?_eq_getElem hi] at h2
  rw [Option.some.inj h2]; rfl
theorem ArrN.put {cs : Array Value} {ls : List Nat} (h : ArrN cs ls) (hl : ls.length = 16) {q : Nat} (hq : q < 16) (x : Nat) : ArrN (cs.setIfInBounds q (.int .i64 (x : Int))) (ls.set q x) := by
  refine ⟨by simpa using h.1, fun j hj => ?_⟩
  by_cases hjq : q = j
  · subst hjq
    rw [Array.getElem?_setIfInBounds, if_pos rfl, if_pos (by rw [h.1]; exact hq), List.getD_eq_getElem?_getD, List.getElem?_set_self (by omega)]
    rfl
  · rw [Array.getElem?_setIfInBounds, if_neg hjq, h.2 j hj, List.getD_eq_getElem?_getD, List.getD_eq_getElem?_getD, List.getElem?_set_ne hjq]
theorem ArrN.zero : ArrN (List.toArray (List.replicate 16 (.int .i64 0))) (zN 16) := by
  refine ⟨by simp, fun q hq => ?_⟩
  have : (zN 16).getD q 0 = 0 := by
    unfold zN
    rw [List.getD_eq_getElem?_getD, List.getElem?_replicate]
    split <;> rfl
  rw [this, List.getElem?_toArray, List.getElem?_replicate, if_pos hq]
  rfl
/-- Cells written in the midst of a block. -/
theorem has_setCells_ {g : Nat} {t : TypeId} : ∀ (vs : List Value) (o : Nat) (w : World) (cs : Array Value), Has w g t cs → o + vs.length ≤ cs.size →
    ∃ cs', Has (w.setCells g o vs) g t cs' ∧ cs'.size = cs.size ∧ (∀ j v, vs[j]? = some v → cs'[o + j]? = some v) ∧ ∀ i, (i < o ∨ o + vs.length ≤ i) → cs'[i]? = cs[i]?
  | [], o, w, cs, h, hl => ⟨cs, h, rfl, fun j v hv => by simp at hv, fun i _ => rfl⟩
  | u :: vs, o, w, cs, h, hl => by
    rw [List.length_cons] at hl
    obtain ⟨cs', h1, h2, h3, h4⟩ := has_setCells_ vs (o + 1) (w.setCell ⟨g, o, none⟩ u) (cs.setIfInBounds o u) (h.put o u) (by simp; omega)
    refine ⟨cs', h1, by rw [h2]; simp, fun j v hv => ?_, fun i hi => ?_⟩
    · cases j with
      | zero =>
        have e : u = v := by simpa using hv
        subst e
        rw [Nat.add_zero, h4 o (by omega), Array.getElem?_setIfInBounds, if_pos rfl, if_pos (by omega)]
      | succ j =>
        have := h3 j v (by simpa using hv)
        rwa [show o + (j + 1) = o + 1 + j by omega]
    · rw [List.length_cons] at hi
      rw [h4 i (by omega), Array.getElem?_setIfInBounds, if_neg (by omega)]
theorem below_setCells_ {B b : Nat} {w0 : World} (hb : B ≤ b) : ∀ (vs : List Value) (o : Nat) (w : World), Below B w0 w → Below B w0 (w.setCells b o vs)
  | [], o, w, h => h
  | u :: vs, o, w, h => below_setCells_ hb vs (o + 1) _ (h.setCell (p := ⟨b, o, none⟩) hb u)
theorem has_there_ {w : World} {g : Nat} {t : TypeId} {cs : Array Value} (h : Has w g t cs) {o n : Nat} (hn : o + n ≤ cs.size) : w.there g o n := fun j hj => by
  refine ⟨?_, h.frozen _⟩
  rw [h.cell, Array.getElem?_eq_getElem (by omega)]; rfl
theorem has_range_ {w : World} {g : Nat} {t : TypeId} {cs : Array Value} (h : Has w g t cs) {o : Nat} {vs : List Value} (hv : ∀ j v, vs[j]? = some v → cs[o + j]? = some v) : w.rangeAt g o vs := fun j v hj => (h.cell _).trans (hv j v hj)
theorem results_cell_ {fn : Func} {p : Tmp} {ty : TypeId} (h : fn.results = #[.cell p ty]) (tmps : Array Value) (P : Program) (w : World) :
    (results fn tmps).run P w = ((asAddr (tmps.getD p undef)).run P w).andThen fun a w₁ => (loadVar ty a).run P w₁ := by
  simp only [results, h]
  simp [Sem.run_bind, Result.andThen]
end Go.Proofs.Ytaipdkfbkcknkaa

namespace Go.Proofs.Ytaipdkfbkcknkaa
set_option maxRecDepth 100000
set_option linter.unusedVariables false
open Go.RowKit
def natsOf (os : List Int) : List Nat := os.map Int.toNat
theorem ords1_ : ∀ a : Fin 4, [a.val] ∈ ordsAll := by decide +kernel
theorem ords2_ : ∀ a b : Fin 4, oOkF [(a.val : Int), (b.val : Int)] 0 = true → [a.val, b.val] ∈ ordsAll := by decide +kernel
theorem ords3_ : ∀ a b c : Fin 4, oOkF [(a.val : Int), (b.val : Int), (c.val : Int)] 0 = true → [a.val, b.val, c.val] ∈ ordsAll := by decide +kernel
theorem ords4_ : ∀ a b c d : Fin 4, oOkF [(a.val : Int), (b.val : Int), (c.val : Int), (d.val : Int)] 0 = true → [a.val, b.val, c.val, d.val] ∈ ordsAll := by decide +kernel
theorem ords5_ : ∀ a b c d : Fin 4, oOkF [(a.val : Int), (b.val : Int), (c.val : Int), (d.val : Int)] 0 = true → bor (bor (bor (bor 0 (bitN (a.val : Int))) (bitN (b.val : Int))) (bitN (c.val : Int))) (bitN (d.val : Int)) = 15 := by decide +kernel
theorem oOk_in : ∀ {os : List Int} {L : Int}, oOkF os L = true → ∀ v ∈ os, 0 ≤ v ∧ v ≤ 3
  | [], _, _, v, hv => by cases hv
  | u :: r, L, h, v, hv => by
    have h1 : ((inB u 0 3 && !tb L u.toNat) && oOkF r (bor L (bitN u))) = true := h
    rw [Bool.and_eq_true, Bool.and_eq_true] at h1
    rcases List.mem_cons.1 hv with rfl | hv
    · exact inB_iff.1 h1.1.1
    · exact oOk_in h1.2 v hv
theorem oOk_mem {os : List Int} (h : orderOk os = true) : natsOf os ∈ ordsAll ∧ nats (natsOf os) = os ∧ (∀ v ∈ os, 0 ≤ v ∧ v ≤ 3) ∧ os.length ≤ 4 := by
  have hin := oOk_in h
  have hn : nats (natsOf os) = os := by
    unfold nats natsOf
    rw [List.map_map]
    conv => rhs; rw [← List.map_id os]
    refine List.map_congr_left fun v hv => ?_
    have := hin v hv
    show ((v.toNat : Nat) : Int) = v
    omega
  unfold orderOk at h
  match os, h, hin, hn with
  | [], _, hin, hn => exact ⟨by decide, hn, hin, by decide⟩
  | [a], h, hin, hn =>
    obtain ⟨a, rfl, _⟩ := nat_three (hin a (by simp))
    exact ⟨by have := ords1_ a; simpa [natsOf] using this, hn, hin, by simp⟩
  | [a, b], h, hin, hn =>
    obtain ⟨a, rfl, _⟩ := nat_three (hin a (by simp))
    obtain ⟨b, rfl, _⟩ := nat_three (hin b (by simp))
    exact ⟨by have := ords2_ a b h; simpa [natsOf] using this, hn, hin, by simp⟩
  | [a, b, c], h, hin, hn =>
    obtain ⟨a, rfl, _⟩ := nat_three (hin a (by simp))
    obtain ⟨b, rfl, _⟩ := nat_three (hin b (by simp))
    obtain ⟨c, rfl, _⟩ := nat_three (hin c (by simp))
    exact ⟨by have := ords3_ a b c h; simpa [natsOf] using this, hn, hin, by simp⟩
  | [a, b, c, d], h, hin, hn =>
    obtain ⟨a, rfl, _⟩ := nat_three (hin a (by simp))
    obtain ⟨b, rfl, _⟩ := nat_three (hin b (by simp))
    obtain ⟨c, rfl, _⟩ := nat_three (hin c (by simp))
    obtain ⟨d, rfl, _⟩ := nat_three (hin d (by simp))
    exact ⟨by have := ords4_ a b c d h; simpa [natsOf] using this, hn, hin, by simp⟩
  | a :: b :: c :: d :: e :: r, h, hin, hn =>
    exfalso
    obtain ⟨a, rfl, _⟩ := nat_three (hin a (by simp))
    obtain ⟨b, rfl, _⟩ := nat_three (hin b (by simp))
    obtain ⟨c, rfl, _⟩ := nat_three (hin c (by simp))
    obtain ⟨d, rfl, _⟩ := nat_three (hin d (by simp))
    obtain ⟨e, rfl, _⟩ := nat_three (hin e (by simp))
    have e0 : ∀ (v : Int) (t : List Int) (L : Int), oOkF (v :: t) L = ((inB v 0 3 && !tb L v.toNat) && oOkF t (bor L (bitN v))) := fun _ _ _ => rfl
    rw [e0, e0, e0, e0, e0] at h
    simp only [Bool.and_eq_true] at h
    obtain ⟨h1, h2, h3, h4, h5, _⟩ := h
    have h6 := ords5_ a b c d (by simp only [e0, Bool.and_eq_true]; exact ⟨h1, h2, h3, h4, rfl⟩)
    rw [h6, Int.toNat_natCast] at h5
    have : ∀ e : Fin 4, tb 15 e.val = true := by decide +kernel
    rw [this e] at h5
    exact absurd h5.2 (by decide)
theorem list_fine {Fs : List Fac} (h : listOk Fs = true) : Fs.length ≤ 8 ∧ (∀ F ∈ Fs, facOk 9 F = true) ∧ Fine Fs := by
  obtain ⟨h1, h2⟩ := list_parts h
  exact ⟨h1, h2, fun F hF => mB_ok (h2 F hF)⟩
end Go.Proofs.Ytaipdkfbkcknkaa

namespace Go.Proofs.Ytaipdkfbkcknkaa
set_option maxRecDepth 100000
set_option linter.unusedVariables false
open Go.RowKit
theorem oOk_has : ∀ (os : List Int) (L : Int), oOkF os L = true ↔ ∀ k v, os[k]? = some v → inB v 0 3 = true ∧ tb L v.toNat = false ∧ v ∉ os.take k
  | [], L => ⟨fun _ k v h => by simp at h, fun _ => rfl⟩
  | u :: r, L => by
    have e : oOkF (u :: r) L = ((inB u 0 3 && !tb L u.toNat) && oOkF r (bor L (bitN u))) := rfl
    rw [e, Bool.and_eq_true, Bool.and_eq_true, oOk_has r]
    have hb : inB u 0 3 = true → ∀ v : Int, inB v 0 3 = true → tb (bor L (bitN u)) v.toNat = (tb L v.toNat || decide (u = v)) := fun hu v hv => by
      have h1 := inB_iff.1 hu
      have h2 := inB_iff.1 hv
      rw [tb_bor, tb_bit h1.1 h1.2 (show v.toNat ≤ 3 by omega)]
      congr 1
      rw [decide_eq_decide]
      omega
    constructor
    · rintro ⟨⟨h1, h2⟩, h3⟩ k v hk
      cases k with
      | zero =>
        have : u = v := by simpa using hk
        subst this
        exact ⟨h1, by simpa using h2, by simp⟩
      | succ k =>
        have hk' : r[k]? = some v := by simpa using hk
        obtain ⟨g1, g2, g3⟩ := h3 k v hk'
        rw [hb h1 v g1, Bool.or_eq_false_iff] at g2
        refine ⟨g1, g2.1, ?_⟩
        rw [List.take_succ_cons, List.mem_cons]
        rintro (q | q)
        · exact of_decide_eq_false g2.2 q.symm
        · exact g3 q
    · intro h
      obtain ⟨g1, g2, _⟩ := h 0 u rfl
      refine ⟨⟨g1, by rw [g2]; rfl⟩, fun k v hk => ?_⟩
      obtain ⟨f1, f2, f3⟩ := h (k + 1) v (by simpa using hk)
      rw [List.take_succ_cons, List.mem_cons] at f3
      refine ⟨f1, ?_, fun q => f3 (.inr q)⟩
      rw [hb g1 v f1, f2, Bool.false_or]
      exact decide_eq_false fun q => f3 (.inl q.symm)
theorem orderOk_iff (os : List Int) : orderOk os = true ↔ ∀ k v, os[k]? = some v → inB v 0 3 = true ∧ v ∉ os.take k := by
  unfold orderOk
  rw [oOk_has]
  have h0 : ∀ v : Int, tb 0 v.toNat = false := fun v => by unfold tb; exact Nat.zero_testBit _
  exact ⟨fun h k v hk => ⟨(h k v hk).1, (h k v hk).2.2⟩, fun h k v hk => ⟨(h k v hk).1, h0 v, (h k v hk).2⟩⟩
theorem ils_take {w : World} {B n k : Nat} {A : Option Addr} {ds : List Int} (h : Ils w B A n ds) (hk : k ≤ n) : Ils w B A k (ds.take k) := ⟨by rw [List.length_take, h.1]; omega, fun h0 => by
  obtain ⟨g, off, e, hg, hc⟩ := h.2 (by omega)
  refine ⟨g, off, e, hg, fun i d hi => hc i d ?_⟩
  rw [List.getElem?_take] at hi
  split at hi
  · exact hi
  · cases hi⟩
theorem specOrderOk_any (A : Option Addr) (n c : Nat) (os : List Int) (w : World) (h : Ils w w.heap.size A n os) (hn : n ≤ c) (hc : c ≤ maxLen) :
    Calls Try.prog 15 #[.slice A n c] w fun e w' => e = .returned (.bool (orderOk os)) ∧ ∃ m, w' = w.drewN m := by
  have hI := Lib.hid h
  have hl := h.1
  have hn9 : n ≤ 9223372036854775807 := by unfold maxLen at hc; omega
  have hm := Lib.hid (show n ≤ maxLen from Nat.le_trans hn hc)
  clear h hc
  go_enter Try.func15, Try.ntmps15
  go_wp2_with fail
  go_loopg [3] n (fun gn r wr => ∃ (k m : Nat), k ≤ n ∧ gn = n - k ∧ r = .int .i64 k ∧ (∀ i v, i < k → os[i]? = some v → inB v 0 3 = true ∧ v ∉ os.take i) ∧ wr = w.drewN m)
  case atStart => exact ⟨0, 0, Nat.zero_le _, rfl, rfl, fun i v hi => by omega, rfl⟩
  case round =>
    obtain ⟨k, m, hk, hgn, rfl, hO, rfl⟩ := hrel
    have hgk : gk = n - k := hgn
    have hOh := Lib.hid hO
    clear hgn hO
    by_cases hlt : k < n
    · obtain ⟨g, off, d, rfl, hg, hd, cd⟩ := hI.out.at_ hlt
      have hk0 : (0 : Int) ≤ (k : Int) := by omega
      have hk1 : (k : Int) < (n : Int) := by omega
      have hk2 : (k : Int) ≤ (c : Int) := by omega
      have cd' : (w.drewN m).cell? ⟨g, off + k, none⟩ = some (.int .i64 d) := cd
      have cV := Lib.hid (fun wx => (l1Var_any d wx).mono fun _ _ q => (show _ ∧ _ = wx from ⟨q.1, q.2.symm⟩))
      have cH := Lib.hid (fun wx hx => (l8Has_any (some ⟨g, off, none⟩) k c (os.take k) d wx hx (by have := hm.out; omega)).mono fun _ _ q => (show _ ∧ _ = wx from ⟨q.1, q.2.symm⟩))
      have hIt := Lib.hid (fun q => show Ils ((w.drewN m).drewN q) ((w.drewN m).drewN q).heap.size _ k (os.take k) from ils_take ((hI.out.below (below_drewN (Below.refl _ _) m)).below (below_drewN (Below.refl _ _) q)) hk)
      have hWm := Lib.hid (fun q => World.drewN_drewN w m q)
      have hdh := Lib.hid hd
      clear hd cd
      cases hin : inB d 0 3
      · rw [hin] at cV
        have hR := Lib.hid (show orderOk os = false from by
          cases ho : orderOk os
          · rfl
          · have := ((orderOk_iff os).1 ho k d hdh.out).1
            rw [hin] at this
            cases this)
        clear hin cH hIt
        obtain ⟨Wq, hWq⟩ : ∃ Wq, w.drewN m = Wq := ⟨_, rfl⟩
        rw [hWq] at cd' hWm ⊢
        go_wp2_with fail
        go_quiet (first | (go_at_call 61; exact Calls.quiet_of_same (cV.out _)))
        go_wp2_with fail
        go_ret
        exact ⟨ret_bool hR.out, _, by rw [hWm.out]⟩
      · rw [hin] at cV
        have hvin := Lib.hid hin
        clear hin
        cases hin2 : decide (d ∈ os.take k)
        · rw [hin2] at cH
          have hno := Lib.hid (of_decide_eq_false hin2)
          obtain ⟨Wq, hWq⟩ : ∃ Wq, w.drewN m = Wq := ⟨_, rfl⟩
          rw [hWq] at cd' hWm hIt ⊢
          have cHq := Lib.hid (fun q => cH.out (Wq.drewN q) (hIt.out q))
          clear hin2 cH hIt
          go_wp2_with fail
          go_quiet (first | (go_at_call 61; exact Calls.quiet_of_same (cV.out _)) | (go_at_call 62; exact Calls.quiet_of_same (cHq.out _)))
          go_wp2_with fail
          go_roundg (n - (k + 1))
          case measure => omega
          case rel => exact ⟨k + 1, m + nq, by omega, rfl, by go_num, fun i v hi hv => by
            by_cases he : i = k
            · subst he
              obtain rfl := Option.some.inj (hv.symm.trans hdh.out)
              exact ⟨hvin.out, hno.out⟩
            · exact hOh.out i v (by omega) hv, by rw [hWm.out]⟩
        · rw [hin2] at cH
          have hR := Lib.hid (show orderOk os = false from by
            cases ho : orderOk os
            · rfl
            · exact absurd (of_decide_eq_true hin2) ((orderOk_iff os).1 ho k d hdh.out).2)
          obtain ⟨Wq, hWq⟩ : ∃ Wq, w.drewN m = Wq := ⟨_, rfl⟩
          rw [hWq] at cd' hWm hIt ⊢
          have cHq := Lib.hid (fun q => cH.out (Wq.drewN q) (hIt.out q))
          clear hin2 cH hIt
          go_wp2_with fail
          go_quiet (first | (go_at_call 61; exact Calls.quiet_of_same (cV.out _)) | (go_at_call 62; exact Calls.quiet_of_same (cHq.out _)))
          go_wp2_with fail
          go_ret
          exact ⟨ret_bool hR.out, _, by rw [hWm.out]⟩
    · obtain rfl : k = n := by omega
      have hR := Lib.hid (show orderOk os = true from (orderOk_iff os).2 fun i v hv => hOh.out i v (by have := (List.getElem?_eq_some_iff.1 hv).1; omega) hv)
      go_wp2_with fail
      go_ret
      exact ⟨ret_bool hR.out, m, rfl⟩
end Go.Proofs.Ytaipdkfbkcknkaa

namespace Go.Proofs.Ytaipdkfbkcknkaa
set_option maxRecDepth 100000
set_option linter.unusedVariables false
open Go.RowKit
def FLst0 (w : World) (B : Nat) (A : Option Addr) (n : Nat) (Fs : List Fac) : Prop := FLst w B A n Fs ∧ Nilf w A n
theorem RowsF.flst0 {w : World} {base : Nat} {A : Option Addr} {n c : Nat} {Fs : List Fac} {vs : List Value} (h : RowsF w base (.slice A n c) Fs vs) (hn : Fs.length = n) : FLst0 w w.heap.size A n Fs := ⟨h.flst hn, h.nilf hn⟩
theorem FLst0.below {w w' : World} {B n : Nat} {A : Option Addr} {Fs : List Fac} (h : FLst0 w B A n Fs) (hb : Below B w w') : FLst0 w' B A n Fs := ⟨h.1.below hb, h.2.below h.1 hb⟩
theorem FLst0.more {w : World} {B B' n : Nat} {A : Option Addr} {Fs : List Fac} (h : FLst0 w B A n Fs) (hb : B ≤ B') : FLst0 w B' A n Fs := ⟨h.1.more hb, h.2⟩
theorem elimA_take {Fs : List Fac} {os : List Int} {k : Nat} {v : Int} (h : os[k]? = some v) : elimA Fs (os.take (k + 1)) = elim1 (elimA Fs (os.take k)) v := by
  obtain ⟨hl, he⟩ := List.getElem?_eq_some_iff.1 h
  unfold elimA
  rw [List.take_succ_eq_append_getElem hl, List.foldl_append, he]
  rfl
theorem elimA_all {Fs : List Fac} (hf : Fine Fs) {os : List Int} (ho : ∀ v ∈ os, 0 ≤ v ∧ v ≤ 3) : ∀ k, k ≤ os.length → Fine (elimA Fs (os.take k)) ∧ pb (elimA Fs (os.take k)) ≤ 3 ^ k * pb Fs ∧ (elimA Fs (os.take k)).length ≤ Fs.length + k ∧ grS (setsF (elimA Fs (os.take k))) = (grS (setsF Fs)).elS ((natsOf os).take k)
  | 0, _ => by
    rw [List.take_zero, List.take_zero]
    refine ⟨hf, by show pb Fs ≤ 3 ^ 0 * pb Fs; omega, by show Fs.length ≤ Fs.length + 0; omega, rfl⟩
  | k + 1, hk => by
    obtain ⟨h1, h2, h3, h4⟩ := elimA_all hf ho k (by omega)
    have hd : os[k]? = some os[k] := List.getElem?_eq_getElem (by omega)
    obtain ⟨V, hV, hVt⟩ := nat_three (ho os[k] (List.getElem_mem _))
    have hnk : (natsOf os)[k]? = some V.val := by unfold natsOf; rw [List.getElem?_map, hd, hVt]; rfl
    rw [elimA_take hd, hV]
    refine ⟨elim1_fine h1 V, ?_, ?_, ?_⟩
    · have := elim1_pb h1 V
      have e : (3 : Int) ^ (k + 1) * pb Fs = 3 * (3 ^ k * pb Fs) := by rw [Int.pow_succ, Int.mul_comm (3 ^ k) 3, Int.mul_assoc]
      rw [e]
      omega
    · have := elim1_len (elimA Fs (os.take k)) (V.val : Int)
      omega
    · rw [elim1_gr h1 V, h4]
      obtain ⟨hl9, he⟩ := List.getElem?_eq_some_iff.1 hnk
      rw [List.take_succ_eq_append_getElem hl9, he]
      unfold Gr.elS
      rw [List.foldl_append]
      rfl
theorem pow_bd {Fs : List Fac} (h8 : Fs.length ≤ 8) (hf : ∀ F ∈ Fs, facOk 9 F = true) {k : Nat} (hk : k ≤ 4) : (3 : Int) ^ k * pb Fs ≤ 10000000000 := by
  have h1 := pb_nine hf
  have g9 : ∀ k : Fin 9, (9 : Int) ^ k.val ≤ 9 ^ 8 := by decide +kernel
  have g3 : ∀ k : Fin 5, (3 : Int) ^ k.val ≤ 3 ^ 4 := by decide +kernel
  have h2 : (9 : Int) ^ Fs.length ≤ 9 ^ 8 := g9 ⟨Fs.length, by omega⟩
  have h3 : (3 : Int) ^ k ≤ 3 ^ 4 := g3 ⟨k, by omega⟩
  have h4 := Int.mul_le_mul h3 (Int.le_trans h1 h2) (by have := pb_pos Fs; omega) (by decide)
  have h5 : (3 : Int) ^ 4 * 9 ^ 8 ≤ 10000000000 := by decide
  omega
end Go.Proofs.Ytaipdkfbkcknkaa

namespace Go.Proofs.Ytaipdkfbkcknkaa
set_option maxRecDepth 100000
open Go.RowKit
theorem Byt.more {w : World} {B B' : Nat} {A : Option Addr} {n : Nat} (h : Byt w B A n) (hB : B ≤ B') : Byt w B' A n := fun hn => by
  obtain ⟨g, off, e, hg, hc⟩ := h hn
  exact ⟨g, off, e, by omega, hc⟩
end Go.Proofs.Ytaipdkfbkcknkaa
namespace Go.Proofs.Ytaipdkfbkcknkaa
set_option maxRecDepth 100000
open Go.RowKit
theorem Chg.grown {a b c : World} {R : Nat} {row : Option Nat} (h : Chg a b R) (hg : b.grownBy c row) (hr : ∀ k, row = some k → a.heap.size ≤ k) : Chg a c R :=
  ⟨hg.os.trans h.os, hg.tape.trans h.tape, hg.output.trans h.output, Nat.le_trans h.size hg.size,
    fun i hi hne => (hg.block i (Nat.lt_of_lt_of_le hi h.size) (fun e => by have := hr i e.symm; omega)).trans (h.block i hi hne)⟩
theorem Rdr.grown {w w' : World} {B R : Nat} {A : Option Addr} {n c p : Nat} {row : Option Nat} (h : Rdr w B R A n c p) (hg : w.grownBy w' row) (hr : ∀ k, row = some k → B ≤ k ∧ k ≠ R) (hB : B ≤ w.heap.size) : Rdr w' B R A n c p :=
  ⟨(hg.block R h.lt (fun e => (hr R e.symm).2 rfl)).trans h.1, h.2.1, h.2.2.keep ((Below.refl B w).grown hg hB (fun k hk => (hr k hk).1))⟩
theorem Own.chg {w w' : World} {base R : Nat} {v : Value} {os : List St} (h : Own w base v os) (hc : Chg w w' R) (hR : R < base) : Own w' base v os := by
  refine World.ownsRow.kept h hc ?_
  cases hv : v.ownBlock with
  | none => exact .inl rfl
  | some k =>
    refine .inr fun e => ?_
    have h1 := (World.ownsRow.lt h k hv).1
    injection e with e
    omega
def St.put (s : St) : Nat → Int → St
  | 0, x => { s with k := x }
  | 1, x => { s with a := x }
  | 2, x => { s with b := x }
  | 3, x => { s with c := x }
  | 4, x => { s with u := x }
  | 5, x => { s with v := x }
  | _, x => { s with x := x }
end Go.Proofs.Ytaipdkfbkcknkaa
namespace Go.Proofs.Ytaipdkfbkcknkaa
set_option maxRecDepth 100000
open Go.RowKit
end Go.Proofs.Ytaipdkfbkcknkaa
