/- Parts of the proof: K6, KA, K9, KK, KL. -/
import Derived.Test.YtaipdkfbkcknkaaZAK
import Derived.Test.YtaipdkfbkcknkaaZAJ
import Derived.BigQuiet
import Derived.Test.YtaipdkfbkcknkaaZAE
import Derived.Test.YtaipdkfbkcknkaaZAT
import Derived.Test.YtaipdkfbkcknkaaZAU
import Derived.Test.YtaipdkfbkcknkaaZAI
namespace Go.Proofs.Ytaipdkfbkcknkaa
set_option maxRecDepth 100000
set_option linter.unusedVariables false
open Go.RowKit
def natsOf (os : List Int) : List Nat := os.map Int.toNat
theorem ords1_ : ∀ a : Fin 4, [a.val] ∈ ordsAll := by decide +kernel
theorem ords2_ : ∀ a b : Fin 4, oOkF [(a.val : Int), (b.val : Int)] 0 = true → [a.val, b.val] ∈ ordsAll := by decide +kernel
theorem ords3_ : ∀ a b c : Fin 4, oOkF [(a.val : Int), (b.val : Int), (c.val : Int)] 0 = true → [a.val, b.val, c.val] ∈ ordsAll := by decide +kernel
theorem ords4_ : ∀ a b c d : Fin 4, oOkF [(a.val : Int), (b.val : Int), (c.val : Int), (d.val : Int)] 0 = true → [a.val, b.val, c.val, d.val] ∈ ordsAll := by decide +kernel
theorem ords5_ : ∀ a b c d : Fin 4, oOkF [(a.val : Int), (b.val : Int), (c.val : Int), (d.val : Int)] 0 = true → bor (bor (bor (bor 0 (bitN (a.val : Int))) (bitN (b.val : Int))) (bitN (c.val : Int))) (bitN (d.val : Int)) = 15 := by decide +kernel
theorem oOk_in : ∀ {os : List Int} {L : Int}, oOkF os L = true → ∀ v ∈ os, 0 ≤ v ∧ v ≤ 3
  | [], _, _, v, hv => by cases hv
  | u :: r, L, h, v, hv => by
    have h1 : ((inB u 0 3 && !tb L u.toNat) && oOkF r (bor L (bitN u))) = true := h
    rw [Bool.and_eq_true, Bool.and_eq_true] at h1
    rcases List.mem_cons.1 hv with rfl | hv
    · exact inB_iff.1 h1.1.1
    · exact oOk_in h1.2 v hv
theorem oOk_mem {os : List Int} (h : orderOk os = true) : natsOf os ∈ ordsAll ∧ nats (natsOf os) = os ∧ (∀ v ∈ os, 0 ≤ v ∧ v ≤ 3) ∧ os.length ≤ 4 := by
  have hin := oOk_in h
  have hn : nats (natsOf os) = os := by
    unfold nats natsOf
    rw [List.map_map]
    conv => rhs; rw [← List.map_id os]
    refine List.map_congr_left fun v hv => ?_
    have := hin v hv
    show ((v.toNat : Nat) : Int) = v
    omega
  unfold orderOk at h
  match os, h, hin, hn with
  | [], _, hin, hn => exact ⟨by decide, hn, hin, by decide⟩
  | [a], h, hin, hn =>
    obtain ⟨a, rfl, _⟩ := nat_three (hin a (by simp))
    exact ⟨by have := ords1_ a; simpa [natsOf] using this, hn, hin, by simp⟩
  | [a, b], h, hin, hn =>
    obtain ⟨a, rfl, _⟩ := nat_three (hin a (by simp))
    obtain ⟨b, rfl, _⟩ := nat_three (hin b (by simp))
    exact ⟨by have := ords2_ a b h; simpa [natsOf] using this, hn, hin, by simp⟩
  | [a, b, c], h, hin, hn =>
    obtain ⟨a, rfl, _⟩ := nat_three (hin a (by simp))
    obtain ⟨b, rfl, _⟩ := nat_three (hin b (by simp))
    obtain ⟨c, rfl, _⟩ := nat_three (hin c (by simp))
    exact ⟨by have := ords3_ a b c h; simpa [natsOf] using this, hn, hin, by simp⟩
  | [a, b, c, d], h, hin, hn =>
    obtain ⟨a, rfl, _⟩ := nat_three (hin a (by simp))
    obtain ⟨b, rfl, _⟩ := nat_three (hin b (by simp))
    obtain ⟨c, rfl, _⟩ := nat_three (hin c (by simp))
    obtain ⟨d, rfl, _⟩ := nat_three (hin d (by simp))
    exact ⟨by have := ords4_ a b c d h; simpa [natsOf] using this, hn, hin, by simp⟩
  | a :: b :: c :: d :: e :: r, h, hin, hn =>
    exfalso
    obtain ⟨a, rfl, _⟩ := nat_three (hin a (by simp))
    obtain ⟨b, rfl, _⟩ := nat_three (hin b (by simp))
    obtain ⟨c, rfl, _⟩ := nat_three (hin c (by simp))
    obtain ⟨d, rfl, _⟩ := nat_three (hin d (by simp))
    obtain ⟨e, rfl, _⟩ := nat_three (hin e (by simp))
    have e0 : ∀ (v : Int) (t : List Int) (L : Int), oOkF (v :: t) L = ((inB v 0 3 && !tb L v.toNat) && oOkF t (bor L (bitN v))) := fun _ _ _ => rfl
    rw [e0, e0, e0, e0, e0] at h
    simp only [Bool.and_eq_true] at h
    obtain ⟨h1, h2, h3, h4, h5, _⟩ := h
    have h6 := ords5_ a b c d (by simp only [e0, Bool.and_eq_true]; exact ⟨h1, h2, h3, h4, rfl⟩)
    rw [h6, Int.toNat_natCast] at h5
    have : ∀ e : Fin 4, tb 15 e.val = true := by decide +kernel
    rw [this e] at h5
    exact absurd h5.2 (by decide)
theorem list_fine {Fs : List Fac} (h : listOk Fs = true) : Fs.length ≤ 8 ∧ (∀ F ∈ Fs, facOk 9 F = true) ∧ Fine Fs := by
  obtain ⟨h1, h2⟩ := list_parts h
  exact ⟨h1, h2, fun F hF => mB_ok (h2 F hF)⟩
end Go.Proofs.Ytaipdkfbkcknkaa

namespace Go.Proofs.Ytaipdkfbkcknkaa
set_option maxRecDepth 100000
set_option linter.unusedVariables false
open Go.RowKit
theorem oOk_has : ∀ (os : List Int) (L : Int), oOkF os L = true ↔ ∀ k v, os[k]? = some v → inB v 0 3 = true ∧ tb L v.toNat = false ∧ v ∉ os.take k
  | [], L => ⟨fun _ k v h => by simp at h, fun _ => rfl⟩
  | u :: r, L => by
    have e : oOkF (u :: r) L = ((inB u 0 3 && !tb L u.toNat) && oOkF r (bor L (bitN u))) := rfl
    rw [e, Bool.and_eq_true, Bool.and_eq_true, oOk_has r]
    have hb : inB u 0 3 = true → ∀ v : Int, inB v 0 3 = true → tb (bor L (bitN u)) v.toNat = (tb L v.toNat || decide (u = v)) := fun hu v hv => by
      have h1 := inB_iff.1 hu
      have h2 := inB_iff.1 hv
      rw [tb_bor, tb_bit h1.1 h1.2 (show v.toNat ≤ 3 by omega)]
      congr 1
      rw [decide_eq_decide]
      omega
    constructor
    · rintro ⟨⟨h1, h2⟩, h3⟩ k v hk
      cases k with
      | zero =>
        have : u = v := by simpa using hk
        subst this
        exact ⟨h1, by simpa using h2, by simp⟩
      | succ k =>
        have hk' : r[k]? = some v := by simpa using hk
        obtain ⟨g1, g2, g3⟩ := h3 k v hk'
        rw [hb h1 v g1, Bool.or_eq_false_iff] at g2
        refine ⟨g1, g2.1, ?_⟩
        rw [List.take_succ_cons, List.mem_cons]
        rintro (q | q)
        · exact of_decide_eq_false g2.2 q.symm
        · exact g3 q
    · intro h
      obtain ⟨g1, g2, _⟩ := h 0 u rfl
      refine ⟨⟨g1, by rw [g2]; rfl⟩, fun k v hk => ?_⟩
      obtain ⟨f1, f2, f3⟩ := h (k + 1) v (by simpa using hk)
      rw [List.take_succ_cons, List.mem_cons] at f3
      refine ⟨f1, ?_, fun q => f3 (.inr q)⟩
      rw [hb g1 v f1, f2, Bool.false_or]
      exact decide_eq_false fun q => f3 (.inl q.symm)
theorem orderOk_iff (os : List Int) : orderOk os = true ↔ ∀ k v, os[k]? = some v → inB v 0 3 = true ∧ v ∉ os.take k := by
  unfold orderOk
  rw [oOk_has]
  have h0 : ∀ v : Int, tb 0 v.toNat = false := fun v => by unfold tb; exact Nat.zero_testBit _
  exact ⟨fun h k v hk => ⟨(h k v hk).1, (h k v hk).2.2⟩, fun h k v hk => ⟨(h k v hk).1, h0 v, (h k v hk).2⟩⟩
theorem ils_take {w : World} {B n k : Nat} {A : Option Addr} {ds : List Int} (h : Ils w B A n ds) (hk : k ≤ n) : Ils w B A k (ds.take k) := ⟨by rw [List.length_take, h.1]; omega, fun h0 => by
  obtain ⟨g, off, e, hg, hc⟩ := h.2 (by omega)
  refine ⟨g, off, e, hg, fun i d hi => hc i d ?_⟩
  rw [List.getElem?_take] at hi
  split at hi
  · exact hi
  · cases hi⟩
theorem specOrderOk_any (A : Option Addr) (n c : Nat) (os : List Int) (w : World) (h : Ils w w.heap.size A n os) (hn : n ≤ c) (hc : c ≤ maxLen) :
    Calls Try.prog 15 #[.slice A n c] w fun e w' => e = .returned (.bool (orderOk os)) ∧ ∃ m, w' = w.drewN m := by
  have hI := Lib.hid h
  have hl := h.1
  have hn9 : n ≤ 9223372036854775807 := by unfold maxLen at hc; omega
  have hm := Lib.hid (show n ≤ maxLen from Nat.le_trans hn hc)
  clear h hc
  go_enter Try.func15, Try.ntmps15
  go_wp2_with fail
  go_loopg [3] n (fun gn r wr => ∃ (k m : Nat), k ≤ n ∧ gn = n - k ∧ r = .int .i64 k ∧ (∀ i v, i < k → os[i]? = some v → inB v 0 3 = true ∧ v ∉ os.take i) ∧ wr = w.drewN m)
  case atStart => exact ⟨0, 0, Nat.zero_le _, rfl, rfl, fun i v hi => by omega, rfl⟩
  case round =>
    obtain ⟨k, m, hk, hgn, rfl, hO, rfl⟩ := hrel
    have hgk : gk = n - k := hgn
    have hOh := Lib.hid hO
    clear hgn hO
    by_cases hlt : k < n
    · obtain ⟨g, off, d, rfl, hg, hd, cd⟩ := hI.out.at_ hlt
      have hk0 : (0 : Int) ≤ (k : Int) := by omega
      have hk1 : (k : Int) < (n : Int) := by omega
      have hk2 : (k : Int) ≤ (c : Int) := by omega
      have cd' : (w.drewN m).cell? ⟨g, off + k, none⟩ = some (.int .i64 d) := cd
      have cV := Lib.hid (fun wx => (l1Var_any d wx).mono fun _ _ q => (show _ ∧ _ = wx from ⟨q.1, q.2.symm⟩))
      have cH := Lib.hid (fun wx hx => (l8Has_any (some ⟨g, off, none⟩) k c (os.take k) d wx hx (by have := hm.out; omega)).mono fun _ _ q => (show _ ∧ _ = wx from ⟨q.1, q.2.symm⟩))
      have hIt := Lib.hid (fun q => show Ils ((w.drewN m).drewN q) ((w.drewN m).drewN q).heap.size _ k (os.take k) from ils_take ((hI.out.below (below_drewN (Below.refl _ _) m)).below (below_drewN (Below.refl _ _) q)) hk)
      have hWm := Lib.hid (fun q => World.drewN_drewN w m q)
      have hdh := Lib.hid hd
      clear hd cd
      cases hin : inB d 0 3
      · rw [hin] at cV
        have hR := Lib.hid (show orderOk os = false from by
          cases ho : orderOk os
          · rfl
          · have := ((orderOk_iff os).1 ho k d hdh.out).1
            rw [hin] at this
            cases this)
        clear hin cH hIt
        obtain ⟨Wq, hWq⟩ : ∃ Wq, w.drewN m = Wq := ⟨_, rfl⟩
        rw [hWq] at cd' hWm ⊢
        go_wp2_with fail
        go_quiet (first | (go_at_call 61; exact Calls.quiet_of_same (cV.out _)))
        go_wp2_with fail
        go_ret
        exact ⟨ret_bool hR.out, _, by rw [hWm.out]⟩
      · rw [hin] at cV
        have hvin := Lib.hid hin
        clear hin
        cases hin2 : decide (d ∈ os.take k)
        · rw [hin2] at cH
          have hno := Lib.hid (of_decide_eq_false hin2)
          obtain ⟨Wq, hWq⟩ : ∃ Wq, w.drewN m = Wq := ⟨_, rfl⟩
          rw [hWq] at cd' hWm hIt ⊢
          have cHq := Lib.hid (fun q => cH.out (Wq.drewN q) (hIt.out q))
          clear hin2 cH hIt
          go_wp2_with fail
          go_quiet (first | (go_at_call 61; exact Calls.quiet_of_same (cV.out _)) | (go_at_call 62; exact Calls.quiet_of_same (cHq.out _)))
          go_wp2_with fail
          go_roundg (n - (k + 1))
          case measure => omega
          case rel => exact ⟨k + 1, m + nq, by omega, rfl, by go_num, fun i v hi hv => by
            by_cases he : i = k
            · subst he
              obtain rfl := Option.some.inj (hv.symm.trans hdh.out)
              exact ⟨hvin.out, hno.out⟩
            · exact hOh.out i v (by omega) hv, by rw [hWm.out]⟩
        · rw [hin2] at cH
          have hR := Lib.hid (show orderOk os = false from by
            cases ho : orderOk os
            · rfl
            · exact absurd (of_decide_eq_true hin2) ((orderOk_iff os).1 ho k d hdh.out).2)
          obtain ⟨Wq, hWq⟩ : ∃ Wq, w.drewN m = Wq := ⟨_, rfl⟩
          rw [hWq] at cd' hWm hIt ⊢
          have cHq := Lib.hid (fun q => cH.out (Wq.drewN q) (hIt.out q))
          clear hin2 cH hIt
          go_wp2_with fail
          go_quiet (first | (go_at_call 61; exact Calls.quiet_of_same (cV.out _)) | (go_at_call 62; exact Calls.quiet_of_same (cHq.out _)))
          go_wp2_with fail
          go_ret
          exact ⟨ret_bool hR.out, _, by rw [hWm.out]⟩
    · obtain rfl : k = n := by omega
      have hR := Lib.hid (show orderOk os = true from (orderOk_iff os).2 fun i v hv => hOh.out i v (by have := (List.getElem?_eq_some_iff.1 hv).1; omega) hv)
      go_wp2_with fail
      go_ret
      exact ⟨ret_bool hR.out, m, rfl⟩
end Go.Proofs.Ytaipdkfbkcknkaa

namespace Go.Proofs.Ytaipdkfbkcknkaa
set_option maxRecDepth 100000
set_option linter.unusedVariables false
open Go.RowKit
def FLst0 (w : World) (B : Nat) (A : Option Addr) (n : Nat) (Fs : List Fac) : Prop := FLst w B A n Fs ∧ Nilf w A n
theorem RowsF.flst0 {w : World} {base : Nat} {A : Option Addr} {n c : Nat} {Fs : List Fac} {vs : List Value} (h : RowsF w base (.slice A n c) Fs vs) (hn : Fs.length = n) : FLst0 w w.heap.size A n Fs := ⟨h.flst hn, h.nilf hn⟩
theorem FLst0.below {w w' : World} {B n : Nat} {A : Option Addr} {Fs : List Fac} (h : FLst0 w B A n Fs) (hb : Below B w w') : FLst0 w' B A n Fs := ⟨h.1.below hb, h.2.below h.1 hb⟩
theorem FLst0.more {w : World} {B B' n : Nat} {A : Option Addr} {Fs : List Fac} (h : FLst0 w B A n Fs) (hb : B ≤ B') : FLst0 w B' A n Fs := ⟨h.1.more hb, h.2⟩
theorem elimA_take {Fs : List Fac} {os : List Int} {k : Nat} {v : Int} (h : os[k]? = some v) : elimA Fs (os.take (k + 1)) = elim1 (elimA Fs (os.take k)) v := by
  obtain ⟨hl, he⟩ := List.getElem?_eq_some_iff.1 h
  unfold elimA
  rw [List.take_succ_eq_append_getElem hl, List.foldl_append, he]
  rfl
theorem elimA_all {Fs : List Fac} (hf : Fine Fs) {os : List Int} (ho : ∀ v ∈ os, 0 ≤ v ∧ v ≤ 3) : ∀ k, k ≤ os.length → Fine (elimA Fs (os.take k)) ∧ pb (elimA Fs (os.take k)) ≤ 3 ^ k * pb Fs ∧ (elimA Fs (os.take k)).length ≤ Fs.length + k ∧ grS (setsF (elimA Fs (os.take k))) = (grS (setsF Fs)).elS ((natsOf os).take k)
  | 0, _ => by
    rw [List.take_zero, List.take_zero]
    refine ⟨hf, by show pb Fs ≤ 3 ^ 0 * pb Fs; omega, by show Fs.length ≤ Fs.length + 0; omega, rfl⟩
  | k + 1, hk => by
    obtain ⟨h1, h2, h3, h4⟩ := elimA_all hf ho k (by omega)
    have hd : os[k]? = some os[k] := List.getElem?_eq_getElem (by omega)
    obtain ⟨V, hV, hVt⟩ := nat_three (ho os[k] (List.getElem_mem _))
    have hnk : (natsOf os)[k]? = some V.val := by unfold natsOf; rw [List.getElem?_map, hd, hVt]; rfl
    rw [elimA_take hd, hV]
    refine ⟨elim1_fine h1 V, ?_, ?_, ?_⟩
    · have := elim1_pb h1 V
      have e : (3 : Int) ^ (k + 1) * pb Fs = 3 * (3 ^ k * pb Fs) := by rw [Int.pow_succ, Int.mul_comm (3 ^ k) 3, Int.mul_assoc]
      rw [e]
      omega
    · have := elim1_len (elimA Fs (os.take k)) (V.val : Int)
      omega
    · rw [elim1_gr h1 V, h4]
      obtain ⟨hl9, he⟩ := List.getElem?_eq_some_iff.1 hnk
      rw [List.take_succ_eq_append_getElem hl9, he]
      unfold Gr.elS
      rw [List.foldl_append]
      rfl
theorem pow_bd {Fs : List Fac} (h8 : Fs.length ≤ 8) (hf : ∀ F ∈ Fs, facOk 9 F = true) {k : Nat} (hk : k ≤ 4) : (3 : Int) ^ k * pb Fs ≤ 10000000000 := by
  have h1 := pb_nine hf
  have g9 : ∀ k : Fin 9, (9 : Int) ^ k.val ≤ 9 ^ 8 := by decide +kernel
  have g3 : ∀ k : Fin 5, (3 : Int) ^ k.val ≤ 3 ^ 4 := by decide +kernel
  have h2 : (9 : Int) ^ Fs.length ≤ 9 ^ 8 := g9 ⟨Fs.length, by omega⟩
  have h3 : (3 : Int) ^ k ≤ 3 ^ 4 := g3 ⟨k, by omega⟩
  have h4 := Int.mul_le_mul h3 (Int.le_trans h1 h2) (by have := pb_pos Fs; omega) (by decide)
  have h5 : (3 : Int) ^ 4 * 9 ^ 8 ≤ 10000000000 := by decide
  omega
end Go.Proofs.Ytaipdkfbkcknkaa

namespace Go.Proofs.Ytaipdkfbkcknkaa
set_option maxRecDepth 100000
set_option linter.unusedVariables false
open Go.RowKit
/-- What is left when the variables of an order are gone. -/
def lefO (os : List Int) : Int := os.foldl (fun L v => bdf L (bitN v)) 15
theorem fold_bdf : ∀ (os : List Int) (L : Int), 0 ≤ L ∧ L ≤ 15 → (0 ≤ os.foldl (fun L v => bdf L (bitN v)) L ∧ os.foldl (fun L v => bdf L (bitN v)) L ≤ 15) ∧
    ((∀ v ∈ os, 0 ≤ v ∧ v ≤ 3) → ∀ u : Nat, u ≤ 3 → tb (os.foldl (fun L v => bdf L (bitN v)) L) u = (tb L u && !decide ((u : Int) ∈ os)))
  | [], L, h => ⟨h, fun _ u _ => by simp⟩
  | v :: r, L, h => by
    obtain ⟨h1, h2⟩ := fold_bdf r (bdf L (bitN v)) (bdf_bd h.2)
    refine ⟨h1, fun ho u hu => ?_⟩
    have hv := ho v List.mem_cons_self
    rw [List.foldl_cons, h2 (fun x hx => ho x (List.mem_cons_of_mem _ hx)) u hu, tb_bdf hv.1 hv.2 hu, Bool.and_assoc, ← Bool.not_or]
    congr 2
    by_cases e : v = (u : Int)
    · simp [e]
    · have e' : ¬ (u : Int) = v := fun q => e q.symm
      simp [e, e']
theorem lefO_bd (os : List Int) : 0 ≤ lefO os ∧ lefO os ≤ 15 := (fold_bdf os 15 (by decide)).1
theorem lefO_tb {os : List Int} (ho : ∀ v ∈ os, 0 ≤ v ∧ v ≤ 3) (u : Fin 4) : tb (lefO os) u.val = !decide ((u.val : Int) ∈ os) := by
  have h := (fold_bdf os 15 (by decide)).2 ho u.val (by omega)
  have h15 : ∀ u : Fin 4, tb 15 u.val = true := by decide +kernel
  rw [h15 u, Bool.true_and] at h
  exact h
theorem lefO_take {os : List Int} {k : Nat} {v : Int} (h : os[k]? = some v) : lefO (os.take (k + 1)) = bdf (lefO (os.take k)) (bitN v) := by
  obtain ⟨hl, he⟩ := List.getElem?_eq_some_iff.1 h
  unfold lefO
  rw [List.take_succ_eq_append_getElem hl, List.foldl_append, he]
  rfl
theorem elim_tb {Fs : List Fac} (h : Fine Fs) (v : Fin 4) {u : Nat} (hu : u ≤ 3) (hp : u = v.val ∨ ∀ F ∈ Fs, tb (setOf F.vs) u = false) : ∀ F ∈ elim1 Fs (v.val : Int), tb (setOf F.vs) u = false := fun F hF => by
  rcases List.mem_append.1 hF with hF | hF
  · obtain ⟨hF1, hF2⟩ := List.mem_filter.1 hF
    rcases hp with rfl | hp
    · rw [← has_tb (h F hF1) v]; simpa using hF2
    · exact hp F hF1
  · rw [List.mem_singleton.1 hF]
    obtain ⟨h1, _, h3⟩ := prodV_all h v
    unfold elimF
    rw [fOut_set h1 (by omega), h3, tb_bdf (by omega) (by omega) hu]
    by_cases e : v.val = u
    · subst e; simp
    · rcases hp with rfl | hp
      · exact absurd rfl e
      · rw [nbS_tb _ (by omega) hu, decide_eq_false e, Bool.false_or]
        have : ((setsF Fs).any fun s => tb s v.val && tb s u) = false := by
          rw [List.any_eq_false]
          intro s hs
          obtain ⟨G, hG, rfl⟩ := List.mem_map.1 hs
          simp [hp G hG]
        rw [this]
        rfl
theorem elimA_tb : ∀ (os : List Int) {Fs : List Fac}, Fine Fs → (∀ v ∈ os, 0 ≤ v ∧ v ≤ 3) → ∀ {u : Nat}, u ≤ 3 → ((u : Int) ∈ os ∨ ∀ F ∈ Fs, tb (setOf F.vs) u = false) → ∀ F ∈ elimA Fs os, tb (setOf F.vs) u = false
  | [], Fs, _, _, u, _, hp => by
    rcases hp with hp | hp
    · simp at hp
    · exact hp
  | v :: r, Fs, h, ho, u, hu, hp => by
    obtain ⟨V, hV, _⟩ := nat_three (ho v List.mem_cons_self)
    subst hV
    have hi := elimA_tb r (elim1_fine h V) (fun x hx => ho x (List.mem_cons_of_mem _ hx)) hu
    refine hi ?_
    by_cases hr : (u : Int) ∈ r
    · exact .inl hr
    · refine .inr (elim_tb h V hu ?_)
      rcases hp with hp | hp
      · rcases List.mem_cons.1 hp with e | e
        · exact .inl (by omega)
        · exact absurd e hr
      · exact .inr hp
/-- The factors of ones of the variables below k that an order leaves. -/
def remF (os : List Int) (k : Nat) : List Fac := ((List.range k).filter fun (v : Nat) => !decide ((v : Int) ∈ os)).map fun (v : Nat) => onesF (v : Int)
theorem remF_succ (os : List Int) (k : Nat) : remF os (k + 1) = remF os k ++ if (k : Int) ∈ os then [] else [onesF (k : Int)] := by
  unfold remF
  rw [List.range_succ, List.filter_append, List.map_append]
  congr 1
  by_cases h : (k : Int) ∈ os <;> simp [h]
theorem remF_mem {os : List Int} {k : Nat} {F : Fac} (hk : k ≤ 4) (h : F ∈ remF os k) : ∃ v : Fin 4, F = onesF (v.val : Int) ∧ (v.val : Int) ∉ os := by
  unfold remF at h
  obtain ⟨v, hv, rfl⟩ := List.mem_map.1 h
  obtain ⟨h1, h2⟩ := List.mem_filter.1 hv
  exact ⟨⟨v, by have := List.mem_range.1 h1; omega⟩, rfl, by simpa using h2⟩
theorem mB_ones : ∀ v : Fin 4, mB (onesF (v.val : Int)) = 1 := by decide +kernel
theorem ones_tb : ∀ v u : Fin 4, tb (setOf (onesF (v.val : Int)).vs) u.val = decide (v = u) := by decide +kernel
theorem remF_fine (os : List Int) {k : Nat} (hk : k ≤ 4) : Fine (remF os k) := fun F hF => by
  obtain ⟨v, rfl, _⟩ := remF_mem hk hF
  exact mB_ok (ones_ok v)
theorem pb_ones : ∀ {Gs : List Fac}, (∀ F ∈ Gs, mB F = 1) → pb Gs = 1
  | [], _ => rfl
  | F :: r, h => by rw [pb_cons, h F List.mem_cons_self, pb_ones fun G hG => h G (List.mem_cons_of_mem _ hG)]; rfl
theorem remF_pb (os : List Int) {k : Nat} (hk : k ≤ 4) : pb (remF os k) = 1 := pb_ones fun F hF => by
  obtain ⟨v, rfl, _⟩ := remF_mem hk hF
  exact mB_ones v
theorem ones_fold {st : Int} : ∀ {Gs : List Fac}, (∀ F ∈ Gs, fAt F st = 1) → Gs.foldl (fun m F => m * fAt F st) 1 = 1
  | [], _ => rfl
  | F :: r, h => by rw [List.foldl_cons, h F List.mem_cons_self]; exact ones_fold fun G hG => h G (List.mem_cons_of_mem _ hG)
theorem elimA_fine {Fs : List Fac} {os : List Int} (hf : Fine Fs) (ho : ∀ v ∈ os, 0 ≤ v ∧ v ≤ 3) : Fine (elimA Fs os) := by
  have := (elimA_all hf ho os.length (Nat.le_refl _)).1
  rwa [List.take_length] at this
theorem elim_fin {Fs : List Fac} {os : List Int} (hf : Fine Fs) (ho : ∀ v ∈ os, 0 ≤ v ∧ v ≤ 3) : prodF (remF os 4 ++ elimA Fs os) = facBy_ (lefO os) (prodAt (elimA Fs os)) := by
  have hR := elimA_fine hf ho
  have hF : Fine (remF os 4 ++ elimA Fs os) := fun F hF => (List.mem_append.1 hF).elim (remF_fine os (by decide) F) (hR F)
  obtain ⟨h1, h2, h3⟩ := prodF_all hF
  obtain ⟨A, _, hA, _⟩ := fac_set h1
  obtain ⟨B, hB⟩ := fin16 (lefO_bd os)
  have hAB : A = B := set_ext A B fun u => by
    rw [← hA, ← hB, h3 u.val (by omega), lefO_tb ho u]
    cases hd : decide ((u.val : Int) ∈ os)
    · refine List.any_eq_true.2 ⟨onesF (u.val : Int), List.mem_append_left _ ?_, ?_⟩
      · unfold remF
        exact List.mem_map.2 ⟨u.val, List.mem_filter.2 ⟨List.mem_range.2 u.isLt, by rw [hd]; rfl⟩, rfl⟩
      · rw [ones_tb u u]; simp
    · refine List.any_eq_false.2 fun F hF => ?_
      rcases List.mem_append.1 hF with hF | hF
      · obtain ⟨v, rfl, hv⟩ := remF_mem (by decide) hF
        have hne : v ≠ u := fun e => hv (e ▸ of_decide_eq_true hd)
        rw [ones_tb v u]
        simp [hne]
      · rw [elimA_tb os hf ho (by omega) (.inl (of_decide_eq_true hd)) F hF]
        decide
  refine (fac_eta h1).trans ?_
  rw [hA, hAB, hB]
  refine facBy_congr B fun st hs => ?_
  rw [h2 st hs]
  unfold prodAt
  rw [List.foldl_append, ones_fold fun F hF => by
    obtain ⟨v, rfl, _⟩ := remF_mem (by decide) hF
    exact ones_at (by omega) hs]
def okElO (Fs : List Fac) (os : List Int) : Bool := listOk Fs && orderOk os
def elimTo (Fs : List Fac) (os : List Int) : Fac := if okElO Fs os = true then facBy_ (lefO os) (prodAt (elimA Fs os)) else ⟨[], []⟩
theorem elimTo_len (Fs : List Fac) (os : List Int) : (elimTo Fs os).vs.length ≤ 4 ∧ (elimTo Fs os).ns.length ≤ 81 := by
  unfold elimTo
  cases okElO Fs os
  · rw [if_neg (by decide)]; exact ⟨by decide, by decide⟩
  · rw [if_pos rfl]
    obtain ⟨B, hB⟩ := fin16 (lefO_bd os)
    have h4 := over_ok B
    have h5 := pow_four h4.2.2
    rw [facBy_len]
    rw [hB]
    unfold facBy_
    dsimp only
    omega
end Go.Proofs.Ytaipdkfbkcknkaa

namespace Go.Proofs.Ytaipdkfbkcknkaa
set_option maxRecDepth 100000
set_option linter.unusedVariables false
open Go.RowKit
theorem field_str (x y a b c d : Value) (w : World) : (Instr.field 79 (.agg #[x, y, a, b, c, d]) 0).run Try.prog w = .ok (.agg #[x, y]) w := by kernel_rfl
set_option maxHeartbeats 2000000 in
theorem Eliminate_any (A Ad : Option Addr) (n c nd cd : Nat) (Fs : List Fac) (os : List Int) (w : World) (h : FLst w w.heap.size A n Fs) (hn : n ≤ maxLen) (hsm : smallF Fs) (hd : Ils w w.heap.size Ad nd os) (hnd : nd ≤ maxLen) :
    Calls Try.prog 27 #[.slice A n c, .slice Ad nd cd] w (Fbd w (elimTo Fs os) (okElO Fs os)) := by
  have hB0 : Below w.heap.size w (w.alloc (.cells #[.slice none 0 0, .slice none 0 0] 36)) := (Below.refl _ _).alloc (Nat.le_refl _) _
  have hr := Lib.hid (Has.new w 36 #[.slice none 0 0, .slice none 0 0])
  have hI := Lib.hid ((h.below hB0).more hB0.size)
  have hD := Lib.hid ((hd.below hB0).more hB0.size)
  have hl := h.1
  have hld := hd.1
  have cK := Lib.hid (fun wx hx => factorsOk_any A n c Fs wx hx hn hsm)
  have cO := Lib.hid (fun wx hx => OrderOk_any Ad nd cd os wx hx hnd)
  have hB := Lib.hid hB0
  clear h hn hsm hd hB0
  cases hk : listOk Fs
  · have hT : elimTo Fs os = ⟨[], []⟩ := by unfold elimTo okElO; rw [hk]; rfl
    have hO : okElO Fs os = false := by unfold okElO; rw [hk]; rfl
    rw [hT, hO]
    rw [hk] at cK
    clear hk hT hO
    go_enter Try.func27, Try.ntmps27
    go_wp2_with fail
    generalize w.alloc (.cells #[.slice none 0 0, .slice none 0 0] 36) = w0 at hI hD hr hB ⊢
    refine (cK.out _ hI.out).mono ?_
    rintro e w1 ⟨rfl, hb⟩
    have hr1 := hr.out.kept hb
    have cr := hr1.cell
    have fr := hr1.frozen
    have hBn := Lib.hid (((hB.out.trans (hb.mono hB.out.size)).setCell (p := ⟨w.heap.size, 0, none⟩) (Nat.le_refl _) (.slice none 0 0)).setCell (p := ⟨w.heap.size, 1, none⟩) (Nat.le_refl _) (.slice none 0 0))
    clear hb
    go_wp2_with fail
    refine bodyPost_ret (v := .tuple #[.agg #[.slice none 0 0, .slice none 0 0], .bool false]) (by simp [results, Try.results27, go_sem, cr]) rfl ⟨_, _, rfl, FcV.none_ _ _, ?_⟩
    exact hBn.out
  · rw [hk] at cK
    cases ho : orderOk os
    · have hT : elimTo Fs os = ⟨[], []⟩ := by unfold elimTo okElO; rw [ho, hk]; rfl
      have hO : okElO Fs os = false := by unfold okElO; rw [ho, hk]; rfl
      rw [hT, hO]
      rw [ho] at cO
      clear hk ho hT hO
      go_enter Try.func27, Try.ntmps27
      go_wp2_with fail
      generalize w.alloc (.cells #[.slice none 0 0, .slice none 0 0] 36) = w0 at hI hD hr hB ⊢
      refine (cK.out _ hI.out).mono ?_
      rintro e w1 ⟨rfl, hb⟩
      have hr1 := hr.out.kept hb
      have cr := hr1.cell
      have fr := hr1.frozen
      have hBn := Lib.hid (((hB.out.trans (hb.mono hB.out.size)).setCell (p := ⟨w.heap.size, 0, none⟩) (Nat.le_refl _) (.slice none 0 0)).setCell (p := ⟨w.heap.size, 1, none⟩) (Nat.le_refl _) (.slice none 0 0))
      have hD1 := Lib.hid ((hD.out.below hb).more hb.size)
      clear hb
      go_wp2_with fail
      refine (cO.out _ hD1.out).mono ?_
      rintro e w' ⟨rfl, rfl⟩
      go_wp2_with fail
      refine bodyPost_ret (v := .tuple #[.agg #[.slice none 0 0, .slice none 0 0], .bool false]) (by simp [results, Try.results27, go_sem, cr]) rfl ⟨_, _, rfl, FcV.none_ _ _, ?_⟩
      exact hBn.out
    · obtain ⟨h8, hf, hfine⟩ := list_fine hk
      obtain ⟨hom, hon, hoi, hol⟩ := oOk_mem ho
      have hT : elimTo Fs os = facBy_ (lefO os) (prodAt (elimA Fs os)) := by unfold elimTo okElO; rw [ho, hk]; rfl
      have hO : okElO Fs os = true := by unfold okElO; rw [ho, hk]; rfl
      have hE : sumT (elimA Fs os) (lefO os) (lefO os) = facBy_ (lefO os) (prodAt (elimA Fs os)) := by
        obtain ⟨L, hL⟩ := fin16 (lefO_bd os)
        rw [hL]
        exact sumT_all _ L
      rw [hT, hO]
      rw [← hE]
      rw [ho] at cO
      have cS := Lib.hid (fun wx hx => stridedOf_any A n c Fs wx hx (by omega) hf)
      have hAll := Lib.hid (fun k (hk : k ≤ os.length) => elimA_all hfine hoi k hk)
      have hPw := Lib.hid (fun (k : Nat) (hk : k ≤ 4) => pow_bd h8 hf hk)
      have hoi' := Lib.hid hoi
      have hnd4 : nd ≤ 4 := by omega
      have hldh := Lib.hid hld
      have hlh := Lib.hid (show Fs.length ≤ 8 from h8)
      clear hk ho hT hO hE hf hom hon hoi hol hfine h8 hld hl
      go_enter Try.func27, Try.ntmps27
      go_wp2_with fail
      generalize w.alloc (.cells #[.slice none 0 0, .slice none 0 0] 36) = w0 at hI hD hr hB ⊢
      refine (cK.out _ hI.out).mono ?_
      rintro e w1 ⟨rfl, hb⟩
      have hr1 := Lib.hid (hr.out.kept hb)
      have hB1 := Lib.hid (hB.out.trans (hb.mono hB.out.size))
      have hI1 := Lib.hid ((hI.out.below hb).more hb.size)
      have hD1 := Lib.hid ((hD.out.below hb).more hb.size)
      clear hb
      go_wp2_with fail
      refine (cO.out _ hD1.out).mono ?_
      rintro e w' ⟨rfl, rfl⟩
      go_wp2_with fail
      refine (cS.out _ hI1.out).mono ?_
      rintro e w2 ⟨v2, us2, rfl, hR2, hA2, hb2⟩
      obtain ⟨A2s, c2s, rfl, _, _⟩ := hR2.form
      have kR2 := Lib.hid hR2
      have kA2 := Lib.hid hA2
      have kb2 := Lib.hid hb2
      clear hR2 hA2 hb2
      go_wp2_with fail
      go_loopg [6, 7, 23] nd (fun gq r l x wr => ∃ (k : Nat) (A' : Option Addr) (n' c' ob : Nat) (us : List Value), k ≤ nd ∧ gq = nd - k ∧ x = .int .i64 k ∧ l = .int .i64 (lefO (os.take k)) ∧ r = .slice A' n' c' ∧ (elimA Fs (os.take k)).length = n' ∧ RowsS wr w1.heap.size ob (.slice A' n' c') (elimA Fs (os.take k)) us ∧ Apart us ∧ Below w1.heap.size w1 wr)
      case atStart => exact ⟨0, _, _, _, _, us2, Nat.zero_le _, rfl, rfl, rfl, rfl, rfl, kR2.out, kA2.out, kb2.out⟩
      case round =>
        obtain ⟨k, A', n', c', ob, us, hkn, hgn, rfl, rfl, rfl, hn', hR, hA, hB⟩ := hrel
        have hgk : gk = nd - k := hgn
        have hRh := Lib.hid hR
        have hAh := Lib.hid hA
        have hBh := Lib.hid hB
        have hnh := Lib.hid hn'
        have hlb := lefO_bd (os.take k)
        obtain ⟨a1, a2, a3, _⟩ := hAll.out k (by have := hldh.out; omega)
        have hpk := hPw.out k (by omega)
        have hn20 : n' ≤ 20 := by have := hlh.out; omega
        have hpK : pb (elimA Fs (os.take k)) ≤ 10000000000 := by omega
        clear hgn hR hA hn' hpk a2 a3
        by_cases hlt : k < nd
        · obtain ⟨g, off, d, rfl, hg, hd, cd0⟩ := (hD1.out.below hB).at_ hlt
          have hdb := hoi'.out d (List.mem_of_getElem? hd)
          obtain ⟨V, rfl, hVt⟩ := nat_three hdb
          clear hVt
          have hk0 : (0 : Int) ≤ (k : Int) := by omega
          have hk1 : (k : Int) < (nd : Int) := by omega
          have hnx := Lib.hid (elimA_take (Fs := Fs) hd)
          have hlx := Lib.hid (lefO_take hd)
          have cE := Lib.hid (eliminated_any A' n' c' w1.heap.size ob (elimA Fs (os.take k)) us V wr hRh.out hnh.out hn20 a1 hpK hAh.out hBh.out.size)
          rw [← hnx.out] at cE
          have hdf := bits_diff hlb (bitN_le (V.val : Int))
          rw [← hlx.out] at hdf
          have cB := Lib.hid (fun wx => bitOf_any (V.val : Int) wx)
          generalize lefO (os.take k) = L0 at *
          generalize hL1 : lefO (os.take (k + 1)) = L1 at *
          have hL1h := Lib.hid hL1
          generalize hEs : elimA Fs (os.take (k + 1)) = Es at *
          have hEsh := Lib.hid hEs
          clear hd hdb a1 hnx hlx hB hEs hL1
          go_wp2_with fail
          refine cE.out.mono ?_
          rintro e w3 ⟨v3, us3, rfl, hR3, hA3, hb3⟩
          obtain ⟨A3, c3, rfl, _, _⟩ := hR3.form
          have kR3 := Lib.hid hR3
          have kA3 := Lib.hid hA3
          have hB3 := Lib.hid (hBh.out.trans (hb3.mono hBh.out.size))
          clear hR3 hA3 hb3
          go_wp2_with fail
          refine (cB.out _).mono ?_
          rintro e w' ⟨rfl, rfl⟩
          go_wp2_with fail
          go_roundg (nd - (k + 1))
          case measure => omega
          case rel => exact ⟨k + 1, _, _, _, _, us3, by omega, rfl, by go_num, by rw [hL1h.out], rfl, by rw [hEsh.out], by rw [hEsh.out]; exact kR3.out, kA3.out, hB3.out⟩
        · obtain rfl : k = nd := by omega
          have htk : os.take k = os := List.take_of_length_le (by have := hldh.out; omega)
          rw [htk] at hRh hnh hlb a1 hpK ⊢
          have cP := Lib.hid (productTo_any A' n' c' w1.heap.size ob (elimA Fs os) us (lefO os) (lefO os) wr hRh.out hnh.out hn20 a1 hpK hlb hlb)
          generalize sumT (elimA Fs os) (lefO os) (lefO os) = E at *
          generalize lefO os = L0 at *
          have hr4 := Lib.hid (hr1.out.kept hB)
          clear htk a1 hB
          go_wp2_with fail
          refine cP.out.mono ?_
          rintro e w3 ⟨v1, v2, rfl, hV, hb3⟩
          obtain ⟨X1, x1, rfl, _, _⟩ := hV.1.form
          obtain ⟨X2, x2, rfl, _, _⟩ := hV.2.1.form
          have hr5 := hr4.out.kept hb3
          have cr := hr5.cell
          have fr := hr5.frozen
          have hzz := hB1.out.size
          have hBn := Lib.hid (((hB1.out.trans ((hBh.out.trans (hb3.mono hBh.out.size)).mono hB1.out.size)).setCell (p := ⟨w.heap.size, 0, none⟩) (Nat.le_refl _) (.slice X1 E.vs.length x1)).setCell (p := ⟨w.heap.size, 1, none⟩) (Nat.le_refl _) (.slice X2 E.ns.length x2))
          have hVn := Lib.hid ((hV.le (Nat.le_trans hzz hBh.out.size)).put2 hr5 (.slice X1 E.vs.length x1) (.slice X2 E.ns.length x2))
          unfold strA
          have hfi : ∀ wx : World, (Instr.field 79 (.agg #[.slice X1 E.vs.length x1, .slice X2 E.ns.length x2, .int .i64 (strL (setOf E.vs) 0), .int .i64 (strL (setOf E.vs) 1), .int .i64 (strL (setOf E.vs) 2), .int .i64 (strL (setOf E.vs) 3)]) 0).run Try.prog wx = .ok (.agg #[.slice X1 E.vs.length x1, .slice X2 E.ns.length x2]) wx := fun wx => field_str _ _ _ _ _ _ wx
          clear hV hb3
          go_wp2_with fail
          refine bodyPost_ret (v := .tuple #[.agg #[.slice X1 E.vs.length x1, .slice X2 E.ns.length x2], .bool true]) (by simp [results, Try.results27, go_sem, cr]) rfl ⟨_, _, rfl, ?_, ?_⟩
          · exact hVn.out
          · exact hBn.out
end Go.Proofs.Ytaipdkfbkcknkaa
