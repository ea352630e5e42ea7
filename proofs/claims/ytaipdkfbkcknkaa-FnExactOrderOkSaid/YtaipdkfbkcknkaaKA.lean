/- Elimination: the model's OrderOk. -/
import Derived.Test.YtaipdkfbkcknkaaK2
import Derived.Test.YtaipdkfbkcknkaaFC
import Derived.BigQuiet
namespace Go.Proofs.Ytaipdkfbkcknkaa
set_option maxRecDepth 100000
set_option linter.unusedVariables false
open Go.RowKit

theorem oOk_has : ∀ (os : List Int) (L : Int), oOkF os L = true ↔ ∀ k v, os[k]? = some v → inB v 0 3 = true ∧ tb L v.toNat = false ∧ v ∉ os.take k
  | [], L => ⟨fun _ k v h => by simp at h, fun _ => rfl⟩
  | u :: r, L => by
    have e : oOkF (u :: r) L = ((inB u 0 3 && !tb L u.toNat) && oOkF r (bor L (bitN u))) := rfl
    rw [e, Bool.and_eq_true, Bool.and_eq_true, oOk_has r]
    have hb : inB u 0 3 = true → ∀ v : Int, inB v 0 3 = true → tb (bor L (bitN u)) v.toNat = (tb L v.toNat || decide (u = v)) := fun hu v hv => by
      have h1 := inB_iff.1 hu
      have h2 := inB_iff.1 hv
      rw [tb_bor, tb_bit h1.1 h1.2 (show v.toNat ≤ 3 by omega)]
      congr 1
      rw [decide_eq_decide]
      omega
    constructor
    · rintro ⟨⟨h1, h2⟩, h3⟩ k v hk
      cases k with
      | zero =>
        have : u = v := by simpa using hk
        subst this
        exact ⟨h1, by simpa using h2, by simp⟩
      | succ k =>
        have hk' : r[k]? = some v := by simpa using hk
        obtain ⟨g1, g2, g3⟩ := h3 k v hk'
        rw [hb h1 v g1, Bool.or_eq_false_iff] at g2
        refine ⟨g1, g2.1, ?_⟩
        rw [List.take_succ_cons, List.mem_cons]
        rintro (q | q)
        · exact of_decide_eq_false g2.2 q.symm
        · exact g3 q
    · intro h
      obtain ⟨g1, g2, _⟩ := h 0 u rfl
      refine ⟨⟨g1, by rw [g2]; rfl⟩, fun k v hk => ?_⟩
      obtain ⟨f1, f2, f3⟩ := h (k + 1) v (by simpa using hk)
      rw [List.take_succ_cons, List.mem_cons] at f3
      refine ⟨f1, ?_, fun q => f3 (.inr q)⟩
      rw [hb g1 v f1, f2, Bool.false_or]
      exact decide_eq_false fun q => f3 (.inl q.symm)
theorem orderOk_iff (os : List Int) : orderOk os = true ↔ ∀ k v, os[k]? = some v → inB v 0 3 = true ∧ v ∉ os.take k := by
  unfold orderOk
  rw [oOk_has]
  have h0 : ∀ v : Int, tb 0 v.toNat = false := fun v => by unfold tb; exact Nat.zero_testBit _
  exact ⟨fun h k v hk => ⟨(h k v hk).1, (h k v hk).2.2⟩, fun h k v hk => ⟨(h k v hk).1, h0 v, (h k v hk).2⟩⟩
theorem ils_take {w : World} {B n k : Nat} {A : Option Addr} {ds : List Int} (h : Ils w B A n ds) (hk : k ≤ n) : Ils w B A k (ds.take k) := ⟨by rw [List.length_take, h.1]; omega, fun h0 => by
  obtain ⟨g, off, e, hg, hc⟩ := h.2 (by omega)
  refine ⟨g, off, e, hg, fun i d hi => hc i d ?_⟩
  rw [List.getElem?_take] at hi
  split at hi
  · exact hi
  · cases hi⟩
theorem specOrderOk_any (A : Option Addr) (n c : Nat) (os : List Int) (w : World) (h : Ils w w.heap.size A n os) (hn : n ≤ c) (hc : c ≤ maxLen) :
    Calls Try.prog 15 #[.slice A n c] w fun e w' => e = .returned (.bool (orderOk os)) ∧ ∃ m, w' = w.drewN m := by
  have hI := Lib.hid h
  have hl := h.1
  have hn9 : n ≤ 9223372036854775807 := by unfold maxLen at hc; omega
  have hm := Lib.hid (show n ≤ maxLen from Nat.le_trans hn hc)
  clear h hc
  go_enter Try.func15, Try.ntmps15
  go_wp2_with fail
  go_loopg [3] n (fun gn r wr => ∃ (k m : Nat), k ≤ n ∧ gn = n - k ∧ r = .int .i64 k ∧ (∀ i v, i < k → os[i]? = some v → inB v 0 3 = true ∧ v ∉ os.take i) ∧ wr = w.drewN m)
  case atStart => exact ⟨0, 0, Nat.zero_le _, rfl, rfl, fun i v hi => by omega, rfl⟩
  case round =>
    obtain ⟨k, m, hk, hgn, rfl, hO, rfl⟩ := hrel
    have hgk : gk = n - k := hgn
    have hOh := Lib.hid hO
    clear hgn hO
    by_cases hlt : k < n
    · obtain ⟨g, off, d, rfl, hg, hd, cd⟩ := hI.out.at_ hlt
      have hk0 : (0 : Int) ≤ (k : Int) := by omega
      have hk1 : (k : Int) < (n : Int) := by omega
      have hk2 : (k : Int) ≤ (c : Int) := by omega
      have cd' : (w.drewN m).cell? ⟨g, off + k, none⟩ = some (.int .i64 d) := cd
      have cV := Lib.hid (fun wx => (l1Var_any d wx).mono fun _ _ q => (show _ ∧ _ = wx from ⟨q.1, q.2.symm⟩))
      have cH := Lib.hid (fun wx hx => (l8Has_any (some ⟨g, off, none⟩) k c (os.take k) d wx hx (by have := hm.out; omega)).mono fun _ _ q => (show _ ∧ _ = wx from ⟨q.1, q.2.symm⟩))
      have hIt := Lib.hid (fun q => show Ils ((w.drewN m).drewN q) ((w.drewN m).drewN q).heap.size _ k (os.take k) from ils_take ((hI.out.below (below_drewN (Below.refl _ _) m)).below (below_drewN (Below.refl _ _) q)) hk)
      have hWm := Lib.hid (fun q => World.drewN_drewN w m q)
      have hdh := Lib.hid hd
      clear hd cd
      cases hin : inB d 0 3
      · rw [hin] at cV
        have hR := Lib.hid (show orderOk os = false from by
          cases ho : orderOk os
          · rfl
          · have := ((orderOk_iff os).1 ho k d hdh.out).1
            rw [hin] at this
            cases this)
        clear hin cH hIt
        obtain ⟨Wq, hWq⟩ : ∃ Wq, w.drewN m = Wq := ⟨_, rfl⟩
        rw [hWq] at cd' hWm ⊢
        go_wp2_with fail
        go_quiet (first | (go_at_call 61; exact Calls.quiet_of_same (cV.out _)))
        go_wp2_with fail
        go_ret
        exact ⟨ret_bool hR.out, _, by rw [hWm.out]⟩
      · rw [hin] at cV
        have hvin := Lib.hid hin
        clear hin
        cases hin2 : decide (d ∈ os.take k)
        · rw [hin2] at cH
          have hno := Lib.hid (of_decide_eq_false hin2)
          obtain ⟨Wq, hWq⟩ : ∃ Wq, w.drewN m = Wq := ⟨_, rfl⟩
          rw [hWq] at cd' hWm hIt ⊢
          have cHq := Lib.hid (fun q => cH.out (Wq.drewN q) (hIt.out q))
          clear hin2 cH hIt
          go_wp2_with fail
          go_quiet (first | (go_at_call 61; exact Calls.quiet_of_same (cV.out _)) | (go_at_call 62; exact Calls.quiet_of_same (cHq.out _)))
          go_wp2_with fail
          go_roundg (n - (k + 1))
          case measure => omega
          case rel => exact ⟨k + 1, m + nq, by omega, rfl, by go_num, fun i v hi hv => by
            by_cases he : i = k
            · subst he
              obtain rfl := Option.some.inj (hv.symm.trans hdh.out)
              exact ⟨hvin.out, hno.out⟩
            · exact hOh.out i v (by omega) hv, by rw [hWm.out]⟩
        · rw [hin2] at cH
          have hR := Lib.hid (show orderOk os = false from by
            cases ho : orderOk os
            · rfl
            · exact absurd (of_decide_eq_true hin2) ((orderOk_iff os).1 ho k d hdh.out).2)
          obtain ⟨Wq, hWq⟩ : ∃ Wq, w.drewN m = Wq := ⟨_, rfl⟩
          rw [hWq] at cd' hWm hIt ⊢
          have cHq := Lib.hid (fun q => cH.out (Wq.drewN q) (hIt.out q))
          clear hin2 cH hIt
          go_wp2_with fail
          go_quiet (first | (go_at_call 61; exact Calls.quiet_of_same (cV.out _)) | (go_at_call 62; exact Calls.quiet_of_same (cHq.out _)))
          go_wp2_with fail
          go_ret
          exact ⟨ret_bool hR.out, _, by rw [hWm.out]⟩
    · obtain rfl : k = n := by omega
      have hR := Lib.hid (show orderOk os = true from (orderOk_iff os).2 fun i v hv => hOh.out i v (by have := (List.getElem?_eq_some_iff.1 hv).1; omega) hv)
      go_wp2_with fail
      go_ret
      exact ⟨ret_bool hR.out, m, rfl⟩
end Go.Proofs.Ytaipdkfbkcknkaa
