/- PushOn: the model's function. -/
import Derived.Test.YtcphclkaddhfmaaAe
import Derived.Maps.AppendAt
namespace Go.Proofs.Ytcphclkaddhfmaa
set_option maxRecDepth 100000
set_option linter.unusedVariables false
open Go.RowKit

theorem l3List_any (A : Option Addr) (n c : Nat) (ds : List Int) (m : Int) (w : World) (h : Ils w w.heap.size A n ds) (hn : n ≤ maxLen) :
    Calls Try.prog 58 #[.slice A n c, .int .i64 m] w fun e w' => e = .returned (.bool (lstOk m ds)) ∧ Below w.heap.size w w' := by
  have hI := Lib.hid h
  have hL := Lib.hid h.1
  have hT := Lib.hid (show ds.take n = ds from List.take_of_length_le (by rw [h.1]; exact Nat.le_refl _))
  have hn9 : n ≤ 9223372036854775807 := by unfold maxLen at hn; omega
  have cW := Lib.hid (fun d wx => l1In_any d 0 m wx)
  clear h hn
  go_enter Try.func58, Try.ntmps58
  go_wp2_with fail
  go_loopg [5] n (fun gn v wr => ∃ k : Nat, k ≤ n ∧ gn = n - k ∧ v = .int .i64 k ∧ numsOk m (ds.take k) = true ∧ Below w.heap.size w wr)
  case atStart => exact ⟨0, Nat.zero_le _, rfl, rfl, rfl, Below.refl _ _⟩
  case round =>
    obtain ⟨k, hk, hgn, rfl, hok, hB⟩ := hrel
    have hgk : gk = n - k := hgn
    have hB' := Lib.hid hB
    have hOk := Lib.hid hok
    clear hgn hok
    by_cases hlt : k < n
    · obtain ⟨g, off, d, rfl, hg, hd, c0⟩ := (hI.out.below hB).at_ hlt
      have hk0 : (0 : Int) ≤ (k : Int) := by omega
      have hk1 : (k : Int) < (n : Int) := by omega
      have hD := Lib.hid hd
      clear hB hd
      cases hin : inB d 0 m
      · have hR := Lib.hid (show lstOk m ds = false by unfold lstOk; rw [numsOk_no hD.out hin, Bool.and_false])
        go_wp2_with fail
        refine (cW.out d _).mono ?_
        rw [hin]
        rintro e w2 ⟨rfl, rfl⟩
        go_wp2_with fail
        go_ret
        exact ⟨ret_bool hR.out, hB'.out⟩
      · have hR := Lib.hid (numsOk_step hOk.out hD.out hin)
        go_wp2_with fail
        refine (cW.out d _).mono ?_
        rw [hin]
        rintro e w2 ⟨rfl, rfl⟩
        go_wp2_with fail
        go_roundg (n - (k + 1))
        case measure => omega
        case rel => exact ⟨k + 1, by omega, rfl, by go_num, hR.out, hB'.out⟩
    · obtain rfl : k = n := by omega
      have hR := Lib.hid (show lstOk m ds = decide (k = 81) by
        unfold lstOk
        rw [show numsOk m ds = true by rw [← hOk.out, hT.out], Bool.and_true, hL.out])
      clear hB hOk
      by_cases h81 : k = 81
      · have hF := Lib.hid (show lstOk m ds = true by rw [hR.out]; exact decide_eq_true h81)
        clear hR
        subst h81
        go_wp2_with fail
        go_ret
        exact ⟨ret_bool hF.out, hB'.out⟩
      · have hF := Lib.hid (show lstOk m ds = false by rw [hR.out]; exact decide_eq_false h81)
        have h82 : ((k : Int) == 81) = false := by simp; omega
        clear hR
        go_wp2_with fail
        go_ret
        exact ⟨ret_bool hF.out, hB'.out⟩

/-- What lies ahead of the append: an empty row, and the list's cells. -/
theorem push_row {w : World} {base ga off : Nat} {ds : List Int} (hz : base ≤ w.heap.size) (h : Ils w w.heap.size (some ⟨ga, off, none⟩) 81 ds) :
    (w.alloc (.cells #[] 3)).ownsRow base 3 1 (.slice (some ⟨w.heap.size, 0, none⟩) 0 0) 0 (ints []) ∧ ∀ j u, (ints ds)[j]? = some u → (w.alloc (.cells #[] 3)).cell? ((⟨ga, off, none⟩ : Addr).add j) = some u := by
  refine ⟨⟨rfl, .inr ⟨w.heap.size, 0, #[], rfl, hz, Has.new w _ _, Nat.le_refl _, Nat.zero_le _, rfl, rfl⟩⟩, fun j u hu => ?_⟩
  obtain ⟨g, o, e, hg, hc⟩ := h.2 (by decide)
  injection e with e
  injection e with e1 e2 _
  subst e1 e2
  unfold ints at hu
  rw [List.getElem?_map] at hu
  obtain ⟨d, hd, rfl⟩ := Option.map_eq_some_iff.1 hu
  have h1 := hc j d hd
  rw [← h1, ((Below.refl w.heap.size w).alloc (Nat.le_refl _) (.cells #[] 3)).cell (by unfold Addr.add; split <;> exact hg)]
  congr 1
  unfold Addr.add
  split
  · (rename_i h0; simp at h0 ⊢; try omega)
  · (simp; try omega)

end Go.Proofs.Ytcphclkaddhfmaa
