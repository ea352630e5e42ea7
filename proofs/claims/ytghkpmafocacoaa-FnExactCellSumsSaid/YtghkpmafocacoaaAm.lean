/- Numbers in their bounds, what they have in common, Reduced: the model's functions. -/
import Derived.Test.YtghkpmafocacoaaAn
import Derived.Test.YtghkpmafocacoaaTk
import Derived.Deep.AppendLies
namespace Go.Proofs.Ytghkpmafocacoaa
set_option maxRecDepth 100000
set_option linter.unusedVariables false
open Go.RowKit

theorem l4Numbers_any (A : Option Addr) (n c : Nat) (ds : List Int) (w : World) (h : Ils w w.heap.size A n ds) (hn : n ≤ maxLen) :
    Calls Try.prog 127 #[.slice A n c] w fun e w' => e = .returned (.bool (numsOk 1000000000 ds)) ∧ Below w.heap.size w w' := by
  have hI := Lib.hid h
  have hT := Lib.hid (show ds.take n = ds from List.take_of_length_le (by rw [h.1]; exact Nat.le_refl _))
  have hn9 : n ≤ 9223372036854775807 := by unfold maxLen at hn; omega
  have cW := Lib.hid (fun d wx => l1In_any d 0 1000000000 wx)
  clear h hn
  go_enter Try.func127, Try.ntmps127
  go_wp2_with fail
  go_loopg [3] n (fun gn v wr => ∃ k : Nat, k ≤ n ∧ gn = n - k ∧ v = .int .i64 k ∧ numsOk 1000000000 (ds.take k) = true ∧ Below w.heap.size w wr)
  case atStart => exact ⟨0, Nat.zero_le _, rfl, rfl, rfl, Below.refl _ _⟩
  case round =>
    obtain ⟨k, hk, hgn, rfl, hok, hB⟩ := hrel
    have hgk : gk = n - k := hgn
    have hB' := Lib.hid hB
    have hOk := Lib.hid hok
    clear hgn hok
    by_cases hlt : k < n
    · obtain ⟨g, off, d, rfl, hg, hd, c0⟩ := (hI.out.below hB).at_ hlt
      have hk0 : (0 : Int) ≤ (k : Int) := by omega
      have hk1 : (k : Int) < (n : Int) := by omega
      have hD := Lib.hid hd
      clear hB hd
      cases hin : inB d 0 1000000000
      · have hR := Lib.hid (numsOk_no hD.out hin)
        go_wp2_with fail
        refine (cW.out d _).mono ?_
        rw [hin]
        rintro e w2 ⟨rfl, rfl⟩
        go_wp2_with fail
        go_ret
        exact ⟨ret_bool hR.out, hB'.out⟩
      · have hR := Lib.hid (numsOk_step hOk.out hD.out hin)
        go_wp2_with fail
        refine (cW.out d _).mono ?_
        rw [hin]
        rintro e w2 ⟨rfl, rfl⟩
        go_wp2_with fail
        go_roundg (n - (k + 1))
        case measure => omega
        case rel => exact ⟨k + 1, by omega, rfl, by go_num, hR.out, hB'.out⟩
    · obtain rfl : k = n := by omega
      have hR := Lib.hid (show numsOk 1000000000 ds = true by rw [← hOk.out, hT.out])
      clear hB hOk
      go_wp2_with fail
      go_ret
      exact ⟨ret_bool hR.out, hB'.out⟩

theorem l4List_any (A : Option Addr) (n c : Nat) (ds : List Int) (w : World) (h : Ils w w.heap.size A n ds) (hn : n ≤ maxLen) :
    Calls Try.prog 74 #[.slice A n c] w fun e w' => e = .returned (.bool (lstOk 1000000000 ds)) ∧ Below w.heap.size w w' := by
  have hL := Lib.hid h.1
  have cN := Lib.hid (l4Numbers_any A n c ds w h hn)
  have hn9 : n ≤ 9223372036854775807 := by unfold maxLen at hn; omega
  by_cases h81 : n = 81
  · subst h81
    have hR := Lib.hid (show lstOk 1000000000 ds = numsOk 1000000000 ds by unfold lstOk; rw [decide_eq_true hL.out]; rfl)
    clear h hn
    go_enter Try.func74, Try.ntmps74
    go_wp2_with (first | (go_at_call 127; refine cN.out.mono ?_; rintro e w1 ⟨rfl, hb⟩))
    go_ret
    exact ⟨ret_bool hR.out, hb⟩
  · have hR := Lib.hid (show lstOk 1000000000 ds = false by unfold lstOk; rw [decide_eq_false (by rw [hL.out]; exact h81)]; rfl)
    have h81' : ¬ (n : Int) = 81 := by omega
    have h82 : ((n : Int) == 81) = false := by simpa using h81'
    clear h hn
    go_enter Try.func74, Try.ntmps74
    go_wp2_with (first | (go_at_call 127; refine cN.out.mono ?_; rintro e w1 ⟨rfl, hb⟩))
    go_ret
    exact ⟨ret_bool hR.out, Below.refl _ _⟩

/-- The next number divided. -/
theorem divL_step {ds : List Int} {g d : Int} {k : Nat} (h : ds[k]? = some d) : (divL ds g).take (k + 1) = (divL ds g).take k ++ [if g = 0 then d else d / g] := by
  obtain ⟨hl, he⟩ := List.getElem?_eq_some_iff.1 h
  unfold divL
  by_cases hg : g = 0
  · rw [if_pos hg, if_pos hg, List.take_succ_eq_append_getElem hl, he]
  · rw [if_neg hg, if_neg hg, List.take_succ_eq_append_getElem (by rw [List.length_map]; exact hl), List.getElem_map, he]

end Go.Proofs.Ytghkpmafocacoaa
