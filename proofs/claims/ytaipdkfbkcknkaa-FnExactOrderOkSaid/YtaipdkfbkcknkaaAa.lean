/- Numbers in their bounds, their tally, numbers divided; Reduced: the program's functions. -/
import Derived.Test.YtaipdkfbkcknkaaAn
import Derived.Test.YtaipdkfbkcknkaaTk
import Derived.Deep.RegionLaw
import Derived.Deep.RegionHeld3
import Derived.StillTailTactics
import Derived.IntWalk
namespace Go.Proofs.Ytaipdkfbkcknkaa
set_option maxRecDepth 100000
set_option linter.unusedVariables false
open Go.RowKit

theorem numbersOk_any (A : Option Addr) (n c : Nat) (ds : List Int) (m : Int) (w : World) (h : Ils w w.heap.size A n ds) (hn : n ≤ maxLen) :
    Calls Try.prog 112 #[.slice A n c, .int .i64 m] w fun e w' => e = .returned (.bool (numsOk m ds)) ∧ Below w.heap.size w w' := by
  have hI := Lib.hid h
  have hT := Lib.hid (show ds.take n = ds from List.take_of_length_le (by rw [h.1]; exact Nat.le_refl _))
  have hn9 : n ≤ 9223372036854775807 := by unfold maxLen at hn; omega
  have cW := Lib.hid (fun d wx => within_any d 0 m wx)
  clear h hn
  go_enter Try.func112, Try.ntmps112
  go_wp2_with fail
  go_loopg [9] n (fun gn v wr => ∃ k : Nat, k ≤ n ∧ gn = n - k ∧ v = .int .i64 k ∧ numsOk m (ds.take k) = true ∧ Below w.heap.size w wr)
  case atStart => exact ⟨0, Nat.zero_le _, rfl, rfl, rfl, Below.refl _ _⟩
  case round =>
    obtain ⟨k, hk, hgn, rfl, hok, hB⟩ := hrel
    have hgk : gk = n - k := hgn
    have hB' := Lib.hid hB
    have hOk := Lib.hid hok
    clear hgn hok
    by_cases hlt : k < n
    · obtain ⟨g, off, d, rfl, hg, hd, c0⟩ := (hI.out.below hB).at_ hlt
      have hk0 : (0 : Int) ≤ (k : Int) := by omega
      have hk1 : (k : Int) < (n : Int) := by omega
      have hD := Lib.hid hd
      clear hB hd
      cases hin : inB d 0 m
      · have hR := Lib.hid (numsOk_no hD.out hin)
        go_wp2_with fail
        refine (cW.out d _).mono ?_
        rw [hin]
        rintro e w2 ⟨rfl, rfl⟩
        go_wp2_with fail
        go_ret
        exact ⟨ret_bool hR.out, hB'.out⟩
      · have hR := Lib.hid (numsOk_step hOk.out hD.out hin)
        go_wp2_with fail
        refine (cW.out d _).mono ?_
        rw [hin]
        rintro e w2 ⟨rfl, rfl⟩
        go_wp2_with fail
        go_roundg (n - (k + 1))
        case measure => omega
        case rel => exact ⟨k + 1, by omega, rfl, by go_num, hR.out, hB'.out⟩
    · obtain rfl : k = n := by omega
      have hR := Lib.hid (show numsOk m ds = true by rw [← hOk.out, hT.out])
      clear hB hOk
      go_wp2_with fail
      go_ret
      exact ⟨ret_bool hR.out, hB'.out⟩

/-- The first k numbers divided. -/
def divK (ds : List Int) (g : Int) (k : Nat) : List Int := (ds.take k).map (fun d => d / g) ++ ds.drop k
theorem divK_zero (ds : List Int) (g : Int) : divK ds g 0 = ds := by simp [divK]
theorem divK_len (ds : List Int) (g : Int) (k : Nat) : (divK ds g k).length = ds.length := by
  unfold divK
  rw [List.length_append, List.length_map, List.length_take, List.length_drop]
  omega
theorem divK_at {ds : List Int} {g d : Int} {k : Nat} (h : ds[k]? = some d) : (divK ds g k)[k]? = some d := by
  obtain ⟨hl, he⟩ := List.getElem?_eq_some_iff.1 h
  unfold divK
  rw [List.getElem?_append_right (by rw [List.length_map, List.length_take]; omega), List.length_map, List.length_take, List.getElem?_drop, show k + (k - min k ds.length) = k by omega]
  exact h
theorem divK_set {ds : List Int} {g d : Int} {k : Nat} (h : ds[k]? = some d) : (divK ds g k).set k (d / g) = divK ds g (k + 1) := by
  obtain ⟨hl, he⟩ := List.getElem?_eq_some_iff.1 h
  have e : ((ds.take k).map (fun d => d / g)).length = k := by rw [List.length_map, List.length_take]; omega
  unfold divK
  rw [List.set_append_right _ _ (by omega), e, Nat.sub_self, List.drop_eq_getElem_cons hl, he, List.set_cons_zero, List.take_succ_eq_append_getElem hl, he, List.map_append, List.append_assoc]
  rfl
theorem divK_all {ds : List Int} {g : Int} {n : Nat} (h : ds.length ≤ n) : divK ds g n = ds.map (fun d => d / g) := by
  unfold divK
  rw [List.take_of_length_le h, List.drop_eq_nil_of_le h, List.append_nil]

end Go.Proofs.Ytaipdkfbkcknkaa
