/- Numbers in their bounds, what they have in common, Reduced: the model's functions. -/
import Derived.Test.YtkibkmheomlafaaAn
import Derived.Test.YtkibkmheomlafaaTk
import Derived.Deep.AppendLies
namespace Go.Proofs.Ytkibkmheomlafaa
set_option maxRecDepth 100000
set_option linter.unusedVariables false
open Go.RowKit

theorem l4Numbers_any (A : Option Addr) (n c : Nat) (ds : List Int) (w : World) (h : Ils w w.heap.size A n ds) (hn : n ≤ maxLen) :
    Calls Try.prog 110 #[.slice A n c] w fun e w' => e = .returned (.bool (numsOk 1000000000 ds)) ∧ Below w.heap.size w w' := by
  have hI := Lib.hid h
  have hT := Lib.hid (show ds.take n = ds from List.take_of_length_le (by rw [h.1]; exact Nat.le_refl _))
  have hn9 : n ≤ 9223372036854775807 := by unfold maxLen at hn; omega
  have cW := Lib.hid (fun d wx => l1In_any d 0 1000000000 wx)
  clear h hn
  go_enter Try.func110, Try.ntmps110
  go_wp2_with fail
  go_loopg [3] n (fun gn v wr => ∃ k : Nat, k ≤ n ∧ gn = n - k ∧ v = .int .i64 k ∧ numsOk 1000000000 (ds.take k) = true ∧ Below w.heap.size w wr)
  case atStart => exact ⟨0, Nat.zero_le _, rfl, rfl, rfl, Below.refl _ _⟩
  case round =>
    obtain ⟨k, hk, hgn, rfl, hok, hB⟩ := hrel
    have hgk : gk = n - k := hgn
    have hB' := Lib.hid hB
    have hOk := Lib.hid hok
    clear hgn hok
    by_cases hlt : k < n
    · obtain ⟨g, off, d, rfl, hg, hd, c0⟩ := (hI.out.below hB).at_ hlt
      have hk0 : (0 : Int) ≤ (k : Int) := by omega
      have hk1 : (k : Int) < (n : Int) := by omega
      have hD := Lib.hid hd
      clear hB hd
      cases hin : inB d 0 1000000000
      · have hR := Lib.hid (numsOk_no hD.out hin)
        go_wp2_with fail
        refine (cW.out d _).mono ?_
        rw [hin]
        rintro e w2 ⟨rfl, rfl⟩
        go_wp2_with fail
        go_ret
        exact ⟨ret_bool hR.out, hB'.out⟩
      · have hR := Lib.hid (numsOk_step hOk.out hD.out hin)
        go_wp2_with fail
        refine (cW.out d _).mono ?_
        rw [hin]
        rintro e w2 ⟨rfl, rfl⟩
        go_wp2_with fail
        go_roundg (n - (k + 1))
        case measure => omega
        case rel => exact ⟨k + 1, by omega, rfl, by go_num, hR.out, hB'.out⟩
    · obtain rfl : k = n := by omega
      have hR := Lib.hid (show numsOk 1000000000 ds = true by rw [← hOk.out, hT.out])
      clear hB hOk
      go_wp2_with fail
      go_ret
      exact ⟨ret_bool hR.out, hB'.out⟩

theorem l4List_any (A : Option Addr) (n c : Nat) (ds : List Int) (w : World) (h : Ils w w.heap.size A n ds) (hn : n ≤ maxLen) :
    Calls Try.prog 79 #[.slice A n c] w fun e w' => e = .returned (.bool (lstOk 1000000000 ds)) ∧ Below w.heap.size w w' := by
  have hL := Lib.hid h.1
  have cN := Lib.hid (l4Numbers_any A n c ds w h hn)
  have hn9 : n ≤ 9223372036854775807 := by unfold maxLen at hn; omega
  by_cases h81 : n = 81
  · subst h81
    have hR := Lib.hid (show lstOk 1000000000 ds = numsOk 1000000000 ds by unfold lstOk; rw [decide_eq_true hL.out]; rfl)
    clear h hn
    go_enter Try.func79, Try.ntmps79
    go_wp2_with (first | (go_at_call 110; refine cN.out.mono ?_; rintro e w1 ⟨rfl, hb⟩))
    go_ret
    exact ⟨ret_bool hR.out, hb⟩
  · have hR := Lib.hid (show lstOk 1000000000 ds = false by unfold lstOk; rw [decide_eq_false (by rw [hL.out]; exact h81)]; rfl)
    have h81' : ¬ (n : Int) = 81 := by omega
    have h82 : ((n : Int) == 81) = false := by simpa using h81'
    clear h hn
    go_enter Try.func79, Try.ntmps79
    go_wp2_with (first | (go_at_call 110; refine cN.out.mono ?_; rintro e w1 ⟨rfl, hb⟩))
    go_ret
    exact ⟨ret_bool hR.out, Below.refl _ _⟩

/-- The next number divided. -/
theorem divL_step {ds : List Int} {g d : Int} {k : Nat} (h : ds[k]? = some d) : (divL ds g).take (k + 1) = (divL ds g).take k ++ [if g = 0 then d else d / g] := by
  obtain ⟨hl, he⟩ := List.getElem?_eq_some_iff.1 h
  unfold divL
  by_cases hg : g = 0
  · rw [if_pos hg, if_pos hg, List.take_succ_eq_append_getElem hl, he]
  · rw [if_neg hg, if_neg hg, List.take_succ_eq_append_getElem (by rw [List.length_map]; exact hl), List.getElem_map, he]

set_option maxHeartbeats 1000000 in
theorem l4Reduced_any (A : Option Addr) (n c : Nat) (ds : List Int) (w : World) (h : Ils w w.heap.size A n ds) (hn : n ≤ 1048576) (h0 : ∀ x ∈ ds, 0 ≤ x ∧ x ≤ 1000000000000000000) :
    Calls Try.prog 88 #[.slice A n c] w (Wtsd w (redL ds)) := by
  obtain ⟨i0, hi0, hz0, hz1', hz2'⟩ := info_parts info_int
  have hI := Lib.hid h
  have hL := h.1
  have hT := Lib.hid (show ds.take n = ds from List.take_of_length_le (by rw [h.1]; exact Nat.le_refl _))
  have hn9 : n ≤ 9223372036854775807 := by omega
  have hD0 := Lib.hid h0
  have hG := Lib.hid (gcdF_part h0 (by decide))
  have hGs := Lib.hid (fun k d (hd : ds[k]? = some d) => gcdF_take (ds := ds) hd)
  have hgb := gcdF_bd h0 (by decide)
  have hR := Lib.hid (show redL ds = divL ds (gcdF ds) from rfl)
  clear h h0
  go_enter Try.func88, Try.ntmps88
  go_wp2_with fail
  go_loopg [3, 4] n (fun gn o v wr => ∃ k : Nat, k ≤ n ∧ gn = n - k ∧ v = .int .i64 k ∧ o = .int .i64 (gcdF (ds.take k)) ∧ Below w.heap.size w wr)
  case atStart => exact ⟨0, Nat.zero_le _, rfl, rfl, rfl, Below.refl _ _⟩
  case round =>
    obtain ⟨k, hk, hgn, rfl, rfl, hB⟩ := hrel
    have hgk : gk = n - k := hgn
    have hB' := Lib.hid hB
    clear hgn
    by_cases hlt : k < n
    · obtain ⟨g, off, d, rfl, hg, hd, c0⟩ := (hI.out.below hB).at_ hlt
      have h3 := hG.out k
      have h4 := hD0.out d (List.mem_of_getElem? hd)
      have hS := Lib.hid (hGs.out k d hd)
      have cC := Lib.hid (fun wx => l4Common_any (gcdF (ds.take k)) d wx ⟨h3.1, by omega⟩ ⟨h4.1, by omega⟩)
      have hk0 : (0 : Int) ≤ (k : Int) := by omega
      have hk1 : (k : Int) < (n : Int) := by omega
      clear hB hd
      go_wp2_with fail
      refine (cC.out _).mono ?_
      rintro e w2 ⟨rfl, rfl⟩
      go_wp2_with fail
      go_roundg (n - (k + 1))
      case measure => omega
      case rel => exact ⟨k + 1, by omega, rfl, by go_num, by rw [hS.out], hB'.out⟩
    · obtain rfl : n = k := by omega
      rw [hT.out]
      have hz := hB.size
      have hN := Lib.hid (show IOwn (wr.alloc (.cells #[] 3)) w.heap.size (.slice (some ⟨wr.heap.size, 0, none⟩) 0 0) ((divL ds (gcdF ds)).take 0) from
        ⟨rfl, .inr ⟨wr.heap.size, 0, #[], rfl, hz, Has.new wr _ _, Nat.le_refl _, Nat.zero_le _, rfl, rfl⟩⟩)
      have hB0 := Lib.hid (hB.alloc hz (.cells #[] 3))
      have hdl := Lib.hid (fun k d (hd : ds[k]? = some d) => divL_step (g := gcdF ds) hd)
      have hlen := divL_len ds (gcdF ds)
      have hFin := Lib.hid (show (divL ds (gcdF ds)).take n = redL ds from by rw [hR.out, List.take_of_length_le (by omega)])
      clear hB hgk hG hGs hR hT
      generalize divL ds (gcdF ds) = es at *
      generalize gcdF ds = gg at *
      have e0 : gg = 0 ∨ 0 < gg := by omega
      rename_i wr0
      go_wp2_with fail
      go_loopg [5, 6] n (fun gn o v wr => ∃ k : Nat, k ≤ n ∧ gn = n - k ∧ v = .int .i64 k ∧ IOwn wr w.heap.size o (es.take k) ∧ Below w.heap.size w wr)
      case atStart => exact ⟨0, Nat.zero_le _, rfl, rfl, hN.out, hB0.out⟩
      case round =>
        obtain ⟨k, hk, hgn, rfl, hO, hb2⟩ := hrel
        have hgk : gk = n - k := hgn
        obtain ⟨Ao, co, hvo, _, _⟩ := hO.form
        have hlk : (es.take k).length = k := by rw [List.length_take]; omega
        rw [hlk] at hvo
        subst hvo
        have hz2 := hb2.size
        clear hgn
        by_cases hlt : k < n
        · obtain ⟨g, off, d, rfl, hg, hd, c0⟩ := (hI.out.below hb2).at_ hlt
          have h4 := hD0.out d (List.mem_of_getElem? hd)
          have hk0 : (0 : Int) ≤ (k : Int) := by omega
          have hk1 : (k : Int) < (n : Int) := by omega
          have hS := Lib.hid (hdl.out k d hd)
          rcases e0 with e0 | e0
          · rw [if_pos e0] at hS
            have e1 : ¬ 0 < gg := by omega
            clear e0
            have hO3 := Lib.hid (hO.alloc (.cells #[.int .i64 d] 3))
            have hnw := Lib.hid (new_one wr (.int .i64 d) 3)
            have hB3 := Lib.hid (hb2.alloc hz2 (.cells #[.int .i64 d] 3))
            clear hO hb2 hd
            go_wp2_with (at_builtin; refine wpList_append_lies _ rfl (.tmp 36) (.tmp 38) 29 rfl w.heap.size 3 i0 _ 1 8 Try.underlying29 hi0 hz0 hz1' hz2' rfl (by decide) (.slice Ao k co) k (ints (es.take k)) rfl (by have := hO3.out; unfold IOwn at this; rwa [hlk] at this) ⟨wr.heap.size, 0, none⟩ 1 1 [.int .i64 d] rfl rfl (by exact hnw.out) (by simp [Value.oneCell']) (by omega) (by unfold maxLen; omega) (by omega) (by simp; omega) (wr.heap.size + 1) (by simp) ?_; intro gr cr2 w4 hown4 hgrow4 hat4 hlt4)
            have hF := Lib.hid (IOwn.append_ (news := [d]) hO3.out (by rw [hlk]; exact hown4) hgrow4 hB3.out (by simp; omega))
            clear hown4 hgrow4 hat4
            go_wp2_with fail
            go_roundg (n - (k + 1))
            case measure => omega
            case rel => exact ⟨k + 1, by omega, rfl, by go_num, by rw [hS.out]; exact hF.out.1, hF.out.2⟩
          · rw [if_neg (by omega)] at hS
            have hO3 := Lib.hid (hO.alloc (.cells #[.int .i64 (d / gg)] 3))
            have hnw := Lib.hid (new_one wr (.int .i64 (d / gg)) 3)
            have hB3 := Lib.hid (hb2.alloc hz2 (.cells #[.int .i64 (d / gg)] 3))
            clear hO hb2 hd
            go_wp2_with (at_builtin; refine wpList_append_lies _ rfl (.tmp 36) (.tmp 38) 29 rfl w.heap.size 3 i0 _ 1 8 Try.underlying29 hi0 hz0 hz1' hz2' rfl (by decide) (.slice Ao k co) k (ints (es.take k)) rfl (by have := hO3.out; unfold IOwn at this; rwa [hlk] at this) ⟨wr.heap.size, 0, none⟩ 1 1 [.int .i64 (d / gg)] rfl rfl (by exact hnw.out) (by simp [Value.oneCell']) (by omega) (by unfold maxLen; omega) (by omega) (by simp; omega) (wr.heap.size + 1) (by simp) ?_; intro gr cr2 w4 hown4 hgrow4 hat4 hlt4)
            have hF := Lib.hid (IOwn.append_ (news := [d / gg]) hO3.out (by rw [hlk]; exact hown4) hgrow4 hB3.out (by simp; omega))
            clear hown4 hgrow4 hat4
            go_wp2_with fail
            go_roundg (n - (k + 1))
            case measure => omega
            case rel => exact ⟨k + 1, by omega, rfl, by go_num, by rw [hS.out]; exact hF.out.1, hF.out.2⟩
        · obtain rfl : n = k := by omega
          have hF := Lib.hid (show Wtsd w (redL ds) (.returned (.slice Ao n co)) wr from ⟨_, rfl, by rw [← hFin.out]; exact hO, hb2⟩)
          clear hO hb2
          go_wp2_with fail
          go_ret
          exact hF.out

end Go.Proofs.Ytkibkmheomlafaa
