/- Weights of a variable's values, weights where it has a value, its mean: the model's functions. -/
import Derived.Test.YtkibkmheomlafaaAb
import Derived.Test.YtkibkmheomlafaaAm
import Derived.Test.YtkibkmheomlafaaTs
namespace Go.Proofs.Ytkibkmheomlafaa
set_option maxRecDepth 100000
set_option linter.unusedVariables false
open Go.RowKit

set_option maxHeartbeats 1000000 in
theorem l4Marginal_any (A : Option Addr) (c : Nat) (ds : List Int) (v : Int) (w : World) (h : Ils w w.heap.size A 81 ds) (hb : ∀ x ∈ ds, 0 ≤ x ∧ x ≤ 1000000000) (hv3 : 0 ≤ v ∧ v ≤ 3) :
    Calls Try.prog 81 #[.slice A 81 c, .int .i64 v] w (Wtsd w (marg ds v)) := by
  have hI := Lib.hid h
  have hL := Lib.hid h.1
  have hBd := Lib.hid hb
  have hT := Lib.hid (show ds.take 81 = ds from List.take_of_length_le (by rw [h.1]; exact Nat.le_refl _))
  have hM := Lib.hid (marg_bd (fun x hx => (hb x hx).1) v)
  have hS := Lib.hid (show isum ds ≤ 81000000000 by
    have := (isum_top (by decide) hb).2
    rw [h.1] at this
    omega)
  clear h hb
  go_enter Try.func81, Try.ntmps81
  go_wp2_with fail
  refine (l3ZerosN_any 3 (by decide) _).mono ?_
  rintro e w1 ⟨o, rfl, hO, hb⟩
  have hO' : w1.ownsRow w.heap.size 3 1 o 3 (ints (marg (ds.take 0) v)) := by
    have := hO
    unfold IOwn at this
    rw [zs_len] at this
    exact this
  obtain ⟨A3, c3, rfl, _, _⟩ := owns_form hO'
  obtain ⟨G, cur0, rfl, hwb, _⟩ := owns_open hO' (by decide)
  have hO1 := Lib.hid hO'
  have hB1 := Lib.hid hb
  clear hO hO' hb
  go_wp2_with fail
  go_loopg [6] 81 (fun gn o wr => ∃ k : Nat, k ≤ 81 ∧ gn = 81 - k ∧ o = .int .i64 k ∧ wr.ownsRow w.heap.size 3 1 (.slice (some ⟨G, 0, none⟩) 3 c3) 3 (ints (marg (ds.take k) v)) ∧ Below w.heap.size w wr)
  case atStart => exact ⟨0, Nat.zero_le _, rfl, rfl, hO1.out, hB1.out⟩
  case round =>
    obtain ⟨k, hk, hgn, rfl, hown, hB⟩ := hrel
    have hgk : gk = 81 - k := hgn
    have hB' := Lib.hid hB
    have hOw := Lib.hid hown
    clear hgn
    by_cases hlt : k < 81
    · obtain ⟨g, off, d, rfl, hg, hd, c0⟩ := (hI.out.below hB).at_ hlt
      have hk0 : (0 : Int) ≤ (k : Int) := by omega
      have hk1 : (k : Int) < 81 := by omega
      have hk2 : 0 ≤ (k : Int) ∧ (k : Int) ≤ 80 := by omega
      have hzv := state_val (st := k) (v := v) hk2 hv3
      obtain ⟨z, hz⟩ : ∃ z : Nat, valueAt k v = (z : Int) := ⟨(valueAt k v).toNat, by omega⟩
      have hz3 : z < 3 := by omega
      have cV := Lib.hid (fun wx => l1At_v k v wx hk2 hv3)
      rw [hz] at cV
      have hD := hBd.out d (List.mem_of_getElem? hd)
      have hm1 := hM.out z k
      have hs1 := hS.out
      obtain ⟨b, cur, hbe, hwb, hH, _, _, _, hcl⟩ := owns_open hown (by omega)
      have hbe' : G = b := by injection hbe with e; injection e
      subst hbe'
      have hc1 := hcl z (by omega)
      rw [ints_get (marg_at (ds.take k) v hz3)] at hc1
      have hfz := hH.frozen z
      have hSt := Lib.hid (marg_step hd hz hz3)
      have hO2 := Lib.hid (owns_set (x := rsum (ev v z) (ds.take k) 0 + d) hOw.out hz3)
      have hB2 := Lib.hid (hB'.out.setCell (p := ⟨G, z, none⟩) hwb (.int .i64 (rsum (ev v z) (ds.take k) 0 + d)))
      generalize rsum (ev v z) (ds.take k) 0 = sk at *
      have hw : IntKind.i64.wrap (sk + d) = sk + d := by rw [IntKind.wrap_i64]; omega
      have hz0 : (0 : Int) ≤ (z : Int) := by omega
      have hz4 : (z : Int) < 3 := by omega
      clear hown hB hbe hH hcl hd hz hzv hk2
      go_wp2_with fail
      go_still_tail 16, (by kernel_rfl)
      still_call (cV.out _)
      repeat still_step
      still_call (cV.out _)
      repeat still_step
      try refine wpStill_nil ?_
      try change wpList _ _ _ _ _ wr.drew
      go_wp2_with fail
      go_roundg (81 - (k + 1))
      case measure => omega
      case rel => exact ⟨k + 1, by omega, rfl, by go_num, by rw [← hSt.out]; exact hO2.out, hB2.out.drew⟩
    · obtain rfl : k = 81 := by omega
      have hF := Lib.hid (show Wtsd w (marg ds v) (.returned (.slice (some ⟨G, 0, none⟩) 3 c3)) wr from ⟨_, rfl, by rw [hT.out] at hown; exact hown, hB⟩)
      clear hown hB
      go_wp2_with fail
      go_ret
      exact hF.out

theorem l3SumS_any (A : Option Addr) (n c : Nat) (ds : List Int) (w : World) (h : Ils w w.heap.size A n ds) (hL : ds.length = n) (hn : n ≤ 1048576) (h0 : ∀ x ∈ ds, 0 ≤ x) (ht : isum ds ≤ 1000000000000000000) :
    Calls Try.prog 83 #[.slice A n c] w fun e w' => e = .returned (.int .i64 (isum ds)) ∧ w' = w := by
  have hI := Lib.hid h
  have hP := Lib.hid (isum_le h0)
  have hT := Lib.hid (show isum (ds.take n) = isum ds by rw [List.take_of_length_le (by omega)])
  clear h h0
  go_enter Try.func83, Try.ntmps83
  go_wp2_with fail
  go_loopg [3, 4] n (fun gn o v wr => ∃ k : Nat, k ≤ n ∧ gn = n - k ∧ v = .int .i64 k ∧ o = .int .i64 (isum (ds.take k)) ∧ wr = w)
  case atStart => exact ⟨0, Nat.zero_le _, rfl, rfl, rfl, rfl⟩
  case round =>
    obtain ⟨k, hk, hgn, rfl, rfl, rfl⟩ := hrel
    have hgk : gk = n - k := hgn
    clear hgn
    by_cases hlt : k < n
    · obtain ⟨g, off, d, rfl, hg, hd, c0⟩ := hI.out.at_ hlt
      have h1 := (hP.out k)
      have h2 := (hP.out (k + 1))
      rw [isum_take hd] at h2
      have hR := Lib.hid (isum_take hd)
      have hw : IntKind.i64.wrap (isum (ds.take k) + d) = isum (ds.take k) + d := by rw [IntKind.wrap_i64]; omega
      have hk0 : (0 : Int) ≤ (k : Int) := by omega
      have hk1 : (k : Int) < (n : Int) := by omega
      clear hd
      go_wp2_with fail
      go_roundg (n - (k + 1))
      case measure => omega
      case rel => exact ⟨k + 1, by omega, rfl, by go_num, by rw [hR.out], rfl⟩
    · obtain rfl : k = n := by omega
      rw [hT.out]
      go_wp2_with fail
      go_ret
      exact ⟨rfl, rfl⟩

theorem specMarginalOf_any (A : Option Addr) (n c : Nat) (ds : List Int) (v : Int) (w : World) (h : Ils w w.heap.size A n ds) (hn : n ≤ maxLen) :
    Calls Try.prog 40 #[.slice A n c, .int .i64 v] w (Lbd w (margOf ds v) (lvOk ds v)) := by
  have hI := Lib.hid h
  have cL := Lib.hid (l4List_any A n c ds w h hn)
  clear h hn
  cases hk : lstOk 1000000000 ds
  · have hR := Lib.hid (show lvOk ds v = false by unfold lvOk; rw [hk]; rfl)
    have hR2 := Lib.hid (show margOf ds v = [] by unfold margOf; rw [hR.out]; rfl)
    rw [hk] at cL
    clear hk
    go_enter Try.func40, Try.ntmps40
    go_wp2_with (first | (go_at_call 79; refine cL.out.mono ?_; rintro e w1 ⟨rfl, hb⟩) | (go_at_call 80; refine (l1Var_any _ _).mono ?_; rintro e w' ⟨rfl, rfl⟩) | (go_at_call 59; refine (l1In_any _ _ _ _).mono ?_; rintro e w' ⟨rfl, rfl⟩))
    go_ret2
    exact ⟨_, by rw [hR.out]; rfl, by rw [hR2.out]; exact IOwn.nil _ _, hb⟩
  · cases hv : inB v 0 3
    · have hR := Lib.hid (show lvOk ds v = false by unfold lvOk; rw [hk, hv]; rfl)
      have hR2 := Lib.hid (show margOf ds v = [] by unfold margOf; rw [hR.out]; rfl)
      rw [hk] at cL
      clear hk
      go_enter Try.func40, Try.ntmps40
      go_wp2_with (first | (go_at_call 79; refine cL.out.mono ?_; rintro e w1 ⟨rfl, hb⟩) | (go_at_call 80; refine (l1Var_any _ _).mono ?_; rintro e w' ⟨rfl, rfl⟩) | (go_at_call 59; refine (l1In_any _ _ _ _).mono ?_; rintro e w' ⟨rfl, rfl⟩))
      go_ret2
      exact ⟨_, by rw [hR.out]; rfl, by rw [hR2.out]; exact IOwn.nil _ _, hb⟩
    · have hR := Lib.hid (show lvOk ds v = true by unfold lvOk; rw [hk, hv]; rfl)
      have hR2 := Lib.hid (show margOf ds v = marg ds v by unfold margOf; rw [hR.out]; rfl)
      have hLB := Lib.hid (lstOk_bd hk)
      have hv3 := Lib.hid (inB_iff.1 hv)
      obtain rfl : n = 81 := by rw [← hI.out.1]; exact hLB.out.1
      rw [hk] at cL
      clear hk
      go_enter Try.func40, Try.ntmps40
      go_wp2_with (first | (go_at_call 79; refine cL.out.mono ?_; rintro e w1 ⟨rfl, hb⟩) | (go_at_call 80; refine (l1Var_any _ _).mono ?_; rintro e w' ⟨rfl, rfl⟩) | (go_at_call 59; refine (l1In_any _ _ _ _).mono ?_; rintro e w' ⟨rfl, rfl⟩))
      have hI1 := Lib.hid ((hI.out.below hb).more hb.size)
      have hb1 := Lib.hid hb
      clear hb
      refine (l4Marginal_any A c ds v _ hI1.out hLB.out.2 hv3.out).mono ?_
      rintro e w2 ⟨o, rfl, hO, hb⟩
      have hF := Lib.hid (show Lbd w (margOf ds v) (lvOk ds v) (.returned (.tuple #[o, .bool true])) w2 from ⟨_, by rw [hR.out], by rw [hR2.out]; exact owns_le hO hb1.out.size, hb1.out.trans (hb.mono hb1.out.size)⟩)
      clear hO hb
      go_wp2_with fail
      go_ret2
      exact hF.out

set_option maxHeartbeats 1000000 in
theorem specGivenOf_any (A : Option Addr) (n c : Nat) (ds : List Int) (v x : Int) (w : World) (h : Ils w w.heap.size A n ds) (hn : n ≤ maxLen) :
    Calls Try.prog 44 #[.slice A n c, .int .i64 v, .int .i64 x] w (Lbd w (givOf ds v x) (givOk ds v x)) := by
  have hI := Lib.hid h
  have cL := Lib.hid (l4List_any A n c ds w h hn)
  clear h hn
  cases hg : givOk ds v x
  · have hR2 := Lib.hid (show givOf ds v x = [] by unfold givOf; rw [hg]; rfl)
    cases hk : lstOk 1000000000 ds
    · rw [hk] at cL
      clear hk hg
      go_enter Try.func44, Try.ntmps44
      go_wp2_with (first | (go_at_call 79; refine cL.out.mono ?_; rintro e w1 ⟨rfl, hb⟩) | (go_at_call 80; refine (l1Var_any _ _).mono ?_; rintro e w' ⟨rfl, rfl⟩) | (go_at_call 59; refine (l1In_any _ _ _ _).mono ?_; rintro e w' ⟨rfl, rfl⟩))
      go_ret2
      exact ⟨_, rfl, by rw [hR2.out]; exact IOwn.nil _ _, hb⟩
    · cases hv : inB v 0 3
      · rw [hk] at cL
        clear hk hg
        go_enter Try.func44, Try.ntmps44
        go_wp2_with (first | (go_at_call 79; refine cL.out.mono ?_; rintro e w1 ⟨rfl, hb⟩) | (go_at_call 80; refine (l1Var_any _ _).mono ?_; rintro e w' ⟨rfl, rfl⟩) | (go_at_call 59; refine (l1In_any _ _ _ _).mono ?_; rintro e w' ⟨rfl, rfl⟩))
        go_ret2
        exact ⟨_, rfl, by rw [hR2.out]; exact IOwn.nil _ _, hb⟩
      · have hx : inB x 0 2 = false := by
          unfold givOk lvOk at hg
          rwa [hk, hv] at hg
        rw [hk] at cL
        clear hk hg
        go_enter Try.func44, Try.ntmps44
        go_wp2_with (first | (go_at_call 79; refine cL.out.mono ?_; rintro e w1 ⟨rfl, hb⟩) | (go_at_call 80; refine (l1Var_any _ _).mono ?_; rintro e w' ⟨rfl, rfl⟩) | (go_at_call 59; refine (l1In_any _ _ _ _).mono ?_; rintro e w' ⟨rfl, rfl⟩))
        go_ret2
        exact ⟨_, rfl, by rw [hR2.out]; exact IOwn.nil _ _, hb⟩
  · have hR2 := Lib.hid (show givOf ds v x = givP ds v x 81 by unfold givOf; rw [hg, ← givF_all]; rfl)
    obtain ⟨⟨hk, hv⟩, hx⟩ : (lstOk 1000000000 ds = true ∧ inB v 0 3 = true) ∧ inB x 0 2 = true := by
      unfold givOk lvOk at hg
      rwa [Bool.and_eq_true, Bool.and_eq_true] at hg
    have hLB := Lib.hid (lstOk_bd hk)
    have hv3 := inB_iff.1 hv
    obtain rfl : n = 81 := by rw [← hI.out.1]; exact hLB.out.1
    rw [hk] at cL
    clear hk hg
    obtain ⟨i0, hi0, hz0, hz1', hz2'⟩ := info_parts info_int
    go_enter Try.func44, Try.ntmps44
    go_wp2_with (first | (go_at_call 79; refine cL.out.mono ?_; rintro e w1 ⟨rfl, hb⟩) | (go_at_call 80; refine (l1Var_any _ _).mono ?_; rintro e w' ⟨rfl, rfl⟩) | (go_at_call 59; refine (l1In_any _ _ _ _).mono ?_; rintro e w' ⟨rfl, rfl⟩))
    have hz1 := hb.size
    have hI1 := Lib.hid (hI.out.below hb)
    have hN := Lib.hid (show IOwn (w1.alloc (.cells #[] 3)) w.heap.size (.slice (some ⟨w1.heap.size, 0, none⟩) 0 0) (givP ds v x 0) from
      ⟨rfl, .inr ⟨w1.heap.size, 0, #[], rfl, hz1, Has.new w1 _ _, Nat.le_refl _, Nat.zero_le _, rfl, rfl⟩⟩)
    have hB0 := Lib.hid (hb.alloc hz1 (.cells #[] 3))
    clear hb
    go_wp2_with fail
    go_loopg [8, 9] 81 (fun gn o q wr => ∃ k : Nat, k ≤ 81 ∧ gn = 81 - k ∧ q = .int .i64 k ∧ IOwn wr w.heap.size o (givP ds v x k) ∧ Below w.heap.size w wr)
    case atStart => exact ⟨0, Nat.zero_le _, rfl, rfl, hN.out, hB0.out⟩
    case round =>
      obtain ⟨k, hk, hgn, rfl, hO, hb2⟩ := hrel
      have hgk : gk = 81 - k := hgn
      obtain ⟨Ao, co, hvo, _, _⟩ := hO.form
      have hlk : (givP ds v x k).length = k := givP_len ds v x k
      rw [hlk] at hvo
      subst hvo
      have hz2 := hb2.size
      clear hgn
      by_cases hlt : k < 81
      · obtain ⟨g, off, d, rfl, hg, hd, c0⟩ := (hI.out.below hb2).at_ hlt
        have hk0 : (0 : Int) ≤ (k : Int) := by omega
        have hk1 : (k : Int) < 81 := by omega
        have hk2 : 0 ≤ (k : Int) ∧ (k : Int) ≤ 80 := by omega
        have cV := Lib.hid (fun wx => l1At_v k v wx hk2 hv3)
        have hS := Lib.hid (givP_succ (v := v) (x := x) hd)
        by_cases hvx : valueAt k v = x
        · rw [if_pos hvx] at hS
          rw [hvx] at cV
          have hO3 := Lib.hid (hO.alloc (.cells #[.int .i64 d] 3))
          have hnw := Lib.hid (new_one wr (.int .i64 d) 3)
          have hB3 := Lib.hid (hb2.alloc hz2 (.cells #[.int .i64 d] 3))
          have hne : (x != x) = false := by simp
          clear hO hb2 hd hvx
          go_wp2_with fail
          refine (cV.out _).mono ?_
          rintro e w2 ⟨rfl, rfl⟩
          go_wp2_with (at_builtin; refine wpList_append_lies _ rfl (.tmp 38) (.tmp 40) 29 rfl w.heap.size 3 i0 _ 1 8 Try.underlying29 hi0 hz0 hz1' hz2' rfl (by decide) (.slice Ao k co) k (ints (givP ds v x k)) rfl (by have := hO3.out; unfold IOwn at this; rwa [hlk] at this) ⟨w2.heap.size, 0, none⟩ 1 1 [.int .i64 d] rfl rfl (by exact hnw.out) (by simp [Value.oneCell']) (by omega) (by unfold maxLen; omega) (by omega) (by simp; omega) (w2.heap.size + 1) (by simp) ?_; intro gr cr2 w4 hown4 hgrow4 hat4 hlt4)
          have hF := Lib.hid (IOwn.append_ (news := [d]) hO3.out (by rw [hlk]; exact hown4) hgrow4 hB3.out (by simp; omega))
          clear hown4 hgrow4 hat4
          go_wp2_with fail
          go_roundg (81 - (k + 1))
          case measure => omega
          case rel => exact ⟨k + 1, by omega, rfl, by go_num, by rw [hS.out]; exact hF.out.1, hF.out.2⟩
        · rw [if_neg hvx] at hS
          have hne : (valueAt k v != x) = true := by simpa using hvx
          have hO3 := Lib.hid (hO.alloc (.cells #[.int .i64 0] 3))
          have hnw := Lib.hid (new_one wr (.int .i64 0) 3)
          have hB3 := Lib.hid (hb2.alloc hz2 (.cells #[.int .i64 0] 3))
          generalize valueAt k v = z at cV hvx hne
          clear hO hb2 hd
          go_wp2_with fail
          refine (cV.out _).mono ?_
          rintro e w2 ⟨rfl, rfl⟩
          go_wp2_with (at_builtin; refine wpList_append_lies _ rfl (.tmp 38) (.tmp 40) 29 rfl w.heap.size 3 i0 _ 1 8 Try.underlying29 hi0 hz0 hz1' hz2' rfl (by decide) (.slice Ao k co) k (ints (givP ds v x k)) rfl (by have := hO3.out; unfold IOwn at this; rwa [hlk] at this) ⟨w2.heap.size, 0, none⟩ 1 1 [.int .i64 0] rfl rfl (by exact hnw.out) (by simp [Value.oneCell']) (by omega) (by unfold maxLen; omega) (by omega) (by simp; omega) (w2.heap.size + 1) (by simp) ?_; intro gr cr2 w4 hown4 hgrow4 hat4 hlt4)
          have hF := Lib.hid (IOwn.append_ (news := [(0 : Int)]) hO3.out (by rw [hlk]; exact hown4) hgrow4 hB3.out (by simp; omega))
          clear hown4 hgrow4 hat4
          go_wp2_with fail
          go_roundg (81 - (k + 1))
          case measure => omega
          case rel => exact ⟨k + 1, by omega, rfl, by go_num, by rw [hS.out]; exact hF.out.1, hF.out.2⟩
      · obtain rfl : k = 81 := by omega
        have hF := Lib.hid (show Lbd w (givOf ds v x) true (.returned (.tuple #[.slice Ao 81 co, .bool true])) wr from ⟨_, rfl, by rw [hR2.out]; exact hO, hb2⟩)
        clear hO hb2
        go_wp2_with fail
        go_ret2
        exact hF.out

set_option maxHeartbeats 1000000 in
theorem specMeanOf_any (A : Option Addr) (n c : Nat) (ds : List Int) (v : Int) (w : World) (h : Ils w w.heap.size A n ds) (hn : n ≤ maxLen) :
    Calls Try.prog 42 #[.slice A n c, .int .i64 v] w (Mnd w ds v) := by
  have hI := Lib.hid h
  have cL := Lib.hid (l4List_any A n c ds w h hn)
  clear h hn
  cases hk : lstOk 1000000000 ds
  · have hR := Lib.hid (show meanOk ds v = false by unfold meanOk lvOk; rw [hk]; rfl)
    rw [hk] at cL
    clear hk
    go_enter Try.func42, Try.ntmps42
    go_wp2_with (first | (go_at_call 79; refine cL.out.mono ?_; rintro e w1 ⟨rfl, hb⟩) | (go_at_call 80; refine (l1Var_any _ _).mono ?_; rintro e w' ⟨rfl, rfl⟩) | (go_at_call 59; refine (l1In_any _ _ _ _).mono ?_; rintro e w' ⟨rfl, rfl⟩))
    go_ret3
    obtain ⟨e1, e2⟩ := mean_no hR.out
    exact ⟨by rw [hR.out, e1, e2]; rfl, hb⟩
  · cases hv : inB v 0 3
    · have hR := Lib.hid (show meanOk ds v = false by unfold meanOk lvOk; rw [hk, hv]; rfl)
      rw [hk] at cL
      clear hk
      go_enter Try.func42, Try.ntmps42
      go_wp2_with (first | (go_at_call 79; refine cL.out.mono ?_; rintro e w1 ⟨rfl, hb⟩) | (go_at_call 80; refine (l1Var_any _ _).mono ?_; rintro e w' ⟨rfl, rfl⟩) | (go_at_call 59; refine (l1In_any _ _ _ _).mono ?_; rintro e w' ⟨rfl, rfl⟩))
      go_ret3
      obtain ⟨e1, e2⟩ := mean_no hR.out
      exact ⟨by rw [hR.out, e1, e2]; rfl, hb⟩
    · have hLB := Lib.hid (lstOk_bd hk)
      have hv3 := Lib.hid (inB_iff.1 hv)
      have hRk := Lib.hid (show lvOk ds v = true by unfold lvOk; rw [hk, hv]; rfl)
      obtain rfl : n = 81 := by rw [← hI.out.1]; exact hLB.out.1
      have hT := Lib.hid (show ds.take 81 = ds from List.take_of_length_le (by rw [hLB.out.1]; exact Nat.le_refl _))
      have hM := Lib.hid (marg_bd (fun x hx => (hLB.out.2 x hx).1) v)
      have hab := above_bd hLB.out.1 (fun x hx => (hLB.out.2 x hx).1) hv3.out 81
      rw [hT.out] at hab
      have hAM := Lib.hid (above_marg hLB.out.1 hv3.out)
      have hAb : 0 ≤ above ds v ∧ above ds v ≤ 2 * isum ds := hab
      have hs := isum_top (by decide) hLB.out.2
      rw [hLB.out.1] at hs
      have hsb : isum ds ≤ 1000000000000000000 := by omega
      have cS := Lib.hid (fun wx (hx : Ils wx wx.heap.size A 81 ds) => l3SumS_any A 81 c ds wx hx hLB.out.1 (by decide) (fun x hx => (hLB.out.2 x hx).1) hsb)
      rw [hk] at cL
      clear hk hab
      by_cases hs0 : isum ds = 0
      · have hR := Lib.hid (show meanOk ds v = false by unfold meanOk; rw [hRk.out]; simp [hs0])
        rw [hs0] at cS
        clear hs hsb hAb hs0
        go_enter Try.func42, Try.ntmps42
        go_wp2_with (first | (go_at_call 79; refine cL.out.mono ?_; rintro e w1 ⟨rfl, hb⟩; have hI1 := Lib.hid ((hI.out.below hb).more hb.size)) | (go_at_call 80; refine (l1Var_any _ _).mono ?_; rintro e w' ⟨rfl, rfl⟩) | (go_at_call 83; refine (cS.out _ hI1.out).mono ?_; rintro e w' ⟨rfl, rfl⟩))
        go_ret3
        obtain ⟨e1, e2⟩ := mean_no hR.out
        exact ⟨by rw [hR.out, e1, e2]; rfl, hb⟩
      · have hR := Lib.hid (show meanOk ds v = true by unfold meanOk; rw [hRk.out]; simp [hs0])
        have hse : (isum ds == 0) = false := by simpa using hs0
        have m1 := hM.out 1 81
        have m2 := hM.out 2 81
        rw [hT.out] at m1 m2
        have hMa := Lib.hid (show ∀ z, z < 3 → (ints (marg ds v))[z]? = some (.int .i64 (rsum (ev v z) ds 0)) from fun z hz => ints_get (marg_at ds v hz))
        have cF := Lib.hid (fun wx => l4Fraction_any (above ds v) (isum ds) wx (by omega) (by omega))
        have hF := Lib.hid (show ∀ w2, Below w.heap.size w w2 → Mnd w ds v (.returned (.tuple #[.int .i64 (low1 (above ds v) (isum ds)), .int .i64 (low2 (above ds v) (isum ds)), .bool true])) w2 from fun w2 hb => by
          refine ⟨?_, hb⟩
          unfold mean1 mean2
          rw [hR.out]
          rfl)
        rw [hAM.out] at cF hAb hF
        go_enter Try.func42, Try.ntmps42
        go_wp2_with (first | (go_at_call 79; refine cL.out.mono ?_; rintro e w1 ⟨rfl, hb⟩; have hI1 := Lib.hid ((hI.out.below hb).more hb.size)) | (go_at_call 80; refine (l1Var_any _ _).mono ?_; rintro e w' ⟨rfl, rfl⟩) | (go_at_call 83; refine (cS.out _ hI1.out).mono ?_; rintro e w' ⟨rfl, rfl⟩))
        have hb1 := Lib.hid hb
        clear hb
        refine (l4Marginal_any A c ds v _ hI1.out hLB.out.2 hv3.out).mono ?_
        rintro e w2 ⟨o, rfl, hO, hb⟩
        have hO' : w2.ownsRow _ 3 1 o 3 (ints (marg ds v)) := hO
        obtain ⟨A3, c3, rfl, _, _⟩ := owns_form hO'
        obtain ⟨G, cur0, rfl, hwb, _, _, _, _, hcl⟩ := owns_open hO' (by decide)
        have x1 := (hcl 1 (by decide)).trans (hMa.out 1 (by decide))
        have x2 := (hcl 2 (by decide)).trans (hMa.out 2 (by decide))
        have hI2 := Lib.hid ((hI1.out.below hb).more hb.size)
        have hB2 := Lib.hid (hb1.out.trans (hb.mono hb1.out.size))
        have cS2 := Lib.hid (fun n => cS.out (w2.drewN n) (hI2.out.below (below_drewN (Below.refl _ _) n)))
        clear hO hO' hcl hb hI2 cS hMa
        have e1 : ((1 : Nat) : Int) = 1 := rfl
        have e2 : ((2 : Nat) : Int) = 2 := rfl
        rw [e1] at x1
        rw [e2] at x2
        generalize rsum (ev v 1) ds 0 = s1 at *
        generalize rsum (ev v 2) ds 0 = s2 at *
        generalize isum ds = sd at *
        have hw1 : IntKind.i64.wrap (2 * s2) = 2 * s2 := by rw [IntKind.wrap_i64]; omega
        have hw2 : IntKind.i64.wrap (s1 + 2 * s2) = s1 + 2 * s2 := by rw [IntKind.wrap_i64]; omega
        go_wp2_with fail
        go_quiet (first | (go_at_call 83; exact Calls.quiet_of_same (cS2.out _)) | (go_at_call 84; exact Calls.quiet_of (cF.out _)))
        go_wp2_with fail
        go_ret3
        exact hF.out _ (below_drewN hB2.out _)

end Go.Proofs.Ytkibkmheomlafaa
