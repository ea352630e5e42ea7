/- Numbers in their bounds, their tally, numbers divided; Reduced: the program's functions. -/
import Derived.Test.YtbndonfpdioibaaAn
import Derived.Test.YtbndonfpdioibaaTk
import Derived.Deep.RegionLaw
import Derived.Deep.RegionHeld3
import Derived.StillTailTactics
import Derived.IntWalk
namespace Go.Proofs.Ytbndonfpdioibaa
set_option maxRecDepth 100000
set_option linter.unusedVariables false
open Go.RowKit

theorem numbersOk_any (A : Option Addr) (n c : Nat) (ds : List Int) (m : Int) (w : World) (h : Ils w w.heap.size A n ds) (hn : n ≤ maxLen) :
    Calls Try.prog 116 #[.slice A n c, .int .i64 m] w fun e w' => e = .returned (.bool (numsOk m ds)) ∧ Below w.heap.size w w' := by
  have hI := Lib.hid h
  have hT := Lib.hid (show ds.take n = ds from List.take_of_length_le (by rw [h.1]; exact Nat.le_refl _))
  have hn9 : n ≤ 9223372036854775807 := by unfold maxLen at hn; omega
  have cW := Lib.hid (fun d wx => within_any d 0 m wx)
  clear h hn
  go_enter Try.func116, Try.ntmps116
  go_wp2_with fail
  go_loopg [9] n (fun gn v wr => ∃ k : Nat, k ≤ n ∧ gn = n - k ∧ v = .int .i64 k ∧ numsOk m (ds.take k) = true ∧ Below w.heap.size w wr)
  case atStart => exact ⟨0, Nat.zero_le _, rfl, rfl, rfl, Below.refl _ _⟩
  case round =>
    obtain ⟨k, hk, hgn, rfl, hok, hB⟩ := hrel
    have hgk : gk = n - k := hgn
    have hB' := Lib.hid hB
    have hOk := Lib.hid hok
    clear hgn hok
    by_cases hlt : k < n
    · obtain ⟨g, off, d, rfl, hg, hd, c0⟩ := (hI.out.below hB).at_ hlt
      have hk0 : (0 : Int) ≤ (k : Int) := by omega
      have hk1 : (k : Int) < (n : Int) := by omega
      have hD := Lib.hid hd
      clear hB hd
      cases hin : inB d 0 m
      · have hR := Lib.hid (numsOk_no hD.out hin)
        go_wp2_with fail
        refine (cW.out d _).mono ?_
        rw [hin]
        rintro e w2 ⟨rfl, rfl⟩
        go_wp2_with fail
        go_ret
        exact ⟨ret_bool hR.out, hB'.out⟩
      · have hR := Lib.hid (numsOk_step hOk.out hD.out hin)
        go_wp2_with fail
        refine (cW.out d _).mono ?_
        rw [hin]
        rintro e w2 ⟨rfl, rfl⟩
        go_wp2_with fail
        go_roundg (n - (k + 1))
        case measure => omega
        case rel => exact ⟨k + 1, by omega, rfl, by go_num, hR.out, hB'.out⟩
    · obtain rfl : k = n := by omega
      have hR := Lib.hid (show numsOk m ds = true by rw [← hOk.out, hT.out])
      clear hB hOk
      go_wp2_with fail
      go_ret
      exact ⟨ret_bool hR.out, hB'.out⟩

theorem listOk_any (A : Option Addr) (n c : Nat) (ds : List Int) (m : Int) (w : World) (h : Ils w w.heap.size A n ds) (hn : n ≤ maxLen) :
    Calls Try.prog 97 #[.slice A n c, .int .i64 m] w fun e w' => e = .returned (.bool (lstOk m ds)) ∧ Below w.heap.size w w' := by
  have hL := Lib.hid h.1
  have cN := Lib.hid (numbersOk_any A n c ds m w h hn)
  have hn9 : n ≤ 9223372036854775807 := by unfold maxLen at hn; omega
  by_cases h81 : n = 81
  · subst h81
    have hR := Lib.hid (show lstOk m ds = numsOk m ds by unfold lstOk; rw [decide_eq_true hL.out]; rfl)
    clear h hn
    go_enter Try.func97, Try.ntmps97
    go_wp2_with (first | (go_at_call 116; refine cN.out.mono ?_; rintro e w1 ⟨rfl, hb⟩))
    go_ret
    exact ⟨ret_bool hR.out, hb⟩
  · have hR := Lib.hid (show lstOk m ds = false by unfold lstOk; rw [decide_eq_false (by rw [hL.out]; exact h81)]; rfl)
    have h81' : ¬ (n : Int) = 81 := by omega
    have h82 : ((n : Int) == 81) = false := by simpa using h81'
    clear h hn
    go_enter Try.func97, Try.ntmps97
    go_wp2_with (first | (go_at_call 116; refine cN.out.mono ?_; rintro e w1 ⟨rfl, hb⟩))
    go_ret
    exact ⟨ret_bool hR.out, Below.refl _ _⟩

set_option maxHeartbeats 1000000 in
theorem tallyOf_any (A : Option Addr) (n c : Nat) (ds : List Int) (w : World) (h : Ils w w.heap.size A n ds) (hn : n ≤ maxLen) (h0 : ∀ x ∈ ds, 0 ≤ x) (hs : isum ds ≤ 1000000000000000000) :
    Calls Try.prog 81 #[.slice A n c] w fun e w' => e = .returned (.agg #[.int .i64 (isum ds), .int .i64 (gcdF ds)]) ∧ Below w.heap.size w w' := by
  have hI := Lib.hid h
  have hT := Lib.hid (show ds.take n = ds from List.take_of_length_le (by rw [h.1]; exact Nat.le_refl _))
  have hn9 : n ≤ 9223372036854775807 := by unfold maxLen at hn; omega
  have hP := Lib.hid (isum_le h0)
  have hD1 := Lib.hid (show ∀ x ∈ ds, 0 ≤ x ∧ x ≤ 1000000000000000000 from fun x hx => by
    have h1 := h0 x hx
    have h2 := rsum_ge (v := fun _ => 1) (fun _ => by decide) 0 h0 x hx
    rw [rsum_one'] at h2
    omega)
  have hG := Lib.hid (gcdF_part hD1.out (by decide))
  have hB0 : Below w.heap.size w ((w.alloc (.cells #[.int .i64 0, .int .i64 0] 95)).alloc (.cells #[.int .i64 0, .int .i64 0] 95)) := ((Below.refl _ _).alloc (Nat.le_refl _) _).alloc (by simp) _
  have hR0 := Lib.hid ((Has.new w 95 #[.int .i64 0, .int .i64 0]).alloc (.cells #[.int .i64 0, .int .i64 0] 95))
  have hV0 := Lib.hid (show Has ((w.alloc (.cells #[.int .i64 0, .int .i64 0] 95)).alloc (.cells #[.int .i64 0, .int .i64 0] 95)) (w.heap.size + 1) 95 #[.int .i64 0, .int .i64 0] from by
    have := Has.new (w.alloc (.cells #[.int .i64 0, .int .i64 0] 95)) 95 #[.int .i64 0, .int .i64 0]
    simpa using this)
  have hBh := Lib.hid hB0
  clear h hn h0 hB0
  go_enter Try.func81, Try.ntmps81
  go_wp2_with fail
  go_loopg [8] n (fun gn v wr => ∃ k : Nat, k ≤ n ∧ gn = n - k ∧ v = .int .i64 k ∧ Has wr w.heap.size 95 #[.int .i64 0, .int .i64 0] ∧ Has wr (w.heap.size + 1) 95 #[.int .i64 (isum (ds.take k)), .int .i64 (gcdF (ds.take k))] ∧ Below w.heap.size w wr)
  case atStart => exact ⟨0, Nat.zero_le _, rfl, rfl, hR0.out, hV0.out, hBh.out⟩
  case round =>
    obtain ⟨k, hk, hgn, rfl, hR, hV, hB⟩ := hrel
    have hgk : gk = n - k := hgn
    have hB' := Lib.hid hB
    have hR' := Lib.hid hR
    have hV' := Lib.hid hV
    clear hgn
    by_cases hlt : k < n
    · obtain ⟨g, off, d, rfl, hg, hd, c0⟩ := (hI.out.below hB).at_ hlt
      have h1 := hP.out k
      have h2 := hP.out (k + 1)
      have h3 := hG.out k
      have h4 := hD1.out d (List.mem_of_getElem? hd)
      rw [isum_take hd] at h2
      have hS := Lib.hid (isum_take hd)
      have hF := Lib.hid (gcdF_take hd)
      have cC := Lib.hid (fun wx => commonOf_any (gcdF (ds.take k)) d wx ⟨h3.1, by omega⟩ ⟨h4.1, by omega⟩)
      have hw : IntKind.i64.wrap (isum (ds.take k) + d) = isum (ds.take k) + d := by rw [IntKind.wrap_i64]; omega
      have hk0 : (0 : Int) ≤ (k : Int) := by omega
      have hk1 : (k : Int) < (n : Int) := by omega
      have cv0 := hV.cell 0
      have cv1 := hV.cell 1
      have fv0 := hV.frozen 0
      simp at cv0 cv1
      generalize isum (ds.take k) = sk at *
      generalize gcdF (ds.take k) = gk' at *
      clear hd hB hR hV
      go_wp2_with fail
      refine (cC.out _).mono ?_
      rintro e w2 ⟨rfl, q, rfl⟩
      have hV1 : Has ((wr.setCell ⟨w.heap.size + 1, 0, none⟩ (.int .i64 (sk + d))).drewN q) (w.heap.size + 1) 95 #[.int .i64 (sk + d), .int .i64 gk'] := hV'.out.put 0 (.int .i64 (sk + d))
      have hR1 : Has ((wr.setCell ⟨w.heap.size + 1, 0, none⟩ (.int .i64 (sk + d))).drewN q) w.heap.size 95 #[.int .i64 0, .int .i64 0] := hR'.out.far (p := ⟨w.heap.size + 1, 0, none⟩) (by simp) (.int .i64 (sk + d))
      have hB1 : Below w.heap.size w ((wr.setCell ⟨w.heap.size + 1, 0, none⟩ (.int .i64 (sk + d))).drewN q) := below_drewN (hB'.out.setCell (p := ⟨w.heap.size + 1, 0, none⟩) (by simp) (.int .i64 (sk + d))) q
      clear fv0 cv0 cv1
      generalize (wr.setCell ⟨w.heap.size + 1, 0, none⟩ (.int .i64 (sk + d))).drewN q = W1 at hV1 hR1 hB1 ⊢
      have hV2 := Lib.hid (hV1.put 1 (.int .i64 (gcdI gk' d)))
      have hR2 := Lib.hid (hR1.far (p := ⟨w.heap.size + 1, 1, none⟩) (by simp) (.int .i64 (gcdI gk' d)))
      have hB2 := Lib.hid (hB1.setCell (p := ⟨w.heap.size + 1, 1, none⟩) (by simp) (.int .i64 (gcdI gk' d)))
      have fx := hV1.frozen 1
      have cx := hV1.cell 1
      simp at cx
      clear hV1 hR1 hB1
      go_wp2_with fail
      go_roundg (n - (k + 1))
      case measure => omega
      case rel => exact ⟨k + 1, by omega, rfl, by go_num, hR2.out, by rw [hS.out, hF.out]; exact hV2.out, hB2.out⟩
    · obtain rfl : k = n := by omega
      rw [hT.out] at hV hV'
      have cv0 := hV.cell
      have cr0 := hR.cell
      have fr0 := hR.frozen
      simp at cv0
      clear hB hR hV
      go_wp2_with fail
      refine bodyPost_ret (v := .agg #[.int .i64 (isum ds), .int .i64 (gcdF ds)]) (by simp [results, Try.results81, go_sem, cr0]) rfl ⟨rfl, ?_⟩
      refine Below.setCell ?_ (by simp) _
      refine Below.setCell ?_ (by simp) _
      exact hB'.out

/-- The first k numbers divided. -/
def divK (ds : List Int) (g : Int) (k : Nat) : List Int := (ds.take k).map (fun d => d / g) ++ ds.drop k
theorem divK_zero (ds : List Int) (g : Int) : divK ds g 0 = ds := by simp [divK]
theorem divK_len (ds : List Int) (g : Int) (k : Nat) : (divK ds g k).length = ds.length := by
  unfold divK
  rw [List.length_append, List.length_map, List.length_take, List.length_drop]
  omega
theorem divK_at {ds : List Int} {g d : Int} {k : Nat} (h : ds[k]? = some d) : (divK ds g k)[k]? = some d := by
  obtain ⟨hl, he⟩ := List.getElem?_eq_some_iff.1 h
  unfold divK
  rw [List.getElem?_append_right (by rw [List.length_map, List.length_take]; omega), List.length_map, List.length_take, List.getElem?_drop, show k + (k - min k ds.length) = k by omega]
  exact h
theorem divK_set {ds : List Int} {g d : Int} {k : Nat} (h : ds[k]? = some d) : (divK ds g k).set k (d / g) = divK ds g (k + 1) := by
  obtain ⟨hl, he⟩ := List.getElem?_eq_some_iff.1 h
  have e : ((ds.take k).map (fun d => d / g)).length = k := by rw [List.length_map, List.length_take]; omega
  unfold divK
  rw [List.set_append_right _ _ (by omega), e, Nat.sub_self, List.drop_eq_getElem_cons hl, he, List.set_cons_zero, List.take_succ_eq_append_getElem hl, he, List.map_append, List.append_assoc]
  rfl
theorem divK_all {ds : List Int} {g : Int} {n : Nat} (h : ds.length ≤ n) : divK ds g n = ds.map (fun d => d / g) := by
  unfold divK
  rw [List.take_of_length_le h, List.drop_eq_nil_of_le h, List.append_nil]

set_option maxHeartbeats 1000000 in
theorem divided_any (A : Option Addr) (n c : Nat) (ds : List Int) (g : Int) (w : World) (h : Ils w w.heap.size A n ds) (hn : n ≤ 1048576) (hg : 0 ≤ g ∧ g ≤ 1000000000000000000) (h0 : ∀ x ∈ ds, 0 ≤ x ∧ x ≤ 1000000000000000000) :
    Calls Try.prog 117 #[.slice A n c, .int .i64 g] w (Wtsd w (divL ds g)) := by
  have hL := h.1
  have hD0 := Lib.hid h0
  have cC := Lib.hid (copied_any A n c ds w h hn)
  clear h h0
  by_cases hg0 : g = 0
  · have hR := Lib.hid (show divL ds g = ds by unfold divL; exact if_pos hg0)
    go_enter Try.func117, Try.ntmps117
    go_wp2_with fail
    refine cC.out.mono ?_
    rintro e w1 ⟨rfl, hO, hb⟩
    have hO' := Lib.hid hO
    clear hO
    go_wp2_with fail
    go_ret
    exact ⟨_, rfl, by rw [hR.out]; exact hO'.out, hb⟩
  · have hR := Lib.hid (show divL ds g = divK ds g n by rw [divK_all (by omega)]; unfold divL; exact if_neg hg0)
    have hgp : 0 < g := by omega
    go_enter Try.func117, Try.ntmps117
    go_wp2_with fail
    refine cC.out.mono ?_
    rintro e w1 ⟨rfl, hO, hb⟩
    have hO' := Lib.hid (show w1.ownsRow w.heap.size 3 1 (.slice (some ⟨w.heap.size, 0, none⟩) n n) n (ints (divK ds g 0)) from by
      rw [divK_zero]
      have := hO
      unfold IOwn at this
      rwa [hL] at this)
    have hb' := Lib.hid hb
    clear hO hb
    go_wp2_with fail
    go_loopg [14] n (fun gn v wr => ∃ k : Nat, k ≤ n ∧ gn = n - k ∧ v = .int .i64 k ∧ wr.ownsRow w.heap.size 3 1 (.slice (some ⟨w.heap.size, 0, none⟩) n n) n (ints (divK ds g k)) ∧ Below w.heap.size w wr)
    case atStart => exact ⟨0, Nat.zero_le _, rfl, rfl, hO'.out, hb'.out⟩
    case round =>
      obtain ⟨k, hk, hgn, rfl, hown, hB⟩ := hrel
      have hgk : gk = n - k := hgn
      have hB' := Lib.hid hB
      have hOw := Lib.hid hown
      clear hgn
      by_cases hlt : k < n
      · obtain ⟨d, hd⟩ : ∃ d, ds[k]? = some d := ⟨_, List.getElem?_eq_getElem (by omega)⟩
        obtain ⟨b, cur, hbe, hwb, hH, _, _, _, hcl⟩ := owns_open hown (by omega)
        have hbe' : w.heap.size = b := by injection hbe with e; injection e
        subst hbe'
        have hc1 := hcl k (by omega)
        rw [ints_get (divK_at hd)] at hc1
        have hfz := hH.frozen k
        have hd1 := hD0.out d (List.mem_of_getElem? hd)
        have hS := Lib.hid (divK_set (g := g) hd)
        have hO2 := Lib.hid (owns_set (x := d / g) hOw.out hlt)
        have hB2 := Lib.hid (hB'.out.setCell (p := ⟨w.heap.size, k, none⟩) (Nat.le_refl _) (.int .i64 (d / g)))
        have hk0 : (0 : Int) ≤ (k : Int) := by omega
        have hk1 : (k : Int) < (n : Int) := by omega
        clear hown hB hbe hwb hH hcl hd
        go_wp2_with fail
        go_roundg (n - (k + 1))
        case measure => omega
        case rel => exact ⟨k + 1, by omega, rfl, by go_num, by rw [← hS.out]; exact hO2.out, hB2.out⟩
      · obtain rfl : k = n := by omega
        have hF := Lib.hid (show Wtsd w (divL ds g) (.returned (.slice (some ⟨w.heap.size, 0, none⟩) k k)) wr from ⟨_, rfl, by rw [hR.out]; unfold IOwn; rw [divK_len, hL]; exact hown, hB⟩)
        clear hown hB
        go_wp2_with fail
        go_ret
        exact hF.out

theorem tally_common (x y : Int) (wx : World) : (Instr.field 95 (.agg #[.int .i64 x, .int .i64 y]) 1).run Try.prog wx = .ok (.int .i64 y) wx := by kernel_rfl
theorem Reduced_any (A : Option Addr) (n c : Nat) (ds : List Int) (w : World) (h : Ils w w.heap.size A n ds) (hn : n ≤ 1048576) :
    Calls Try.prog 64 #[.slice A n c] w (Wtsd w (reduced ds)) := by
  have hI := Lib.hid h
  have hL := Lib.hid h.1
  have cN := Lib.hid (numbersOk_any A n c ds 1000000000 w h (by unfold maxLen; omega))
  clear h
  cases hk : numsOk 1000000000 ds
  · have hR := Lib.hid (show reduced ds = [] by unfold reduced; rw [if_neg (by rw [hk]; decide)])
    rw [hk] at cN
    clear hk
    go_enter Try.func64, Try.ntmps64
    go_wp2_with fail
    refine cN.out.mono ?_
    rintro e w1 ⟨rfl, hb⟩
    go_wp2_with fail
    go_ret
    exact ⟨_, rfl, by rw [hR.out]; exact IOwn.nil _ _, hb⟩
  · have hR := Lib.hid (show reduced ds = divL ds (gcdF ds) by unfold reduced; rw [if_pos hk]; rfl)
    have hD := Lib.hid (numsOk_bd hk)
    have hG := gcdF_bd hD.out (by decide)
    have hS := Lib.hid (isum_top (by decide) hD.out)
    have hfd := tally_common
    rw [hk] at cN
    clear hk
    go_enter Try.func64, Try.ntmps64
    go_wp2_with fail
    refine cN.out.mono ?_
    rintro e w1 ⟨rfl, hb⟩
    have hI1 := Lib.hid ((hI.out.below hb).more hb.size)
    have hb1 := Lib.hid hb
    clear hb
    go_wp2_with fail
    refine (tallyOf_any A n c ds _ hI1.out (by unfold maxLen; omega) (fun x hx => (hD.out x hx).1) (by have := hS.out.2; rw [hL.out] at this; omega)).mono ?_
    rintro e w2 ⟨rfl, hb⟩
    have hI2 := Lib.hid ((hI1.out.below hb).more hb.size)
    have hb2 := Lib.hid (hb1.out.trans (hb.mono hb1.out.size))
    clear hb
    go_wp2_with fail
    refine (divided_any A n c ds (gcdF ds) _ hI2.out hn (by omega) (fun x hx => by have := hD.out x hx; omega)).mono ?_
    rintro e w3 ⟨v, rfl, hO, hb⟩
    have hF := Lib.hid (show Wtsd w (reduced ds) (.returned v) w3 from ⟨_, rfl, by rw [hR.out]; exact owns_le hO hb2.out.size, hb2.out.trans (hb.mono hb2.out.size)⟩)
    clear hO hb
    go_wp2_with fail
    go_ret
    exact hF.out

end Go.Proofs.Ytbndonfpdioibaa
