/- Two programs that are drawn: DrawSameAnswer. The laws' sum of numbers. -/
import Derived.Test.YtbjpodgmmpchjaaDw
import Derived.Test.YtbjpodgmmpchjaaJJ
namespace Go.Proofs.Ytbjpodgmmpchjaa
set_option maxRecDepth 100000
set_option linter.unusedVariables false
open Go.RowKit

/-- How drawing two programs ends. -/
def Tpd (w : World) (e : Ending) (w' : World) : Prop :=
  ∃ (v u : Value) (ps qs : List St), e = .returned (.tuple #[v, u]) ∧ Own w' w.heap.size v ps ∧ ps.length ≤ 12 ∧ Own w' w.heap.size u qs ∧ qs.length ≤ 12 ∧ Below w.heap.size w w'

set_option maxHeartbeats 1000000 in
theorem DrawSameAnswer_any (A : Option Addr) (n c : Nat) (w : World) (h : Byt w w.heap.size A n) (hn : n ≤ c) (hc : c ≤ maxLen) :
    Calls Try.prog 48 #[.slice A n c] w (Tpd w) := by
  have hO := Lib.hid (l40Open_any A n c _ h hn hc)
  obtain ⟨i0, hi0, hz0, hz1', hz2'⟩ := info_parts info_stmt
  clear h hc
  go_enter Try.func48, Try.ntmps48
  go_wp2_with fail
  refine (hO.out).mono ?_
  rintro e w1 ⟨rfl, ⟨n', hn', hrd⟩, hb1⟩
  have hz1 : w.heap.size < w1.heap.size := hrd.lt
  clear hO
  go_wp2_with fail
  refine (l1Any_rd A n' c 0 w.heap.size 4 w1 w hrd (by omega) hn' (by omega) hb1 rfl).mono ?_
  rintro e w2 ⟨v, ps, p2, rfl, hown, hl, hb2, hp2, hr2⟩
  obtain ⟨A', c', hv, hlc, hcm⟩ := hown.form
  subst hv
  have hO2 := Lib.hid (show w2.ownsRow (w.heap.size + 1) 64 7 (.slice A' ps.length c') ps.length (flat ps) from hown)
  have hB2 := Lib.hid hb2
  have hz2 := hb2.size
  have hlt2 := hr2.lt
  clear hown hrd hb1 hb2
  go_wp2_with fail
  refine (l1Copy_any A' ps.length c' _ ps _ hO2.out (by omega)).mono ?_
  rintro e w3 ⟨v3, rfl, hQ3, hb3⟩
  obtain ⟨A3, c3, hv, hlc3, hcm3⟩ := owns_form hQ3
  subst hv
  have hr3 := hr2.below hb3 hlt2
  have hO3 := Lib.hid (owns_but hO2.out (KeptBut.of_below hb3 (fun _ => False)) (fun _ _ h => h))
  have hQ3' := Lib.hid hQ3
  have hB3 := Lib.hid (hB2.out.trans (hb3.mono hz2))
  have hz3 := hb3.size
  clear hQ3 hb3 hr2
  go_wp2_with fail
  refine (pick_any w.heap.size A n' c p2 w.heap.size 3 _ hr3 (by omega) hn' (by decide)).mono ?_
  rintro e w4 ⟨k, rfl, hk0, hk1, hr4, hc4⟩
  have hO4 := Lib.hid (owns_chg hO3.out hc4 (Nat.lt_succ_self _))
  have hQ4 := Lib.hid (owns_chg hQ3'.out hc4 hlt2)
  have hB4 := Lib.hid (hB3.out.trans (hc4.below (Nat.le_refl _) (by omega)))
  have hz4 := hc4.size
  clear hr3 hc4
  by_cases hkp : 0 < k
  · go_wp2_with fail
    refine (pick_any w.heap.size A n' c (p2 + 1) w.heap.size 3 _ hr4 (by omega) hn' (by decide)).mono ?_
    rintro e w5 ⟨x, rfl, hx0, hx1, hr5, hc5⟩
    have hO5 := Lib.hid (owns_chg hO4.out hc5 (Nat.lt_succ_self _))
    have hQ5 := Lib.hid (owns_chg hQ4.out hc5 hlt2)
    have hB5 := Lib.hid (hB4.out.trans (hc5.below (Nat.le_refl _) (by omega)))
    have hz5 := hc5.size
    clear hr4 hc5
    go_wp2_with fail
    refine (pick_any w.heap.size A n' c (p2 + 2) w.heap.size 2 _ hr5 (by omega) hn' (by decide)).mono ?_
    rintro e w6 ⟨y, rfl, hy0, hy1, hr6, hc6⟩
    have hO6 := Lib.hid (owns_chg hO5.out hc6 (Nat.lt_succ_self _))
    have hQ6 := Lib.hid (show Own w6 w2.heap.size (.slice A3 ps.length c3) ps from owns_chg hQ5.out hc6 hlt2)
    have hB6 := Lib.hid (hB5.out.trans (hc6.below (Nat.le_refl _) (by omega)))
    have hz6 := hc6.size
    clear hr5 hr6 hc6
    have hQ7 := Lib.hid (hQ6.out.alloc (.cells #[.int .i64 4, .int .i64 3, .int .i64 0, .int .i64 0, .int .i64 (1 + x), .int .i64 y, .int .i64 1] 64))
    have hb7 := (Below.refl w2.heap.size w6).alloc (by omega) (.cells #[.int .i64 4, .int .i64 3, .int .i64 0, .int .i64 0, .int .i64 (1 + x), .int .i64 y, .int .i64 1] 64)
    have hNew := Lib.hid (new_stmt w6 (⟨4, 3, 0, 0, 1 + x, y, 1⟩ : St))
    go_wp2_with (at_builtin; refine wpList_append_own _ rfl (.tmp 16) (.tmp 24) 26 rfl w2.heap.size 64 i0 _ 7 56 Try.underlying26 hi0 hz0 hz1' hz2' rfl (by decide) (.slice A3 ps.length c3) _ _ rfl hQ7.out ⟨w6.heap.size, 0, none⟩ 1 1 (flat [(⟨4, 3, 0, 0, 1 + x, y, 1⟩ : St)]) ?hx ?c1 ?c2 ?c3 ?c4 ?c5 ?c6 ?_)
    case hx => first | rfl | simp [Act.eval]
    case c1 => rfl
    case c2 => first | exact hNew.out | (intro j u hu; simpa [flat, St.cells] using hu)
    case c3 => exact flat_one _
    case c4 => unfold maxLen; omega
    case c5 => omega
    case c6 => first | omega | (simp; omega)
    intro v' w7 hown' hgrow _
    have hN := hQ7.out.append_ (news := [(⟨4, 3, 0, 0, 1 + x, y, 1⟩ : St)]) hown' hgrow hb7 (by simp; omega)
    have hF := Lib.hid (show Tpd w (.returned (.tuple #[.slice A' ps.length c', v'])) w7 from ⟨_, v', ps, _, rfl, owns_le (owns_but hO6.out (show KeptBut w6 w7 (fun i => w2.heap.size ≤ i) from ⟨hN.2.os, hN.2.tape, hN.2.output, hN.2.size, fun i hi hn => hN.2.block i (by omega)⟩) (fun k hk e => by
      have h1 := (World.ownsRow.lt hO2.out k hk).2
      omega)) (Nat.le_succ _), by omega, owns_le hN.1 hz2, by rw [List.length_append]; show ps.length + 1 ≤ 12; omega, hB6.out.trans (hN.2.mono hz2)⟩)
    clear hown' hgrow hN
    go_wp2_with fail
    go_ret2
    exact hF.out
  · have hF := Lib.hid (show Tpd w (.returned (.tuple #[.slice A' ps.length c', .slice A3 ps.length c3])) w4 from ⟨_, _, ps, ps, rfl, owns_le hO4.out (Nat.le_succ _), by omega, owns_le hQ4.out hz2, by omega, hB4.out⟩)
    go_wp2_with fail
    go_ret2
    exact hF.out

theorem wcSum_any (A : Option Addr) (n c : Nat) (ds : List Int) (w : World) (h : Ils w w.heap.size A n ds) (hn : n ≤ 1048576) (h0 : ∀ x ∈ ds, 0 ≤ x) (ht : isum ds ≤ 1000000000000000000) :
    Calls Try.prog 37 #[.slice A n c] w fun e w' => e = .returned (.int .i64 (isum ds)) ∧ Below w.heap.size w w' := by
  have hI := Lib.hid h
  have hP := Lib.hid (isum_le h0)
  have hT := Lib.hid (show isum (ds.take n) = isum ds by rw [List.take_of_length_le (by rw [h.1]; exact Nat.le_refl _)])
  clear h h0
  go_enter Try.func37, Try.ntmps37
  go_wp2_with fail
  go_loopg [3, 8] n (fun gn o v wr => ∃ k : Nat, k ≤ n ∧ gn = n - k ∧ v = .int .i64 k ∧ o = .int .i64 (isum (ds.take k)) ∧ Below w.heap.size w wr)
  case atStart => exact ⟨0, Nat.zero_le _, rfl, rfl, rfl, Below.refl _ _⟩
  case round =>
    obtain ⟨k, hk, hgn, rfl, rfl, hB⟩ := hrel
    have hgk : gk = n - k := hgn
    have hB' := Lib.hid hB
    clear hgn
    by_cases hlt : k < n
    · obtain ⟨g, off, d, rfl, hg, hd, c0⟩ := (hI.out.below hB).at_ hlt
      have h1 := (hP.out k)
      have h2 := (hP.out (k + 1))
      rw [isum_take hd] at h2
      have hR := Lib.hid (isum_take hd)
      have hw : IntKind.i64.wrap (isum (ds.take k) + d) = isum (ds.take k) + d := by rw [IntKind.wrap_i64]; omega
      have hk0 : (0 : Int) ≤ (k : Int) := by omega
      have hk1 : (k : Int) < (n : Int) := by omega
      clear hd hB
      go_wp2_with fail
      go_roundg (n - (k + 1))
      case measure => omega
      case rel => exact ⟨k + 1, by omega, rfl, by go_num, by rw [hR.out], hB'.out⟩
    · obtain rfl : k = n := by omega
      rw [hT.out]
      clear hB
      go_wp2_with fail
      go_ret
      exact ⟨rfl, hB'.out⟩

end Go.Proofs.Ytbjpodgmmpchjaa
