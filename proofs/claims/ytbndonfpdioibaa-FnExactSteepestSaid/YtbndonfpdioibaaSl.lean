/- Which weights are used, the model: l12Uses. -/
import Derived.Test.YtbndonfpdioibaaS9
import Derived.Test.YtbndonfpdioibaaSh
import Derived.Test.YtbndonfpdioibaaRa
namespace Go.Proofs.Ytbndonfpdioibaa
set_option maxRecDepth 100000
set_option linter.unusedVariables false
open Go.RowKit

theorem map_next9 (f : Nat → Int) (k : Nat) : (List.range (k + 1)).map f = (List.range k).map f ++ [f k] := by rw [List.range_succ, List.map_append]; rfl
set_option maxHeartbeats 4000000 in
theorem l12Uses_any (A : Option Addr) (m c : Nat) (os : List St) (a : Nat) (t : St) (w : World) (hL : Lst w w.heap.size A m os) (hm : os.length = m) (h12 : m ≤ 12) (hok : ∀ s ∈ os, s.ok = true ∧ s.notLoop = true) (ht : os[a]? = some t) (htw : t.hasW = true) :
    Calls Try.prog 77 #[.slice A m c, .int .i64 a] w fun e w' => ∃ v, e = .returned v ∧ IOwn w' w.heap.size v (usesL os a t) ∧ Below w.heap.size w w' := by
  have hok1 : ∀ s ∈ os, s.ok = true := fun s hs => (hok s hs).1
  have ham : a < m := by rw [← hm]; exact (List.getElem?_eq_some_iff.1 ht).1
  have hbd := Lib.hid (fun (q : Nat) (hq : q < 3) => usN_bd h12 hm hok1 ht htw (q := q) hq)
  have hts := Lib.hid (fun (q : Nat) => tsl_eq ht htw hok1 q)
  have hnn := Lib.hid (fun (q : Nat) => slopes_nonneg hok1 a (q : Int))
  have hmx := Lib.hid (show ∀ q : Nat, q < 3 → isum (slopesL os a (q : Int)) ≤ 150094635296999121 from fun q hq => by rw [slopes_sum hok1]; exact (gro_top h12 hm hok ht htw (c := (q : Int)) (by omega)).2)
  have hus := Lib.hid (usN_list ht htw hok1)
  obtain ⟨g, off, s', rfl, hg, hs', hat⟩ := hL.at_ ham
  obtain rfl : s' = t := Option.some.inj (hs'.symm.trans ht)
  have hcy := Lib.hid (show ∀ (q : Nat) (wx : World), q < 3 → Below w.heap.size w wx → wx.cell? ⟨g, off + a * 7 + 4 + q, none⟩ = some (.int .i64 (s'.wgt q)) from fun q wx hq hb => by
    have h1 := (show s'.cells[4 + q]? = some (.int .i64 (s'.wgt q)) by
      obtain rfl | rfl | rfl : q = 0 ∨ q = 1 ∨ q = 2 := by omega
      all_goals (unfold St.wgt; rfl))
    obtain ⟨g9, off9, s9, e9, _, hs9, hat9⟩ := (hL.below hb).at_ ham
    injection e9 with e9
    injection e9 with e9 e9b
    subst e9
    subst e9b
    obtain rfl : s9 = s' := Option.some.inj (hs9.symm.trans ht)
    obtain ⟨_, _, _, _, c4, c5, c6⟩ := hat9.open_
    obtain rfl | rfl | rfl : q = 0 ∨ q = 1 ∨ q = 2 := by omega
    all_goals (unfold St.wgt; first | exact c4 | exact c5 | exact c6))
  have hPu := Lib.hid (fun (wx : World) (q : Nat) (hx : Lst wx wx.heap.size (some ⟨g, off, none⟩) m os) => l12Push_any (some ⟨g, off, none⟩) m c wx.heap.size os a (q : Int) s' wx hx hm h12 hok ht htw (Nat.le_refl _))
  have hLs := Lib.hid hL
  have hb0 : Below w.heap.size w (w.alloc (.cells #[] 3)) := (Below.refl _ _).alloc (Nat.le_refl _) _
  have hO0 := Lib.hid (IOwn.of_has (ds := []) (n := 0) (base := w.heap.size) (Has.new w 3 #[]) rfl rfl (Nat.le_refl _) (by decide))
  have hB0 := Lib.hid hb0
  have ha0 : (0 : Int) ≤ (a : Int) := by omega
  have ha1 : (a : Int) < (m : Int) := by omega
  clear hL hb0 hat hs' ht htw hok hok1 hm
  obtain ⟨i0, hi0, hi1, hi2, hi3⟩ := info_parts info_int
  go_enter Try.func77, Try.ntmps77
  go_wp2_with fail
  generalize hgo : w.heap.size = go at hO0 ⊢
  have hgoh := Lib.hid hgo
  clear hgo
  generalize w.alloc (.cells #[] 3) = W1 at hO0 hB0 ⊢
  go_loopg [5, 6] 3 (fun gn v i wr => ∃ k : Nat, k ≤ 3 ∧ gn = 3 - k ∧ i = .int .i64 k ∧ IOwn wr go v ((List.range k).map (usN os a s')) ∧ Below w.heap.size w wr)
  case atStart => exact ⟨0, Nat.zero_le _, rfl, rfl, hO0.out, hB0.out⟩
  case round =>
    obtain ⟨k, hk, hgn, rfl, hO, hB⟩ := hrel
    have hgk : gk = 3 - k := hgn
    clear hgn
    obtain ⟨E2, e2, hvo, _, _⟩ := hO.form
    have hlk : ((List.range k).map (usN os a s')).length = k := by simp
    rw [hlk] at hvo
    subst hvo
    by_cases hlt : k < 3
    · have hSn := Lib.hid (map_next9 (usN os a s') k)
      have hk0 : (0 : Int) ≤ (k : Int) := by omega
      have hk1 : (k : Int) < 3 := by omega
      have hgor : go ≤ wr.heap.size := by rw [← hgoh.out]; exact hB.size
      have hOh := Lib.hid hO
      have hBh := Lib.hid hB
      have hPk := Lib.hid (hPu.out wr k ((hLs.out.below hB).more hB.size))
      clear hO hB
      go_wp2_with fail
      refine (hPk.out).mono ?_
      rintro e w5 ⟨v1, u1, ds, rfl, _, ho2, hb5⟩
      obtain ⟨A6, c6, hv6, _, _⟩ := ho2.form
      rw [slopesL_len] at hv6
      subst hv6
      have hO5 := Lib.hid (hOh.out.below hb5)
      have hB5 := Lib.hid (hBh.out.trans (hb5.mono hBh.out.size))
      have hI5 := Lib.hid ho2.lst
      have hg5 : go ≤ w5.heap.size := Nat.le_trans hgor hb5.size
      have hx := hbd.out k hlt
      have hue : usN os a s' k = isum (slopesL os a (k : Int)) * s'.wgt k := by rw [← hts.out k]; rfl
      have hnk := Lib.hid (hnn.out k)
      have hmk := Lib.hid (hmx.out k hlt)
      rw [hue] at hx hSn
      have hwu : IntKind.i64.wrap (isum (slopesL os a (k : Int)) * s'.wgt k) = isum (slopesL os a (k : Int)) * s'.wgt k := by rw [IntKind.wrap_i64]; omega
      have hsl := Lib.hid (slopesL_len os a (k : Int))
      clear ho2 hb5 hOh hBh hPk hue
      generalize slopesL os a (k : Int) = sl at *
      have hcyk := Lib.hid (fun (wx : World) (hb : Below w.heap.size w wx) => hcy.out k wx hlt hb)
      generalize s'.wgt k = y at *
      go_wp2_with fail
      refine wp_region_any (by kernel_rfl) ?_
      change wpAny _ _ _ _ _ _ _ (World.drew _)
      refine wpAny_tail (n := 12) (c := 1) (I := fun listed aq wx => listed.size = 14 ∧ ∃ v21 v22 v23 v24 v25 v26 v27 v28 v29 v30 v31 v32 : Value, aq = { tmps := #[.slice (some ⟨g, off, none⟩) m c, .int .i64 ↑a, undef, undef, .slice none 0 0, .slice E2 k e2, .int .i64 ↑k, v1, .slice A6 81 c6, .slice (some ⟨go, 0, none⟩) 0 0, .int .i64 ↑k, .bool true, u12, u13, .tuple #[v1, .slice A6 81 c6], .slice (some ⟨g, off, none⟩) m c, .int .i64 ↑a, .int .i64 ↑k, .tuple #[v1, .slice A6 81 c6], v1, .slice A6 81 c6, v21, v22, v23, v24, v25, v26, v27, v28, v29, v30, v31, v32, u33, undef], defers := [] } ∧ (listed.getD 0 false = true → v21 = .slice E2 k e2) ∧ (listed.getD 1 false = true → v22 = .slice A6 81 c6) ∧ (listed.getD 2 false = true → v23 = .int .i64 (isum sl)) ∧ (listed.getD 3 false = true → v24 = .slice (some ⟨g, off, none⟩) m c) ∧ (listed.getD 4 false = true → v25 = .int .i64 ↑a) ∧ (listed.getD 5 false = true → v26 = .int .i64 ↑k) ∧ (listed.getD 6 false = true → v27 = .pointer (some ⟨g, off + a * 7, none⟩)) ∧ (listed.getD 7 false = true → v28 = .pointer (some ⟨g, off + a * 7 + 4, none⟩)) ∧ (listed.getD 8 false = true → v29 = .pointer (some ⟨g, off + a * 7 + 4 + k, none⟩)) ∧ (listed.getD 9 false = true → v30 = .int .i64 y) ∧ (listed.getD 10 false = true → v31 = .int .i64 (isum sl * y)) ∧ (listed.getD 11 false = true → (∃ g9, v32 = .slice (some ⟨g9, 0, none⟩) 1 1 ∧ Has wx g9 3 #[.int .i64 (isum sl * y)])) ∧ Below w5.heap.size w5 wx) rfl (by kernel_rfl) (by kernel_rfl) (by kernel_rfl) ?hs ?hl _ _ _ ?stq rfl (by decide) _ (by decide)
      case stq =>
        refine ⟨rfl, u21, u22, u23, u24, u25, u26, u27, u28, u29, u30, u31, u32, rfl, ?_, ?_, ?_, ?_, ?_, ?_, ?_, ?_, ?_, ?_, ?_, ?_, (Below.refl _ _).drew⟩ <;> (intro e; exact absurd e (by decide))
      case hs =>
        rintro listed aq wx ⟨hz, v21, v22, v23, v24, v25, v26, v27, v28, v29, v30, v31, v32, rfl, hII⟩ i hin hi
        obtain ⟨h0, o, ho, hd⟩ := mem_ready.1 hi
        have K0 := Lib.hid hII.1
        have K1 := Lib.hid hII.2.1
        have K2 := Lib.hid hII.2.2.1
        have K3 := Lib.hid hII.2.2.2.1
        have K4 := Lib.hid hII.2.2.2.2.1
        have K5 := Lib.hid hII.2.2.2.2.2.1
        have K6 := Lib.hid hII.2.2.2.2.2.2.1
        have K7 := Lib.hid hII.2.2.2.2.2.2.2.1
        have K8 := Lib.hid hII.2.2.2.2.2.2.2.2.1
        have K9 := Lib.hid hII.2.2.2.2.2.2.2.2.2.1
        have K10 := Lib.hid hII.2.2.2.2.2.2.2.2.2.2.1
        have K11 := Lib.hid hII.2.2.2.2.2.2.2.2.2.2.2.1
        have hB : Below w5.heap.size w5 wx := hII.2.2.2.2.2.2.2.2.2.2.2.2
        have hne := Lib.hid (fun k (hk : i ≠ k) => @listed_ne listed i k hk)
        have h0f : listed.getD i false = false := by rw [Array.getD_eq_getD_getElem?, getD_false h0]; rfl
        clear hII hi h0
        rcases (by omega : i = 0 ∨ i = 1 ∨ i = 2 ∨ i = 3 ∨ i = 4 ∨ i = 5 ∨ i = 6 ∨ i = 7 ∨ i = 8 ∨ i = 9 ∨ i = 10 ∨ i = 11) with rfl | rfl | rfl | rfl | rfl | rfl | rfl | rfl | rfl | rfl | rfl | rfl
        · cases ho
          refine wpOp_step rfl (fun K hK => ?_)
          go_simp
          refine hK _ _ ⟨by simpa using hz, .slice E2 k e2, v22, v23, v24, v25, v26, v27, v28, v29, v30, v31, v32, rfl, ?_⟩
          exact ⟨fun _ => rfl, fun e => K1.out (hne.out 1 (by decide) e), fun e => K2.out (hne.out 2 (by decide) e), fun e => K3.out (hne.out 3 (by decide) e), fun e => K4.out (hne.out 4 (by decide) e), fun e => K5.out (hne.out 5 (by decide) e), fun e => K6.out (hne.out 6 (by decide) e), fun e => K7.out (hne.out 7 (by decide) e), fun e => K8.out (hne.out 8 (by decide) e), fun e => K9.out (hne.out 9 (by decide) e), fun e => K10.out (hne.out 10 (by decide) e), fun e => K11.out (hne.out 11 (by decide) e), hB⟩
        · cases ho
          refine wpOp_step rfl (fun K hK => ?_)
          go_simp
          refine hK _ _ ⟨by simpa using hz, v21, .slice A6 81 c6, v23, v24, v25, v26, v27, v28, v29, v30, v31, v32, rfl, ?_⟩
          exact ⟨fun e => K0.out (hne.out 0 (by decide) e), fun _ => rfl, fun e => K2.out (hne.out 2 (by decide) e), fun e => K3.out (hne.out 3 (by decide) e), fun e => K4.out (hne.out 4 (by decide) e), fun e => K5.out (hne.out 5 (by decide) e), fun e => K6.out (hne.out 6 (by decide) e), fun e => K7.out (hne.out 7 (by decide) e), fun e => K8.out (hne.out 8 (by decide) e), fun e => K9.out (hne.out 9 (by decide) e), fun e => K10.out (hne.out 10 (by decide) e), fun e => K11.out (hne.out 11 (by decide) e), hB⟩
        · cases ho
          have d1 := hd ⟨1, .data⟩ (by simp) rfl
          obtain rfl := K1.out d1
          refine wpOp_step rfl (fun K hK => ?_)
          go_simp
          go_at_call 80
          refine (l3Sum_any A6 81 c6 sl _ ((hI5.out.below hB).more hB.size) hsl.out (by omega) hnk.out (by have := hmk.out; omega)).mono ?_
          rintro e w3 ⟨rfl, hb3⟩
          refine hK _ _ ⟨by simpa using hz, v21, .slice A6 81 c6, .int .i64 (isum sl), v24, v25, v26, v27, v28, v29, v30, v31, v32, rfl, ?_⟩
          exact ⟨fun e => K0.out (hne.out 0 (by decide) e), fun e => K1.out (hne.out 1 (by decide) e), fun _ => rfl, fun e => K3.out (hne.out 3 (by decide) e), fun e => K4.out (hne.out 4 (by decide) e), fun e => K5.out (hne.out 5 (by decide) e), fun e => K6.out (hne.out 6 (by decide) e), fun e => K7.out (hne.out 7 (by decide) e), fun e => K8.out (hne.out 8 (by decide) e), fun e => K9.out (hne.out 9 (by decide) e), fun e => K10.out (hne.out 10 (by decide) e), fun e => (by obtain ⟨y1, y2, y3⟩ := K11.out (hne.out 11 (by decide) e); exact ⟨y1, y2, y3.kept hb3⟩), hB.trans (hb3.mono hB.size)⟩
        · cases ho
          refine wpOp_step rfl (fun K hK => ?_)
          go_simp
          refine hK _ _ ⟨by simpa using hz, v21, v22, v23, .slice (some ⟨g, off, none⟩) m c, v25, v26, v27, v28, v29, v30, v31, v32, rfl, ?_⟩
          exact ⟨fun e => K0.out (hne.out 0 (by decide) e), fun e => K1.out (hne.out 1 (by decide) e), fun e => K2.out (hne.out 2 (by decide) e), fun _ => rfl, fun e => K4.out (hne.out 4 (by decide) e), fun e => K5.out (hne.out 5 (by decide) e), fun e => K6.out (hne.out 6 (by decide) e), fun e => K7.out (hne.out 7 (by decide) e), fun e => K8.out (hne.out 8 (by decide) e), fun e => K9.out (hne.out 9 (by decide) e), fun e => K10.out (hne.out 10 (by decide) e), fun e => K11.out (hne.out 11 (by decide) e), hB⟩
        · cases ho
          refine wpOp_step rfl (fun K hK => ?_)
          go_simp
          refine hK _ _ ⟨by simpa using hz, v21, v22, v23, v24, .int .i64 ↑a, v26, v27, v28, v29, v30, v31, v32, rfl, ?_⟩
          exact ⟨fun e => K0.out (hne.out 0 (by decide) e), fun e => K1.out (hne.out 1 (by decide) e), fun e => K2.out (hne.out 2 (by decide) e), fun e => K3.out (hne.out 3 (by decide) e), fun _ => rfl, fun e => K5.out (hne.out 5 (by decide) e), fun e => K6.out (hne.out 6 (by decide) e), fun e => K7.out (hne.out 7 (by decide) e), fun e => K8.out (hne.out 8 (by decide) e), fun e => K9.out (hne.out 9 (by decide) e), fun e => K10.out (hne.out 10 (by decide) e), fun e => K11.out (hne.out 11 (by decide) e), hB⟩
        · cases ho
          refine wpOp_step rfl (fun K hK => ?_)
          go_simp
          refine hK _ _ ⟨by simpa using hz, v21, v22, v23, v24, v25, .int .i64 ↑k, v27, v28, v29, v30, v31, v32, rfl, ?_⟩
          exact ⟨fun e => K0.out (hne.out 0 (by decide) e), fun e => K1.out (hne.out 1 (by decide) e), fun e => K2.out (hne.out 2 (by decide) e), fun e => K3.out (hne.out 3 (by decide) e), fun e => K4.out (hne.out 4 (by decide) e), fun _ => rfl, fun e => K6.out (hne.out 6 (by decide) e), fun e => K7.out (hne.out 7 (by decide) e), fun e => K8.out (hne.out 8 (by decide) e), fun e => K9.out (hne.out 9 (by decide) e), fun e => K10.out (hne.out 10 (by decide) e), fun e => K11.out (hne.out 11 (by decide) e), hB⟩
        · cases ho
          have d3 := hd ⟨3, .data⟩ (by simp) rfl
          have d4 := hd ⟨4, .data⟩ (by simp) rfl
          obtain rfl := K3.out d3
          obtain rfl := K4.out d4
          refine wpOp_step rfl (fun K hK => ?_)
          go_simp
          refine hK _ _ ⟨by simpa using hz, v21, v22, v23, .slice (some ⟨g, off, none⟩) m c, .int .i64 ↑a, v26, .pointer (some ⟨g, off + a * 7, none⟩), v28, v29, v30, v31, v32, rfl, ?_⟩
          exact ⟨fun e => K0.out (hne.out 0 (by decide) e), fun e => K1.out (hne.out 1 (by decide) e), fun e => K2.out (hne.out 2 (by decide) e), fun e => K3.out (hne.out 3 (by decide) e), fun e => K4.out (hne.out 4 (by decide) e), fun e => K5.out (hne.out 5 (by decide) e), fun _ => rfl, fun e => K7.out (hne.out 7 (by decide) e), fun e => K8.out (hne.out 8 (by decide) e), fun e => K9.out (hne.out 9 (by decide) e), fun e => K10.out (hne.out 10 (by decide) e), fun e => K11.out (hne.out 11 (by decide) e), hB⟩
        · cases ho
          have d6 := hd ⟨6, .data⟩ (by simp) rfl
          obtain rfl := K6.out d6
          refine wpOp_step rfl (fun K hK => ?_)
          go_simp
          refine hK _ _ ⟨by simpa using hz, v21, v22, v23, v24, v25, v26, .pointer (some ⟨g, off + a * 7, none⟩), .pointer (some ⟨g, off + a * 7 + 4, none⟩), v29, v30, v31, v32, rfl, ?_⟩
          exact ⟨fun e => K0.out (hne.out 0 (by decide) e), fun e => K1.out (hne.out 1 (by decide) e), fun e => K2.out (hne.out 2 (by decide) e), fun e => K3.out (hne.out 3 (by decide) e), fun e => K4.out (hne.out 4 (by decide) e), fun e => K5.out (hne.out 5 (by decide) e), fun e => K6.out (hne.out 6 (by decide) e), fun _ => rfl, fun e => K8.out (hne.out 8 (by decide) e), fun e => K9.out (hne.out 9 (by decide) e), fun e => K10.out (hne.out 10 (by decide) e), fun e => K11.out (hne.out 11 (by decide) e), hB⟩
        · cases ho
          have d7 := hd ⟨7, .data⟩ (by simp) rfl
          have d5 := hd ⟨5, .data⟩ (by simp) rfl
          obtain rfl := K7.out d7
          obtain rfl := K5.out d5
          refine wpOp_step rfl (fun K hK => ?_)
          go_simp
          refine hK _ _ ⟨by simpa using hz, v21, v22, v23, v24, v25, .int .i64 ↑k, v27, .pointer (some ⟨g, off + a * 7 + 4, none⟩), .pointer (some ⟨g, off + a * 7 + 4 + k, none⟩), v30, v31, v32, rfl, ?_⟩
          exact ⟨fun e => K0.out (hne.out 0 (by decide) e), fun e => K1.out (hne.out 1 (by decide) e), fun e => K2.out (hne.out 2 (by decide) e), fun e => K3.out (hne.out 3 (by decide) e), fun e => K4.out (hne.out 4 (by decide) e), fun e => K5.out (hne.out 5 (by decide) e), fun e => K6.out (hne.out 6 (by decide) e), fun e => K7.out (hne.out 7 (by decide) e), fun _ => rfl, fun e => K9.out (hne.out 9 (by decide) e), fun e => K10.out (hne.out 10 (by decide) e), fun e => K11.out (hne.out 11 (by decide) e), hB⟩
        · cases ho
          have d8 := hd ⟨8, .data⟩ (by simp) rfl
          obtain rfl := K8.out d8
          have hyc := hcyk.out wx (hB5.out.trans (hB.mono hB5.out.size))
          refine wpOp_step rfl (fun K hK => ?_)
          go_simp
          refine hK _ _ ⟨by simpa using hz, v21, v22, v23, v24, v25, v26, v27, v28, .pointer (some ⟨g, off + a * 7 + 4 + k, none⟩), .int .i64 y, v31, v32, rfl, ?_⟩
          exact ⟨fun e => K0.out (hne.out 0 (by decide) e), fun e => K1.out (hne.out 1 (by decide) e), fun e => K2.out (hne.out 2 (by decide) e), fun e => K3.out (hne.out 3 (by decide) e), fun e => K4.out (hne.out 4 (by decide) e), fun e => K5.out (hne.out 5 (by decide) e), fun e => K6.out (hne.out 6 (by decide) e), fun e => K7.out (hne.out 7 (by decide) e), fun e => K8.out (hne.out 8 (by decide) e), fun _ => rfl, fun e => K10.out (hne.out 10 (by decide) e), fun e => K11.out (hne.out 11 (by decide) e), hB⟩
        · cases ho
          have d2 := hd ⟨2, .data⟩ (by simp) rfl
          have d9 := hd ⟨9, .data⟩ (by simp) rfl
          obtain rfl := K2.out d2
          obtain rfl := K9.out d9
          refine wpOp_step rfl (fun K hK => ?_)
          go_simp
          refine hK _ _ ⟨by simpa using hz, v21, v22, .int .i64 (isum sl), v24, v25, v26, v27, v28, v29, .int .i64 y, .int .i64 (isum sl * y), v32, rfl, ?_⟩
          exact ⟨fun e => K0.out (hne.out 0 (by decide) e), fun e => K1.out (hne.out 1 (by decide) e), fun e => K2.out (hne.out 2 (by decide) e), fun e => K3.out (hne.out 3 (by decide) e), fun e => K4.out (hne.out 4 (by decide) e), fun e => K5.out (hne.out 5 (by decide) e), fun e => K6.out (hne.out 6 (by decide) e), fun e => K7.out (hne.out 7 (by decide) e), fun e => K8.out (hne.out 8 (by decide) e), fun e => K9.out (hne.out 9 (by decide) e), fun _ => rfl, fun e => K11.out (hne.out 11 (by decide) e), hB⟩
        · cases ho
          have d10 := hd ⟨10, .data⟩ (by simp) rfl
          obtain rfl := K10.out d10
          refine wpOp_step rfl (fun K hK => ?_)
          go_simp
          refine hK _ _ ⟨by simpa using hz, v21, v22, v23, v24, v25, v26, v27, v28, v29, v30, .int .i64 (isum sl * y), .slice (some ⟨wx.heap.size, 0, none⟩) 1 1, rfl, ?_⟩
          exact ⟨fun e => K0.out (hne.out 0 (by decide) e), fun e => K1.out (hne.out 1 (by decide) e), fun e => K2.out (hne.out 2 (by decide) e), fun e => K3.out (hne.out 3 (by decide) e), fun e => K4.out (hne.out 4 (by decide) e), fun e => K5.out (hne.out 5 (by decide) e), fun e => K6.out (hne.out 6 (by decide) e), fun e => K7.out (hne.out 7 (by decide) e), fun e => K8.out (hne.out 8 (by decide) e), fun e => K9.out (hne.out 9 (by decide) e), fun e => K10.out (hne.out 10 (by decide) e), fun _ => ⟨_, rfl, Has.new _ _ _⟩, hB.alloc hB.size _⟩
      case hl =>
        rintro listed aq wx ⟨hz, v21, v22, v23, v24, v25, v26, v27, v28, v29, v30, v31, v32, rfl, hII⟩ hall
        have K0 := Lib.hid hII.1
        have K1 := Lib.hid hII.2.1
        have K2 := Lib.hid hII.2.2.1
        have K3 := Lib.hid hII.2.2.2.1
        have K4 := Lib.hid hII.2.2.2.2.1
        have K5 := Lib.hid hII.2.2.2.2.2.1
        have K6 := Lib.hid hII.2.2.2.2.2.2.1
        have K7 := Lib.hid hII.2.2.2.2.2.2.2.1
        have K8 := Lib.hid hII.2.2.2.2.2.2.2.2.1
        have K9 := Lib.hid hII.2.2.2.2.2.2.2.2.2.1
        have K10 := Lib.hid hII.2.2.2.2.2.2.2.2.2.2.1
        have K11 := Lib.hid hII.2.2.2.2.2.2.2.2.2.2.2.1
        have hB : Below w5.heap.size w5 wx := hII.2.2.2.2.2.2.2.2.2.2.2.2
        clear hII
        obtain rfl := K0.out (hall 0 (by decide))
        obtain rfl := K1.out (hall 1 (by decide))
        obtain rfl := K2.out (hall 2 (by decide))
        obtain rfl := K3.out (hall 3 (by decide))
        obtain rfl := K4.out (hall 4 (by decide))
        obtain rfl := K5.out (hall 5 (by decide))
        obtain rfl := K6.out (hall 6 (by decide))
        obtain rfl := K7.out (hall 7 (by decide))
        obtain rfl := K8.out (hall 8 (by decide))
        obtain rfl := K9.out (hall 9 (by decide))
        obtain rfl := K10.out (hall 10 (by decide))
        obtain ⟨g9, rfl, hg9⟩ := K11.out (hall 11 (by decide))
        clear hall K0 K1 K2 K3 K4 K5 K6 K7 K8 K9 K10 K11
        have hO6 : wx.ownsRow go 3 1 (.slice E2 k e2) k (ints ((List.range k).map (usN os a s'))) := by have h1 := hO5.out.below hB; unfold IOwn at h1; rwa [hlk] at h1
        unfold wpSeq
        refine wpOp_step rfl (fun K0 hK0 => ?_)
        refine step_append_lies _ rfl (.tmp 21) (.tmp 32) 24 rfl go 3 i0 _ 1 8 Try.underlying24 hi0 hi1 hi2 hi3 rfl (by decide) (.slice E2 k e2) k (ints ((List.range k).map (usN os a s'))) (by simp [Act.eval]) hO6 ⟨g9, 0, none⟩ 1 1 [.int .i64 (isum sl * y)] (by simp [Act.eval]) rfl (by exact World.news_of_block hg9) (by simp [Value.oneCell']) (by omega) (by unfold maxLen; omega) (by omega) (Nat.le_trans hg5 hB.size) wx.heap.size rfl ?_
        intro gr cr2 w6 hown6 hgrow6 hat6 hlt6
        refine hK0 _ _ ?_
        clear hK0
        unfold wpSeq
        refine wpOp_step rfl (fun K1 hK1 => ?_)
        go_simp
        refine hK1 _ _ ?_
        clear hK1
        unfold wpSeq
        have hF := Lib.hid (IOwn.append_ (news := [isum sl * y]) (hO5.out.below hB) (by rw [hlk]; exact hown6) hgrow6 (show Below go w wx from by rw [← hgoh.out]; exact hB5.out.trans (hB.mono hB5.out.size)) (Nat.le_trans hg5 hB.size))
        clear hO6 hown6 hgrow6 hat6 hlt6 hg9 hB
        go_wp2_with fail
        go_roundg (3 - (k + 1))
        case measure => omega
        case rel => exact ⟨k + 1, by omega, rfl, by go_num, by rw [hSn.out]; exact hF.out.1, by have := hF.out.2; rw [← hgoh.out] at this; exact this⟩
    · obtain rfl : k = 3 := by omega
      have hOh := Lib.hid hO
      have hBh := Lib.hid hB
      clear hO hB
      go_wp2_with fail
      go_ret
      have h9 := hOh.out
      rw [← hgoh.out] at h9
      exact ⟨_, rfl, by rw [hus.out]; exact h9, hBh.out⟩
end Go.Proofs.Ytbndonfpdioibaa
