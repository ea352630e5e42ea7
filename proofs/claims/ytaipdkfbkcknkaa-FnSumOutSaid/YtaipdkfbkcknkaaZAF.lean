/- Parts of the proof: FT. -/
import Derived.Test.YtaipdkfbkcknkaaZAE
namespace Go.Proofs.Ytaipdkfbkcknkaa
set_option maxRecDepth 100000
set_option linter.unusedVariables false
open Go.RowKit
/-- Sums over some values of a variable. -/
def sv (F : Fac) (v st : Int) (a : Nat) : Nat → Int
  | 0 => 0
  | m + 1 => sv F v st a m + fAt F (withValue st v ((a + m : Nat) : Int))
theorem sv_bd {F : Fac} (h : facOk 1000000000 F = true) (v st : Int) (a : Nat) : ∀ m, 0 ≤ sv F v st a m ∧ sv F v st a m ≤ 1000000000 * (m : Int)
  | 0 => by simp [sv]
  | m + 1 => by
    have ih := sv_bd h v st a m
    have hF := fAt_bd h (by decide) (withValue st v ((a + m : Nat) : Int))
    have e : sv F v st a (m + 1) = sv F v st a m + fAt F (withValue st v ((a + m : Nat) : Int)) := rfl
    rw [e]
    omega
theorem fOut_all (F : Fac) (v : Int) : facBy_ (bdf (setOf F.vs) (bitN v)) (fun st => sv F v st 0 3) = fOut F v (-1) := by
  unfold fOut
  congr 1
  funext st
  show 0 + _ + _ + _ = _
  simp
theorem fOut_one (F : Fac) (v : Int) {x : Nat} (hx : x ≤ 2) : facBy_ (bdf (setOf F.vs) (bitN v)) (fun st => sv F v st x 1) = fOut F v (x : Int) := by
  unfold fOut
  congr 1
  funext st
  show 0 + fAt F (withValue st v ((x + 0 : Nat) : Int)) = _
  obtain rfl | rfl | rfl : x = 0 ∨ x = 1 ∨ x = 2 := by omega
  all_goals simp
theorem facFill_nought {L : Int} {g : Int → Int} {M k : Nat} (h : k < M) : (facFill L g M k).set k 0 = facFill L g M k := by
  rw [facFill_set h]
  unfold facFill
  have e : M - k = M - (k + 1) + 1 := by omega
  rw [e]
  rfl
set_option maxHeartbeats 2000000 in
theorem summed_any (A1 A2 : Option Addr) (n1 c1 n2 c2 : Nat) (F : Fac) (v fa ta : Int) (a m : Nat) (w : World) (h : FacW w w.heap.size A1 n1 A2 n2 F) (hk : facOk 1000000000 F = true) (hv : 0 ≤ v ∧ v ≤ 3) (ha : a + m ≤ 3) (hfa : fa = (a : Int)) (hta : ta = ((a + m : Nat) : Int) - 1) :
    Calls Try.prog 92 #[.agg #[.slice A1 n1 c1, .slice A2 n2 c2], .int .i64 v, .int .i64 fa, .int .i64 ta] w (Fcd w (facBy_ (bdf (setOf F.vs) (bitN v)) (fun st => sv F v st a m))) := by
  obtain ⟨p1, p2, p3, p4, p5⟩ := fac_parts hk
  have hl1 := h.1.1
  have hB0 : Below w.heap.size w (w.alloc (.cells #[.slice A1 n1 c1, .slice A2 n2 c2] 36)) := (Below.refl _ _).alloc (Nat.le_refl _) _
  have hbx := Lib.hid (Has.new w 36 #[.slice A1 n1 c1, .slice A2 n2 c2])
  have hF0 := Lib.hid (h.below hB0)
  have hB0h := Lib.hid hB0
  have hkh := Lib.hid hk
  have cV := Lib.hid (fun wx hx => varsOf_any A1 A2 n1 c1 n2 c2 F wx hx (by unfold maxLen; omega) p5)
  have cB := Lib.hid (fun wx => bitOf_any v wx)
  have hsb : 0 ≤ setOf F.vs ∧ setOf F.vs ≤ 15 := by have := setOf_bd p5 F.vs.length; rwa [List.take_of_length_le (Nat.le_refl _)] at this
  have hbd := bits_diff hsb (bitN_le v)
  have hLb := bdf_bd (a := setOf F.vs) (b := bitN v) hsb.2
  have cI := Lib.hid (fun (s : Int) (hs : 0 ≤ s ∧ s ≤ 80) wx hx => numberIn_any A1 A2 n1 c1 n2 c2 F s wx hx (by omega) p3 p5 hs)
  have hfah := Lib.hid hfa
  have htah := Lib.hid hta
  clear h hk hB0 p1 p2 p3 p4 p5 hfa hta
  go_enter Try.func92, Try.ntmps92
  go_wp2_with fail
  have hz0 : (w.alloc (.cells #[.slice A1 n1 c1, .slice A2 n2 c2] 36)).heap.size = w.heap.size + 1 := by simp
  have hr0 := Has.new (w.alloc (.cells #[.slice A1 n1 c1, .slice A2 n2 c2] 36)) 36 #[.slice none 0 0, .slice none 0 0]
  have hal0 : Below (w.alloc (.cells #[.slice A1 n1 c1, .slice A2 n2 c2] 36)).heap.size (w.alloc (.cells #[.slice A1 n1 c1, .slice A2 n2 c2] 36)) _ := (Below.refl _ _).alloc (Nat.le_refl _) (.cells #[.slice none 0 0, .slice none 0 0] 36)
  generalize w.alloc (.cells #[.slice A1 n1 c1, .slice A2 n2 c2] 36) = W0 at hbx hF0 hB0h hz0 hr0 hal0 ⊢
  rw [← hz0]
  generalize W0.alloc (.cells #[.slice none 0 0, .slice none 0 0] 36) = W1 at hr0 hal0 ⊢
  have hr := Lib.hid hr0
  have hB1 := Lib.hid hal0
  clear hr0 hal0 hz0
  refine (cV.out _ (hF0.out.below hB1.out)).mono ?_
  rintro e w2 ⟨rfl, hb2⟩
  have hB2 := Lib.hid (hB1.out.trans (hb2.mono hB1.out.size))
  have hr2 := Lib.hid (hr.out.kept hb2)
  clear hb2
  go_wp2_with fail
  refine (cB.out _).mono ?_
  rintro e w' ⟨rfl, rfl⟩
  go_wp2_with fail
  generalize hLe : bdf (setOf F.vs) (bitN v) = L at hLb hbd ⊢
  have hLh := Lib.hid hLb
  have cO := Lib.hid (fun wx => blankOver_any L wx hLb)
  have cU := Lib.hid (fun x (hx : 0 ≤ x ∧ x ≤ 80) wx => countedUp_any x L wx hx hLb)
  have hlb := over_len hLb
  have hpb := pow_four hlb
  have hp1 : 0 < 3 ^ (over L).length := Nat.pow_pos (by decide)
  have hall := Lib.hid (facFill_all L (fun st => sv F v st a m))
  refine (cO.out _).mono ?_
  rintro e w1 ⟨v1, v2, rfl, ⟨hv1, hv2, hvd⟩, hb1⟩
  have hz0 := hB2.out.size
  have hv2' : IOwn w1 W0.heap.size v2 (blankF L).ns := owns_le hv2 hz0
  obtain ⟨D1, e1, rfl, _, _⟩ := hv1.form
  have hv1' : IOwn w1 W0.heap.size (.slice D1 (blankF L).vs.length e1) (blankF L).vs := owns_le hv1 hz0
  have hbl : (blankF L).ns.length = 3 ^ (over L).length := by unfold blankF; exact zs_len _
  obtain ⟨D2, e2, rfl, _, _⟩ := hv2.form
  rw [hbl] at hv2' hvd ⊢
  generalize hMM : 3 ^ (over L).length = Q at *
  have hB3 := Lib.hid (hB2.out.trans (hb1.mono hz0))
  have hR1 := Lib.hid (hr2.out.kept hb1)
  have hbn : (blankF L).ns = zs Q := by unfold blankF; rw [hMM]
  rw [hbn] at hv2'
  rw [show (blankF L).vs = over L from rfl] at hv1' hvd ⊢
  have hv2o : w1.ownsRow W0.heap.size 3 1 (.slice D2 Q e2) Q (ints (zs Q)) := by
    have h1 := hv2'
    unfold IOwn at h1
    rwa [zs_len] at h1
  obtain ⟨g2, cur2, rfl, hg2, _, hc2a, hc2b, _, _⟩ := owns_open hv2o hp1
  clear hv2o
  have hd2 := Lib.hid (fun (e : (Value.slice D1 (over L).length e1).ownBlock = some g2) => hvd g2 e (by simp [Value.ownBlock]))
  have hN0 := Lib.hid (show FacN W0 _ w1.heap.size (.slice D1 (over L).length e1) (.slice (some ⟨g2, 0, none⟩) Q e2) (over L) (zs Q) from ⟨hv2'.alloc (.cells #[.slice D1 (over L).length e1, .slice (some ⟨g2, 0, none⟩) Q e2] 36), hv1'.alloc _, Has.new w1 _ _, hR1.out.alloc _, hB3.out.alloc hB3.out.size _⟩)
  have hst0 := Lib.hid (stOf_zero (L := L) (over L) (over_in hLh.out))
  clear hv1 hv2 hv1' hv2' hvd hbn hbl hb1
  go_wp2_with fail
  generalize w1.alloc (.cells #[.slice D1 (over L).length e1, .slice (some ⟨g2, 0, none⟩) Q e2] 36) = W2 at hN0 ⊢
  generalize w1.heap.size = G at hN0 ⊢
  go_loopg [11, 24] Q (fun gn o vv wr => ∃ k : Nat, k ≤ Q ∧ gn = Q - k ∧ vv = .int .i64 k ∧ o = .int .i64 (stOf (over L) (k : Int)) ∧ FacN W0 wr G (.slice D1 (over L).length e1) (.slice (some ⟨g2, 0, none⟩) Q e2) (over L) (facFill L (fun st => sv F v st a m) Q k))
  case atStart => exact ⟨0, Nat.zero_le _, rfl, rfl, by rw [show ((0 : Nat) : Int) = 0 from rfl, hst0.out], hN0.out⟩
  case round =>
    obtain ⟨k, hk, hgn, rfl, rfl, hN⟩ := hrel
    have hgk : gk = Q - k := hgn
    have hNh := Lib.hid hN
    clear hgn hN
    by_cases hlt : k < Q
    · have hfl := facFill_len (L := L) (g := fun st => sv F v st a m) hk
      have hk0 : (0 : Int) ≤ (k : Int) := by omega
      have hk1 : (k : Int) < (Q : Int) := by omega
      have hsb := stOver_bd hLh.out (i := k)
      have hnx := Lib.hid (facFill_next (L := L) (g := fun st => sv F v st a m) hlt)
      have hno := facFill_nought (L := L) (g := fun st => sv F v st a m) hlt 
      have hN1 := Lib.hid (show FacN W0 wr G (.slice D1 (over L).length e1) (.slice (some ⟨g2, 0, none⟩) Q e2) (over L) ((facFill L (fun st => sv F v st a m) Q k).set k 0) from by rw [hno]; exact hNh.out)
      have hcu := Lib.hid (cu_st_ hLh.out (i := k) (by rw [hMM]; exact hlt))
      have hfl' := Lib.hid hfl
      generalize stOf (over L) (k : Int) = s at hsb hnx hcu ⊢
      go_wp2_with fail
      generalize facFill L (fun st => sv F v st a m) Q k = ds at *
      go_loopg [13] m (fun gn vv wr => ∃ (j : Nat) (t : Int), j ≤ m ∧ gn = m - j ∧ vv = .int .i64 t ∧ t = ((a + j : Nat) : Int) ∧ FacN W0 wr G (.slice D1 (over L).length e1) (.slice (some ⟨g2, 0, none⟩) Q e2) (over L) (ds.set k (sv F v s a j)))
      case atStart => exact ⟨0, fa, Nat.zero_le _, rfl, rfl, hfah.out, hN1.out⟩
      case round =>
        obtain ⟨j, t, hj, hgn, rfl, ht, hN⟩ := hrel
        have hgj : gk = m - j := hgn
        have hth := Lib.hid ht
        have hta := htah.out
        have hNa := Lib.hid hN
        clear hgn hN
        by_cases hlj : j < m
        · have hle : t ≤ ta := by omega
          have hxb : 0 ≤ t ∧ t ≤ 2 := by omega
          have hw1 : IntKind.i64.wrap (t + 1) = t + 1 := by rw [IntKind.wrap_i64]; omega
          have hwb := with_bd hsb hv hxb
          have hSb := sv_bd hkh.out v s a j
          have hFb := fAt_bd hkh.out (by decide) (withValue s v t)
          have hnxt := Lib.hid (show sv F v s a (j + 1) = sv F v s a j + fAt F (withValue s v t) from by rw [ht]; rfl)
          have cI' := Lib.hid (cI.out _ hwb)
          have cW := Lib.hid (fun wx => WithValue_any s v t wx)
          have hFz := Lib.hid hF0.out
          generalize hxx : withValue s v t = x at *
          generalize fAt F x = z at *
          generalize sv F v s a j = y at *
          have hws : IntKind.i64.wrap (y + z) = y + z := by rw [IntKind.wrap_i64]; omega
          have hlx : (ds.set k y).length = Q := by rw [List.length_set]; exact hfl'.out
          have hgx : (ds.set k y)[k]? = some y := by rw [List.getElem?_set_self (by rw [hfl'.out]; exact hlt)]
          clear hnx hcu hwb hno hN1 ht hta hxx
          go_wp2_with fail
          refine wp_region_any (by kernel_rfl) ?_
          change wpAny _ _ _ _ _ _ _ (World.drew _)
          refine wpAny_last (n := 13) (I := fun listed aq wx => listed.size = 14 ∧ ∃ v33 v34 v35 v36 v37 v38 v39 v40 v41 v42 v43 v44 v45 : Value, aq = { tmps := #[.agg #[.slice A1 n1 c1, .slice A2 n2 c2], .int .i64 v, .int .i64 fa, .int .i64 ta, .pointer (some ⟨w.heap.size, 0, none⟩), undef, undef, undef, .pointer (some ⟨W0.heap.size, 0, none⟩), .int .i64 L, .pointer (some ⟨G, 0, none⟩), .int .i64 s, .int .i64 ↑k, .int .i64 t, .agg #[.slice A1 n1 c1, .slice A2 n2 c2], .int .i64 (setOf F.vs), .int .i64 v, .int .i64 (bitN v), .int .i64 L, .int .i64 L, .agg #[.slice D1 (over L).length e1, .slice (some ⟨g2, 0, none⟩) Q e2], .pointer (some ⟨G, 1, none⟩), .slice (some ⟨g2, 0, none⟩) Q e2, .int .i64 ↑Q, .int .i64 ↑k, .bool true, .int .i64 ↑k, .int .i64 fa, .int .i64 t, .int .i64 ta, .bool true, u31, u32, v33, v34, v35, v36, v37, v38, v39, v40, v41, v42, v43, v44, v45, u46, u47, u48, u49, undef], defers := [] } ∧ (listed.getD 0 false = true → v33 = .pointer (some ⟨G, 1, none⟩)) ∧ (listed.getD 1 false = true → v34 = .slice (some ⟨g2, 0, none⟩) Q e2) ∧ (listed.getD 2 false = true → v35 = .int .i64 ↑k) ∧ (listed.getD 3 false = true → v36 = .pointer (some ⟨g2, k, none⟩)) ∧ (listed.getD 4 false = true → v37 = .int .i64 y) ∧ (listed.getD 5 false = true → v38 = .agg #[.slice A1 n1 c1, .slice A2 n2 c2]) ∧ (listed.getD 6 false = true → v39 = .int .i64 s) ∧ (listed.getD 7 false = true → v40 = .int .i64 v) ∧ (listed.getD 8 false = true → v41 = .int .i64 t) ∧ (listed.getD 9 false = true → v42 = .int .i64 x) ∧ (listed.getD 10 false = true → v43 = .int .i64 z) ∧ (listed.getD 11 false = true → v44 = .int .i64 (y + z)) ∧ (listed.getD 12 false = true → v45 = .pointer (some ⟨g2, k, none⟩)) ∧ Below wr.heap.size wr wx) rfl (by kernel_rfl) (by kernel_rfl) ?hs ?hl _ _ _ ?st rfl (by decide) _ (by decide)
          case st =>
            refine ⟨rfl, u33, u34, u35, u36, u37, u38, u39, u40, u41, u42, u43, u44, u45, rfl, ?_, ?_, ?_, ?_, ?_, ?_, ?_, ?_, ?_, ?_, ?_, ?_, ?_, (Below.refl _ _).drew⟩ <;> (intro e; exact absurd e (by decide))
          case hs =>
            rintro listed aq wx ⟨hz, v33, v34, v35, v36, v37, v38, v39, v40, v41, v42, v43, v44, v45, rfl, hII⟩ i hin hi
            obtain ⟨h0, o, ho, hd⟩ := mem_ready.1 hi
            have K0 := Lib.hid hII.1
            have K1 := Lib.hid hII.2.1
            have K2 := Lib.hid hII.2.2.1
            have K3 := Lib.hid hII.2.2.2.1
            have K4 := Lib.hid hII.2.2.2.2.1
            have K5 := Lib.hid hII.2.2.2.2.2.1
            have K6 := Lib.hid hII.2.2.2.2.2.2.1
            have K7 := Lib.hid hII.2.2.2.2.2.2.2.1
            have K8 := Lib.hid hII.2.2.2.2.2.2.2.2.1
            have K9 := Lib.hid hII.2.2.2.2.2.2.2.2.2.1
            have K10 := Lib.hid hII.2.2.2.2.2.2.2.2.2.2.1
            have K11 := Lib.hid hII.2.2.2.2.2.2.2.2.2.2.2.1
            have K12 := Lib.hid hII.2.2.2.2.2.2.2.2.2.2.2.2.1
            have hB : Below wr.heap.size wr wx := hII.2.2.2.2.2.2.2.2.2.2.2.2.2
            have hne := Lib.hid (fun k (hk : i ≠ k) => @listed_ne listed i k hk)
            have hNx := hNa.out.below hB
            have hA := hNx.2.2.1
            have hfx := hbx.out.kept hNx.2.2.2.2
            have hFx : FacW wx wx.heap.size A1 n1 A2 n2 F := hFz.out.below hNx.2.2.2.2
            clear hII hi h0
            rcases (by omega : i = 0 ∨ i = 1 ∨ i = 2 ∨ i = 3 ∨ i = 4 ∨ i = 5 ∨ i = 6 ∨ i = 7 ∨ i = 8 ∨ i = 9 ∨ i = 10 ∨ i = 11 ∨ i = 12) with rfl | rfl | rfl | rfl | rfl | rfl | rfl | rfl | rfl | rfl | rfl | rfl | rfl
            · cases ho
              refine wpOp_step rfl (fun K hK => ?_)
              go_simp
              refine hK _ _ ⟨by simpa using hz, .pointer (some ⟨G, 1, none⟩), v34, v35, v36, v37, v38, v39, v40, v41, v42, v43, v44, v45, rfl, ?_⟩
              exact ⟨fun _ => rfl, fun e => K1.out (hne.out 1 (by decide) e), fun e => K2.out (hne.out 2 (by decide) e), fun e => K3.out (hne.out 3 (by decide) e), fun e => K4.out (hne.out 4 (by decide) e), fun e => K5.out (hne.out 5 (by decide) e), fun e => K6.out (hne.out 6 (by decide) e), fun e => K7.out (hne.out 7 (by decide) e), fun e => K8.out (hne.out 8 (by decide) e), fun e => K9.out (hne.out 9 (by decide) e), fun e => K10.out (hne.out 10 (by decide) e), fun e => K11.out (hne.out 11 (by decide) e), fun e => K12.out (hne.out 12 (by decide) e), hB⟩
            · cases ho
              have d0 := hd ⟨0, .data⟩ (by simp) rfl
              obtain rfl := K0.out d0
              have hxc := hA.cell
              refine wpOp_step rfl (fun K hK => ?_)
              go_simp
              refine hK _ _ ⟨by simpa using hz, .pointer (some ⟨G, 1, none⟩), .slice (some ⟨g2, 0, none⟩) Q e2, v35, v36, v37, v38, v39, v40, v41, v42, v43, v44, v45, rfl, ?_⟩
              exact ⟨fun e => K0.out (hne.out 0 (by decide) e), fun _ => rfl, fun e => K2.out (hne.out 2 (by decide) e), fun e => K3.out (hne.out 3 (by decide) e), fun e => K4.out (hne.out 4 (by decide) e), fun e => K5.out (hne.out 5 (by decide) e), fun e => K6.out (hne.out 6 (by decide) e), fun e => K7.out (hne.out 7 (by decide) e), fun e => K8.out (hne.out 8 (by decide) e), fun e => K9.out (hne.out 9 (by decide) e), fun e => K10.out (hne.out 10 (by decide) e), fun e => K11.out (hne.out 11 (by decide) e), fun e => K12.out (hne.out 12 (by decide) e), hB⟩
            · cases ho
              refine wpOp_step rfl (fun K hK => ?_)
              go_simp
              refine hK _ _ ⟨by simpa using hz, v33, v34, .int .i64 ↑k, v36, v37, v38, v39, v40, v41, v42, v43, v44, v45, rfl, ?_⟩
              exact ⟨fun e => K0.out (hne.out 0 (by decide) e), fun e => K1.out (hne.out 1 (by decide) e), fun _ => rfl, fun e => K3.out (hne.out 3 (by decide) e), fun e => K4.out (hne.out 4 (by decide) e), fun e => K5.out (hne.out 5 (by decide) e), fun e => K6.out (hne.out 6 (by decide) e), fun e => K7.out (hne.out 7 (by decide) e), fun e => K8.out (hne.out 8 (by decide) e), fun e => K9.out (hne.out 9 (by decide) e), fun e => K10.out (hne.out 10 (by decide) e), fun e => K11.out (hne.out 11 (by decide) e), fun e => K12.out (hne.out 12 (by decide) e), hB⟩
            · cases ho
              have d1 := hd ⟨1, .data⟩ (by simp) rfl
              have d2 := hd ⟨2, .data⟩ (by simp) rfl
              obtain rfl := K1.out d1
              obtain rfl := K2.out d2
              refine wpOp_step rfl (fun K hK => ?_)
              go_simp
              refine hK _ _ ⟨by simpa using hz, v33, .slice (some ⟨g2, 0, none⟩) Q e2, .int .i64 ↑k, .pointer (some ⟨g2, k, none⟩), v37, v38, v39, v40, v41, v42, v43, v44, v45, rfl, ?_⟩
              exact ⟨fun e => K0.out (hne.out 0 (by decide) e), fun e => K1.out (hne.out 1 (by decide) e), fun e => K2.out (hne.out 2 (by decide) e), fun _ => rfl, fun e => K4.out (hne.out 4 (by decide) e), fun e => K5.out (hne.out 5 (by decide) e), fun e => K6.out (hne.out 6 (by decide) e), fun e => K7.out (hne.out 7 (by decide) e), fun e => K8.out (hne.out 8 (by decide) e), fun e => K9.out (hne.out 9 (by decide) e), fun e => K10.out (hne.out 10 (by decide) e), fun e => K11.out (hne.out 11 (by decide) e), fun e => K12.out (hne.out 12 (by decide) e), hB⟩
            · cases ho
              have d3 := hd ⟨3, .data⟩ (by simp) rfl
              obtain rfl := K3.out d3
              have hcc := (hNx.cell hlx hgx).1
              refine wpOp_step rfl (fun K hK => ?_)
              go_simp
              refine hK _ _ ⟨by simpa using hz, v33, v34, v35, .pointer (some ⟨g2, k, none⟩), .int .i64 y, v38, v39, v40, v41, v42, v43, v44, v45, rfl, ?_⟩
              exact ⟨fun e => K0.out (hne.out 0 (by decide) e), fun e => K1.out (hne.out 1 (by decide) e), fun e => K2.out (hne.out 2 (by decide) e), fun e => K3.out (hne.out 3 (by decide) e), fun _ => rfl, fun e => K5.out (hne.out 5 (by decide) e), fun e => K6.out (hne.out 6 (by decide) e), fun e => K7.out (hne.out 7 (by decide) e), fun e => K8.out (hne.out 8 (by decide) e), fun e => K9.out (hne.out 9 (by decide) e), fun e => K10.out (hne.out 10 (by decide) e), fun e => K11.out (hne.out 11 (by decide) e), fun e => K12.out (hne.out 12 (by decide) e), hB⟩
            · cases ho
              have hfc := hfx.cell
              refine wpOp_step rfl (fun K hK => ?_)
              go_simp
              refine hK _ _ ⟨by simpa using hz, v33, v34, v35, v36, v37, .agg #[.slice A1 n1 c1, .slice A2 n2 c2], v39, v40, v41, v42, v43, v44, v45, rfl, ?_⟩
              exact ⟨fun e => K0.out (hne.out 0 (by decide) e), fun e => K1.out (hne.out 1 (by decide) e), fun e => K2.out (hne.out 2 (by decide) e), fun e => K3.out (hne.out 3 (by decide) e), fun e => K4.out (hne.out 4 (by decide) e), fun _ => rfl, fun e => K6.out (hne.out 6 (by decide) e), fun e => K7.out (hne.out 7 (by decide) e), fun e => K8.out (hne.out 8 (by decide) e), fun e => K9.out (hne.out 9 (by decide) e), fun e => K10.out (hne.out 10 (by decide) e), fun e => K11.out (hne.out 11 (by decide) e), fun e => K12.out (hne.out 12 (by decide) e), hB⟩
            · cases ho
              refine wpOp_step rfl (fun K hK => ?_)
              go_simp
              refine hK _ _ ⟨by simpa using hz, v33, v34, v35, v36, v37, v38, .int .i64 s, v40, v41, v42, v43, v44, v45, rfl, ?_⟩
              exact ⟨fun e => K0.out (hne.out 0 (by decide) e), fun e => K1.out (hne.out 1 (by decide) e), fun e => K2.out (hne.out 2 (by decide) e), fun e => K3.out (hne.out 3 (by decide) e), fun e => K4.out (hne.out 4 (by decide) e), fun e => K5.out (hne.out 5 (by decide) e), fun _ => rfl, fun e => K7.out (hne.out 7 (by decide) e), fun e => K8.out (hne.out 8 (by decide) e), fun e => K9.out (hne.out 9 (by decide) e), fun e => K10.out (hne.out 10 (by decide) e), fun e => K11.out (hne.out 11 (by decide) e), fun e => K12.out (hne.out 12 (by decide) e), hB⟩
            · cases ho
              refine wpOp_step rfl (fun K hK => ?_)
              go_simp
              refine hK _ _ ⟨by simpa using hz, v33, v34, v35, v36, v37, v38, v39, .int .i64 v, v41, v42, v43, v44, v45, rfl, ?_⟩
              exact ⟨fun e => K0.out (hne.out 0 (by decide) e), fun e => K1.out (hne.out 1 (by decide) e), fun e => K2.out (hne.out 2 (by decide) e), fun e => K3.out (hne.out 3 (by decide) e), fun e => K4.out (hne.out 4 (by decide) e), fun e => K5.out (hne.out 5 (by decide) e), fun e => K6.out (hne.out 6 (by decide) e), fun _ => rfl, fun e => K8.out (hne.out 8 (by decide) e), fun e => K9.out (hne.out 9 (by decide) e), fun e => K10.out (hne.out 10 (by decide) e), fun e => K11.out (hne.out 11 (by decide) e), fun e => K12.out (hne.out 12 (by decide) e), hB⟩
            · cases ho
              refine wpOp_step rfl (fun K hK => ?_)
              go_simp
              refine hK _ _ ⟨by simpa using hz, v33, v34, v35, v36, v37, v38, v39, v40, .int .i64 t, v42, v43, v44, v45, rfl, ?_⟩
              exact ⟨fun e => K0.out (hne.out 0 (by decide) e), fun e => K1.out (hne.out 1 (by decide) e), fun e => K2.out (hne.out 2 (by decide) e), fun e => K3.out (hne.out 3 (by decide) e), fun e => K4.out (hne.out 4 (by decide) e), fun e => K5.out (hne.out 5 (by decide) e), fun e => K6.out (hne.out 6 (by decide) e), fun e => K7.out (hne.out 7 (by decide) e), fun _ => rfl, fun e => K9.out (hne.out 9 (by decide) e), fun e => K10.out (hne.out 10 (by decide) e), fun e => K11.out (hne.out 11 (by decide) e), fun e => K12.out (hne.out 12 (by decide) e), hB⟩
            · cases ho
              have d6 := hd ⟨6, .data⟩ (by simp) rfl
              have d7 := hd ⟨7, .data⟩ (by simp) rfl
              have d8 := hd ⟨8, .data⟩ (by simp) rfl
              obtain rfl := K6.out d6
              obtain rfl := K7.out d7
              obtain rfl := K8.out d8
              refine wpOp_step rfl (fun K hK => ?_)
              go_simp
              go_at_call 45
              refine (cW.out _).mono ?_
              rintro e w3 ⟨rfl, rfl⟩
              refine hK _ _ ⟨by simpa using hz, v33, v34, v35, v36, v37, v38, .int .i64 s, .int .i64 v, .int .i64 t, .int .i64 x, v43, v44, v45, rfl, ?_⟩
              exact ⟨fun e => K0.out (hne.out 0 (by decide) e), fun e => K1.out (hne.out 1 (by decide) e), fun e => K2.out (hne.out 2 (by decide) e), fun e => K3.out (hne.out 3 (by decide) e), fun e => K4.out (hne.out 4 (by decide) e), fun e => K5.out (hne.out 5 (by decide) e), fun e => K6.out (hne.out 6 (by decide) e), fun e => K7.out (hne.out 7 (by decide) e), fun e => K8.out (hne.out 8 (by decide) e), fun _ => rfl, fun e => K10.out (hne.out 10 (by decide) e), fun e => K11.out (hne.out 11 (by decide) e), fun e => K12.out (hne.out 12 (by decide) e), hB⟩
            · cases ho
              have d5 := hd ⟨5, .data⟩ (by simp) rfl
              have d9 := hd ⟨9, .data⟩ (by simp) rfl
              obtain rfl := K5.out d5
              obtain rfl := K9.out d9
              refine wpOp_step rfl (fun K hK => ?_)
              go_simp
              go_at_call 88
              refine (cI'.out _ hFx).mono ?_
              rintro e w3 ⟨rfl, hb3⟩
              refine hK _ _ ⟨by simpa using hz, v33, v34, v35, v36, v37, .agg #[.slice A1 n1 c1, .slice A2 n2 c2], v39, v40, v41, .int .i64 x, .int .i64 z, v44, v45, rfl, ?_⟩
              exact ⟨fun e => K0.out (hne.out 0 (by decide) e), fun e => K1.out (hne.out 1 (by decide) e), fun e => K2.out (hne.out 2 (by decide) e), fun e => K3.out (hne.out 3 (by decide) e), fun e => K4.out (hne.out 4 (by decide) e), fun e => K5.out (hne.out 5 (by decide) e), fun e => K6.out (hne.out 6 (by decide) e), fun e => K7.out (hne.out 7 (by decide) e), fun e => K8.out (hne.out 8 (by decide) e), fun e => K9.out (hne.out 9 (by decide) e), fun _ => rfl, fun e => K11.out (hne.out 11 (by decide) e), fun e => K12.out (hne.out 12 (by decide) e), hB.trans (hb3.mono hB.size)⟩
            · cases ho
              have d4 := hd ⟨4, .data⟩ (by simp) rfl
              have d10 := hd ⟨10, .data⟩ (by simp) rfl
              obtain rfl := K4.out d4
              obtain rfl := K10.out d10
              refine wpOp_step rfl (fun K hK => ?_)
              go_simp
              refine hK _ _ ⟨by simpa using hz, v33, v34, v35, v36, .int .i64 y, v38, v39, v40, v41, v42, .int .i64 z, .int .i64 (y + z), v45, rfl, ?_⟩
              exact ⟨fun e => K0.out (hne.out 0 (by decide) e), fun e => K1.out (hne.out 1 (by decide) e), fun e => K2.out (hne.out 2 (by decide) e), fun e => K3.out (hne.out 3 (by decide) e), fun e => K4.out (hne.out 4 (by decide) e), fun e => K5.out (hne.out 5 (by decide) e), fun e => K6.out (hne.out 6 (by decide) e), fun e => K7.out (hne.out 7 (by decide) e), fun e => K8.out (hne.out 8 (by decide) e), fun e => K9.out (hne.out 9 (by decide) e), fun e => K10.out (hne.out 10 (by decide) e), fun _ => rfl, fun e => K12.out (hne.out 12 (by decide) e), hB⟩
            · cases ho
              have d1 := hd ⟨1, .data⟩ (by simp) rfl
              have d2 := hd ⟨2, .data⟩ (by simp) rfl
              obtain rfl := K1.out d1
              obtain rfl := K2.out d2
              refine wpOp_step rfl (fun K hK => ?_)
              go_simp
              refine hK _ _ ⟨by simpa using hz, v33, .slice (some ⟨g2, 0, none⟩) Q e2, .int .i64 ↑k, v36, v37, v38, v39, v40, v41, v42, v43, v44, .pointer (some ⟨g2, k, none⟩), rfl, ?_⟩
              exact ⟨fun e => K0.out (hne.out 0 (by decide) e), fun e => K1.out (hne.out 1 (by decide) e), fun e => K2.out (hne.out 2 (by decide) e), fun e => K3.out (hne.out 3 (by decide) e), fun e => K4.out (hne.out 4 (by decide) e), fun e => K5.out (hne.out 5 (by decide) e), fun e => K6.out (hne.out 6 (by decide) e), fun e => K7.out (hne.out 7 (by decide) e), fun e => K8.out (hne.out 8 (by decide) e), fun e => K9.out (hne.out 9 (by decide) e), fun e => K10.out (hne.out 10 (by decide) e), fun e => K11.out (hne.out 11 (by decide) e), fun _ => rfl, hB⟩
          case hl =>
            rintro listed aq wx ⟨hz, v33, v34, v35, v36, v37, v38, v39, v40, v41, v42, v43, v44, v45, rfl, hII⟩ hall
            have K0 := Lib.hid hII.1
            have K1 := Lib.hid hII.2.1
            have K2 := Lib.hid hII.2.2.1
            have K3 := Lib.hid hII.2.2.2.1
            have K4 := Lib.hid hII.2.2.2.2.1
            have K5 := Lib.hid hII.2.2.2.2.2.1
            have K6 := Lib.hid hII.2.2.2.2.2.2.1
            have K7 := Lib.hid hII.2.2.2.2.2.2.2.1
            have K8 := Lib.hid hII.2.2.2.2.2.2.2.2.1
            have K9 := Lib.hid hII.2.2.2.2.2.2.2.2.2.1
            have K10 := Lib.hid hII.2.2.2.2.2.2.2.2.2.2.1
            have K11 := Lib.hid hII.2.2.2.2.2.2.2.2.2.2.2.1
            have K12 := Lib.hid hII.2.2.2.2.2.2.2.2.2.2.2.2.1
            have hB : Below wr.heap.size wr wx := hII.2.2.2.2.2.2.2.2.2.2.2.2.2
            have hNx := hNa.out.below hB
            have hA := hNx.2.2.1
            have hfx := hbx.out.kept hNx.2.2.2.2
            have hFx : FacW wx wx.heap.size A1 n1 A2 n2 F := hFz.out.below hNx.2.2.2.2
            clear hII
            obtain rfl := K0.out (hall 0 (by decide))
            obtain rfl := K1.out (hall 1 (by decide))
            obtain rfl := K2.out (hall 2 (by decide))
            obtain rfl := K3.out (hall 3 (by decide))
            obtain rfl := K4.out (hall 4 (by decide))
            obtain rfl := K5.out (hall 5 (by decide))
            obtain rfl := K6.out (hall 6 (by decide))
            obtain rfl := K7.out (hall 7 (by decide))
            obtain rfl := K8.out (hall 8 (by decide))
            obtain rfl := K9.out (hall 9 (by decide))
            obtain rfl := K10.out (hall 10 (by decide))
            obtain rfl := K11.out (hall 11 (by decide))
            obtain rfl := K12.out (hall 12 (by decide))
            clear hall K0 K1 K2 K3 K4 K5 K6 K7 K8 K9 K10 K11 K12
            have hcc := (hNx.cell hlx hgx).1
            have hff := (hNx.cell hlx hgx).2
            refine wpOp_step rfl (fun K hK => ?_)
            go_simp
            refine hK _ _ ?_
            clear hK
            have hP1 := Lib.hid (hNx.put hd2.out hlx hlt hg2 (y + z))
            have hP2 := Lib.hid (show FacN W0 _ G (.slice D1 (over L).length e1) (.slice (some ⟨g2, 0, none⟩) Q e2) (over L) (ds.set k (sv F v s a (j + 1))) from by rw [hnxt.out]; have h1 := hP1.out; rwa [List.set_set] at h1)
            clear hcc hff hNx hA hfx hFx
            go_wp2_with fail
            go_roundg (m - (j + 1))
            case measure => omega
            case rel => exact ⟨j + 1, t + 1, by omega, rfl, by go_num, by have := hth.out; omega, hP2.out⟩
        · obtain rfl : j = m := by omega
          have hle : ¬ t ≤ ta := by omega
          clear hta ht
          have hP2 := Lib.hid (show FacN W0 wr G (.slice D1 (over L).length e1) (.slice (some ⟨g2, 0, none⟩) Q e2) (over L) (facFill L (fun st => sv F v st a j) Q (k + 1)) from by rw [← hnx.out]; exact hNa.out)
          go_wp2_with fail
          refine (cU.out s hsb _).mono ?_
          rintro e w' ⟨rfl, rfl⟩
          go_wp2_with fail
          go_roundg (Q - (k + 1))
          case measure => omega
          case rel => exact ⟨k + 1, by omega, rfl, by go_num, by rw [hcu.out], hP2.out⟩
    · obtain rfl : k = Q := by omega
      obtain ⟨h1, h2, h3, h4, h5⟩ := hNh.out
      rw [hall.out] at h1
      have cA := h3.cell
      have cR := h4.cell
      have fR := h4.frozen
      have hWW := hB0h.out.size
      have hB9 := hB0h.out.trans (h5.mono hWW)
      have hKp := Lib.hid ((((KeptBut.refl wr (fun i => i = W0.heap.size)).put (p := ⟨W0.heap.size, 0, none⟩) (fun _ => rfl) (.slice D1 (over L).length e1)).put (p := ⟨W0.heap.size, 1, none⟩) (fun _ => rfl) (.slice (some ⟨g2, 0, none⟩) k e2)))
      have hr1 := (h4.put 0 (.slice D1 (over L).length e1)).cell 0
      have hr2 := ((h4.put 0 (.slice D1 (over L).length e1)).put 1 (.slice (some ⟨g2, 0, none⟩) k e2)).cell 1
      go_wp2_with fail
      refine bodyPost_ret (v := .agg #[.slice D1 (over L).length e1, .slice (some ⟨g2, 0, none⟩) k e2]) (by simp [results, Try.results92, go_sem, hr1, hr2]) rfl ⟨_, _, rfl, ⟨?_, ?_, ?_⟩, ?_⟩
      · rw [hLe]
        exact owns_le (h2.but hKp.out (fun k hk e => iown_ne h2 h4 (by decide) k hk e)) hWW
      · rw [hLe]
        exact owns_le (h1.but hKp.out (fun k hk e => iown_ne h1 h4 (by decide) k hk e)) hWW
      · intro b hb1 hb2
        have e1 : g2 = b := by simpa [Value.ownBlock] using hb2
        exact hd2.out (e1 ▸ hb1)
      · exact (hB9.setCell (p := ⟨W0.heap.size, 0, none⟩) hWW _).setCell (p := ⟨W0.heap.size, 1, none⟩) hWW _
/-- A factor, or none if a number is too great. -/
theorem ifFactor_any (A1 A2 : Option Addr) (n1 c1 n2 c2 : Nat) (F : Fac) (w : World) (h : FacW w w.heap.size A1 n1 A2 n2 F) (hn1 : n1 ≤ maxLen) (hn2 : n2 ≤ maxLen) :
    Calls Try.prog 91 #[.agg #[.slice A1 n1 c1, .slice A2 n2 c2]] w fun e w' => e = .returned (.tuple #[if facOk 1000000000 F = true then .agg #[.slice A1 n1 c1, .slice A2 n2 c2] else .agg #[.slice none 0 0, .slice none 0 0], .bool (facOk 1000000000 F)]) ∧ Below w.heap.size w w' := by
  have hB0 : Below w.heap.size w ((w.alloc (.cells #[.slice A1 n1 c1, .slice A2 n2 c2] 36)).alloc (.cells #[.slice none 0 0, .slice none 0 0] 36)) := ((Below.refl _ _).alloc (Nat.le_refl _) _).alloc (by simp) _
  have cF := Lib.hid (FactorOk_any A1 A2 n1 c1 n2 c2 F _ (h.below hB0) hn1 hn2)
  have hb := Lib.hid ((Has.new w 36 #[.slice A1 n1 c1, .slice A2 n2 c2]).alloc (.cells #[.slice none 0 0, .slice none 0 0] 36))
  have hr := Lib.hid (Has.newAt (w := w.alloc (.cells #[.slice A1 n1 c1, .slice A2 n2 c2] 36)) (n := w.heap.size + 1) (t := 36) (cs := #[.slice none 0 0, .slice none 0 0]) (by simp))
  have hB := Lib.hid hB0
  clear h hB0 hn1 hn2
  have cb := hb.out.cell
  cases hk : facOk 1000000000 F
  · rw [hk] at cF
    rw [if_neg (by decide)]
    clear hk
    go_enter Try.func91, Try.ntmps91
    go_wp2_with fail
    refine cF.out.mono ?_
    rintro e w1 ⟨rfl, hb1⟩
    have hB1 := Lib.hid (hB.out.trans (hb1.mono hB.out.size))
    have hr1 := hr.out.kept hb1
    have cr := hr1.cell
    have fr := hr1.frozen
    clear hb1 cb
    go_wp2_with fail
    refine bodyPost_ret (v := .tuple #[.agg #[.slice none 0 0, .slice none 0 0], .bool false]) (by simp [results, Try.results91, go_sem, cr]) rfl ⟨rfl, ?_⟩
    exact (hB1.out.setCell (p := ⟨w.heap.size + 1, 0, none⟩) (by simp) _).setCell (p := ⟨w.heap.size + 1, 1, none⟩) (by simp) _
  · rw [hk] at cF
    rw [if_pos rfl]
    clear hk
    go_enter Try.func91, Try.ntmps91
    go_wp2_with fail
    refine cF.out.mono ?_
    rintro e w1 ⟨rfl, hb1⟩
    have hB1 := Lib.hid (hB.out.trans (hb1.mono hB.out.size))
    have hr1 := hr.out.kept hb1
    have cb1 := (hb.out.kept hb1).cell
    have cr := hr1.cell
    have fr := hr1.frozen
    clear hb1 cb
    go_wp2_with fail
    refine bodyPost_ret (v := .tuple #[.agg #[.slice A1 n1 c1, .slice A2 n2 c2], .bool true]) (by simp [results, Try.results91, go_sem, cr]) rfl ⟨rfl, ?_⟩
    exact (hB1.out.setCell (p := ⟨w.heap.size + 1, 0, none⟩) (by simp) _).setCell (p := ⟨w.heap.size + 1, 1, none⟩) (by simp) _
end Go.Proofs.Ytaipdkfbkcknkaa
