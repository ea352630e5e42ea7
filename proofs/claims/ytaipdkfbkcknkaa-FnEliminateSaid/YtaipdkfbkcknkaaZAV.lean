/- Parts of the proof: KH. -/
import Derived.Test.YtaipdkfbkcknkaaZAU
namespace Go.Proofs.Ytaipdkfbkcknkaa
set_option maxRecDepth 100000
set_option linter.unusedVariables false
open Go.RowKit
set_option maxHeartbeats 4000000 in
theorem productTo_any (A : Option Addr) (n c base ob : Nat) (Hs : List Fac) (us : List Value) (U L : Int) (w : World) (h : RowsS w base ob (.slice A n c) Hs us) (hn : Hs.length = n) (hn20 : n ≤ 20) (hf : Fine Hs) (hK : pb Hs ≤ 10000000000) (hU : 0 ≤ U ∧ U ≤ 15) (hL : 0 ≤ L ∧ L ≤ 15) :
    Calls Try.prog 73 #[.slice A n c, .int .i64 U, .int .i64 L] w (Scd w (sumT Hs U L)) := by
  have hI := Lib.hid h
  have hnh := Lib.hid hn
  have hFh := Lib.hid hf
  have hKh := Lib.hid hK
  have hUh := Lib.hid hU
  have hLh := Lib.hid hL
  have cT := Lib.hid (fun wx => stridedOver_any L wx hL)
  have hset : setOf (blankF L).vs = L := by
    obtain ⟨x, rfl⟩ := fin16 hL
    exact (over_ok x).2.1
  have hbn : (blankF L).ns.length = 3 ^ (over L).length := by unfold blankF; exact zs_len _
  obtain ⟨q, hq⟩ : ∃ q, 3 ^ (over L).length = q := ⟨_, rfl⟩
  have hqp : 0 < q := by rw [← hq]; exact Nat.pow_pos (by decide)
  rw [hq] at hbn
  have hqh := Lib.hid hq
  obtain ⟨m, hm⟩ : ∃ m, (over L).length = m := ⟨_, rfl⟩
  have hB0 := Lib.hid (show Below w.heap.size w (w.alloc (.cells #[.slice none 0 0, .slice none 0 0, .int .i64 0, .int .i64 0, .int .i64 0, .int .i64 0] 79)) from (Below.refl _ _).alloc (Nat.le_refl _) _)
  have hR0 := Lib.hid (Has.new w 79 #[.slice none 0 0, .slice none 0 0, .int .i64 0, .int .i64 0, .int .i64 0, .int .i64 0])
  have hbnh := Lib.hid hbn
  have hmh := Lib.hid hm
  have hseth := Lib.hid hset
  have hvb := Lib.hid (fun (k : Nat) (hk : k < 81) wx => valuesOnly_any (k : Int) U wx (by omega) hU)
  clear h hn hf hK hU hL hq hbn hm hset
  go_enter Try.func73, Try.ntmps73
  go_wp2_with fail
  generalize w.alloc (.cells #[.slice none 0 0, .slice none 0 0, .int .i64 0, .int .i64 0, .int .i64 0, .int .i64 0] 79) = W0 at hB0 hR0 ⊢
  refine (cT.out _).mono ?_
  rintro e w1 ⟨v1, v2, rfl, hV, hb1⟩
  obtain ⟨V1, dca, rfl, _, _⟩ := hV.1.form
  obtain ⟨V2, dcb, rfl, _, _⟩ := hV.2.1.form
  rw [hbnh.out, show (blankF L).vs = over L from rfl, hmh.out] at hV ⊢
  rw [show setOf (over L) = L from hseth.out]
  have hv2n : w1.ownsRow W0.heap.size 3 1 (.slice V2 q dcb) q (ints (blankF L).ns) := by
    have h9 := hV.2.1
    unfold IOwn at h9
    rwa [hbnh.out] at h9
  obtain ⟨g2, cur2, rfl, hg2, hcur2, _⟩ := owns_open hv2n hqp
  have hal : Below w1.heap.size w1 (w1.alloc (.cells (strA (.slice V1 m dca) (.slice (some ⟨g2, 0, none⟩) q dcb) (strL L)) 79)) := (Below.refl _ _).alloc (Nat.le_refl _) _
  have hz0 := hB0.out.size
  have hS2 := Lib.hid (Has.new w1 79 (strA (.slice V1 m dca) (.slice (some ⟨g2, 0, none⟩) q dcb) (strL L)))
  have hV12 := Lib.hid (show IOwn (w1.alloc (.cells (strA (.slice V1 m dca) (.slice (some ⟨g2, 0, none⟩) q dcb) (strL L)) 79)) w.heap.size (.slice V1 m dca) (over L) from owns_le (hV.1.below hal) hz0)
  have hV22 := Lib.hid (show (w1.alloc (.cells (strA (.slice V1 m dca) (.slice (some ⟨g2, 0, none⟩) q dcb) (strL L)) 79)).ownsRow w.heap.size 3 1 (.slice (some ⟨g2, 0, none⟩) q dcb) q (ints (ptN Hs U L 0)) from by
    rw [ptN_zero, hqh.out]
    have h9 := owns_le hv2n hz0
    rw [show (blankF L).ns = zs (3 ^ (over L).length) from rfl, hqh.out] at h9
    exact owns_but h9 (KeptBut.of_below hal (fun _ => False)) (fun _ _ e => e))
  have hne := Lib.hid (fun b (e : (Value.slice V1 m dca).ownBlock = some b) => show b ≠ g2 from fun e2 => hV.2.2 b e (by rw [e2]; rfl))
  have hR2 := Lib.hid ((hR0.out.kept hb1).kept hal)
  have hB2 := Lib.hid ((hB0.out.trans (hb1.mono hz0)).trans (hal.mono (Nat.le_trans hz0 hb1.size)))
  have hgw := Lib.hid (show w.heap.size < g2 from by have := hR0.out.lt; omega)
  have hSw := Lib.hid (show w.heap.size < w1.heap.size ∧ g2 < w1.heap.size from ⟨by have := (hR0.out.kept hb1).lt; omega, hcur2.lt⟩)
  clear hV hb1 hv2n hcur2 hal hz0 hg2
  unfold strA at hS2 hV12 hV22 hR2 hB2
  unfold strA
  go_wp2_with fail
  generalize w1.alloc (.cells #[.slice V1 m dca, .slice (some ⟨g2, 0, none⟩) q dcb, .int .i64 (strL L 0), .int .i64 (strL L 1), .int .i64 (strL L 2), .int .i64 (strL L 3)] 79) = W2 at hS2 hV12 hV22 hR2 hB2 ⊢
  generalize w1.heap.size = S at hS2 hSw ⊢
  go_loopg [8] 81 (fun gq x wr => ∃ k : Nat, k ≤ 81 ∧ gq = 81 - k ∧ x = .int .i64 k ∧ Has wr S 79 #[.slice V1 m dca, .slice (some ⟨g2, 0, none⟩) q dcb, .int .i64 (strL L 0), .int .i64 (strL L 1), .int .i64 (strL L 2), .int .i64 (strL L 3)] ∧ IOwn wr w.heap.size (.slice V1 m dca) (over L) ∧ wr.ownsRow w.heap.size 3 1 (.slice (some ⟨g2, 0, none⟩) q dcb) q (ints (ptN Hs U L k)) ∧ Has wr w.heap.size 79 #[.slice none 0 0, .slice none 0 0, .int .i64 0, .int .i64 0, .int .i64 0, .int .i64 0] ∧ Below w.heap.size w wr)
  case atStart => exact ⟨0, Nat.zero_le _, rfl, rfl, hS2.out, hV12.out, hV22.out, hR2.out, hB2.out⟩
  case round =>
    obtain ⟨k, hk, hgn, rfl, hS, hV1, hV2, hR, hB⟩ := hrel
    have hgk : gk = 81 - k := hgn
    have kS := Lib.hid hS
    have k1 := Lib.hid hV1
    have k2 := Lib.hid hV2
    have kR := Lib.hid hR
    have kB := Lib.hid hB
    clear hgn hS hV1 hV2 hR hB
    by_cases hlt : k < 81
    · have hk0 : (0 : Int) ≤ (k : Int) := by omega
      have hk81 : (k : Int) < 81 := by omega
      have cVk := Lib.hid (hvb.out k hlt)
      by_cases hvo : vo U (k : Int) = (k : Int)
      · have hvn : (vo U (k : Int) != (k : Int)) = false := by simp [hvo]
        have hvoh := Lib.hid hvo
        clear hvo
        go_wp2_with fail
        refine (cVk.out _).mono ?_
        rintro e w' ⟨rfl, rfl⟩
        go_wp2_with fail
        obtain ⟨w80, rfl⟩ : ∃ x : World, x = wr := ⟨_, rfl⟩
        have hp0 := Lib.hid (show prodAt (Hs.take 0) (k : Int) = 1 by rw [List.take_zero]; rfl)
        go_loopg [9, 25] n (fun gq p x wr => ∃ j : Nat, j ≤ n ∧ gq = n - j ∧ x = .int .i64 j ∧ p = .int .i64 (prodAt (Hs.take j) (k : Int)) ∧ Below w80.heap.size w80 wr)
        case atStart => exact ⟨0, Nat.zero_le _, rfl, rfl, by rw [hp0.out], Below.refl _ _⟩
        case round =>
          obtain ⟨j, hj, hgn, rfl, rfl, hB⟩ := hrel
          have hgj : gk = n - j := hgn
          have jB := Lib.hid hB
          clear hgn
          by_cases hlj : j < n
          · have hj0 : (0 : Int) ≤ (j : Int) := by omega
            have hj1 : (j : Int) < (n : Int) := by omega
            obtain ⟨F, hFj⟩ : ∃ F, Hs[j]? = some F := ⟨_, List.getElem?_eq_getElem (by have := hnh.out; omega)⟩
            have hBw := kB.out.trans (hB.mono kB.out.size)
            obtain ⟨g, B1, e1, B2, e2, rfl, hg, _, _, hcl, hi1, hi2⟩ := (hI.out.below hBw).at_ hnh.out hFj
            have hFo := hFh.out F (List.mem_of_getElem? hFj)
            obtain ⟨p1, p2, p3, p4, p5⟩ := fac_parts hFo
            obtain ⟨Lf, hLf, hLs, _⟩ := fac_set hFo
            have hst : 0 ≤ (k : Int) ∧ (k : Int) ≤ 80 := by omega
            have hib := idx_bd p5 hst
            rw [← p3] at hib
            obtain ⟨z, hz⟩ : ∃ z : Nat, idx F.vs (k : Int) = (z : Int) := ⟨(idx F.vs (k : Int)).toNat, by omega⟩
            have hzl : z < F.ns.length := by omega
            obtain ⟨d, hd⟩ : ∃ d, F.ns[z]? = some d := ⟨_, List.getElem?_eq_getElem hzl⟩
            have hfat : fAt F (k : Int) = d := by unfold fAt; rw [hz, Int.toNat_natCast, List.getD_eq_getElem?_getD, hd]; rfl
            obtain ⟨gn, offn, dn, hBn, hgn, hdn, cn⟩ := (IOwn.lst hi2).at_ hzl
            obtain rfl : d = dn := Option.some.inj (hd.symm.trans hdn)
            subst hBn
            have cA := Lib.hid (fun wx => show Calls Try.prog 120 #[.agg #[.slice B1 F.vs.length e1, .slice (some ⟨gn, offn, none⟩) F.ns.length e2, .int .i64 (strL (setOf F.vs) 0), .int .i64 (strL (setOf F.vs) 1), .int .i64 (strL (setOf F.vs) 2), .int .i64 (strL (setOf F.vs) 3)], .int .i64 (k : Int)] wx fun e w' => e = .returned (.int .i64 (z : Int)) ∧ Below wx.heap.size wx w' from by
              have := at_any (.slice B1 F.vs.length e1) (.slice (some ⟨gn, offn, none⟩) F.ns.length e2) (setOf F.vs) (k : Int) wx (by rw [hLs]; omega) hst
              rw [show over (setOf F.vs) = F.vs by rw [hLs, hLf], hz] at this
              exact this)
            have hPb := prodAt_bd hFh.out hst j
            have hPc := prodAt_bd hFh.out hst (j + 1)
            have hPt := prod_take hFj (k : Int)
            rw [hPt, hfat] at hPc
            rw [hfat] at hPt
            have hPth := Lib.hid hPt
            have hKK := hKh.out
            generalize prodAt (Hs.take j) (k : Int) = y at hPb hPc hPth ⊢
            have hwm : IntKind.i64.wrap (y * d) = y * d := by rw [IntKind.wrap_i64]; omega
            have hal : Below wr.heap.size wr (wr.alloc (.cells #[.slice B1 F.vs.length e1, .slice (some ⟨gn, offn, none⟩) F.ns.length e2, .int .i64 (strL (setOf F.vs) 0), .int .i64 (strL (setOf F.vs) 1), .int .i64 (strL (setOf F.vs) 2), .int .i64 (strL (setOf F.vs) 3)] 79)) := (Below.refl _ _).alloc (Nat.le_refl _) _
            have hs3 := Lib.hid (Has.new wr 79 #[.slice B1 F.vs.length e1, .slice (some ⟨gn, offn, none⟩) F.ns.length e2, .int .i64 (strL (setOf F.vs) 0), .int .i64 (strL (setOf F.vs) 1), .int .i64 (strL (setOf F.vs) 2), .int .i64 (strL (setOf F.vs) 3)])
            have cn3 := Lib.hid ((hal.cell (p := ⟨gn, offn + z, none⟩) hgn).trans cn)
            have hB3 := Lib.hid (hB.trans (hal.mono hB.size))
            have hgn3 := Lib.hid (show gn < (wr.alloc (.cells #[.slice B1 F.vs.length e1, .slice (some ⟨gn, offn, none⟩) F.ns.length e2, .int .i64 (strL (setOf F.vs) 0), .int .i64 (strL (setOf F.vs) 1), .int .i64 (strL (setOf F.vs) 2), .int .i64 (strL (setOf F.vs) 3)] 79)).heap.size from Nat.lt_of_lt_of_le hgn hal.size)
            have hz0 : (0 : Int) ≤ (z : Int) := by omega
            have hz1 : (z : Int) < (F.ns.length : Int) := by omega
            have cl0 : wr.cell? ⟨g, j * 6, none⟩ = some (.slice B1 F.vs.length e1) := hcl 0 (by decide)
            have cl1 : wr.cell? ⟨g, j * 6 + 1, none⟩ = some (.slice (some ⟨gn, offn, none⟩) F.ns.length e2) := hcl 1 (by decide)
            have cl2 : wr.cell? ⟨g, j * 6 + 2, none⟩ = some (.int .i64 (strL (setOf F.vs) 0)) := hcl 2 (by decide)
            have cl3 : wr.cell? ⟨g, j * 6 + 3, none⟩ = some (.int .i64 (strL (setOf F.vs) 1)) := hcl 3 (by decide)
            have cl4 : wr.cell? ⟨g, j * 6 + 4, none⟩ = some (.int .i64 (strL (setOf F.vs) 2)) := hcl 4 (by decide)
            have cl5 : wr.cell? ⟨g, j * 6 + 5, none⟩ = some (.int .i64 (strL (setOf F.vs) 3)) := hcl 5 (by decide)
            clear hBw hFo p1 p2 p3 p4 p5 hLf hLs hib hz hd hfat hdn hPb hPc hPt hKK hal hi1 hi2 hcl hFj cn hB
            go_wp2_with fail
            clear cl0 cl1 cl2 cl3 cl4 cl5
            generalize wr.alloc (.cells #[.slice B1 F.vs.length e1, .slice (some ⟨gn, offn, none⟩) F.ns.length e2, .int .i64 (strL (setOf F.vs) 0), .int .i64 (strL (setOf F.vs) 1), .int .i64 (strL (setOf F.vs) 2), .int .i64 (strL (setOf F.vs) 3)] 79) = W4 at hs3 cn3 hB3 hgn3 ⊢
            generalize wr.heap.size = gs at hs3 ⊢
            have hOk := Lib.hid (fun (wx : World) (hx : Below W4.heap.size W4 wx) => (show Below W4.heap.size W4 wx ∧ wx.cell? ⟨gs, 0, none⟩ = some (.slice B1 F.vs.length e1) ∧ wx.cell? ⟨gs, 1, none⟩ = some (.slice (some ⟨gn, offn, none⟩) F.ns.length e2) ∧ wx.cell? ⟨gs, 2, none⟩ = some (.int .i64 (strL (setOf F.vs) 0)) ∧ wx.cell? ⟨gs, 3, none⟩ = some (.int .i64 (strL (setOf F.vs) 1)) ∧ wx.cell? ⟨gs, 4, none⟩ = some (.int .i64 (strL (setOf F.vs) 2)) ∧ wx.cell? ⟨gs, 5, none⟩ = some (.int .i64 (strL (setOf F.vs) 3)) ∧ wx.cell? ⟨gn, offn + z, none⟩ = some (.int .i64 d) from ⟨hx, (hs3.out.kept hx).cell 0, (hs3.out.kept hx).cell 1, (hs3.out.kept hx).cell 2, (hs3.out.kept hx).cell 3, (hs3.out.kept hx).cell 4, (hs3.out.kept hx).cell 5, (hx.cell (p := ⟨gn, offn + z, none⟩) hgn3.out).trans cn3.out⟩))
            obtain ⟨_, cs0, cs1, cs2, cs3, cs4, cs5, cs6⟩ := hOk.out W4 (Below.refl _ _)
            go_region_held3 (fun wx => Below W4.heap.size W4 wx ∧ wx.cell? ⟨gs, 0, none⟩ = some (.slice B1 F.vs.length e1) ∧ wx.cell? ⟨gs, 1, none⟩ = some (.slice (some ⟨gn, offn, none⟩) F.ns.length e2) ∧ wx.cell? ⟨gs, 2, none⟩ = some (.int .i64 (strL (setOf F.vs) 0)) ∧ wx.cell? ⟨gs, 3, none⟩ = some (.int .i64 (strL (setOf F.vs) 1)) ∧ wx.cell? ⟨gs, 4, none⟩ = some (.int .i64 (strL (setOf F.vs) 2)) ∧ wx.cell? ⟨gs, 5, none⟩ = some (.int .i64 (strL (setOf F.vs) 3)) ∧ wx.cell? ⟨gn, offn + z, none⟩ = some (.int .i64 d)) (first | exact hOk.out _ ((Below.refl _ _).drew) | exact hOk.out _ (Below.refl _ _) | exact hOk.out _ (bt6 (by assumption) hbq) | exact hOk.out _ (bs6 (by assumption)) | exact hOk.out _ (bd6 (by assumption)) | go_keep) (first | (go_at_call 120; refine (cA.out _).mono ?_; rintro e w5 ⟨rfl, hbq⟩))
            rename_i hHeld
            have hBx := Lib.hid (hB3.out.trans (hHeld.1.mono hB3.out.size))
            clear hHeld hbq hOk cs0 cs1 cs2 cs3 cs4 cs5 cs6
            go_wp2_with fail
            go_roundg (n - (j + 1))
            case measure => omega
            case rel => exact ⟨j + 1, by omega, rfl, by go_num, by rw [hPth.out], hBx.out⟩
          · obtain rfl : j = n := by omega
            have hst : 0 ≤ (k : Int) ∧ (k : Int) ≤ 80 := by omega
            have hPb := prodAt_bd hFh.out hst j
            rw [List.take_of_length_le (by rw [hnh.out]; exact Nat.le_refl _)] at hPb ⊢
            have hz := hB.size
            have hBw := Lib.hid (kB.out.trans (hB.mono kB.out.size))
            have gS := Lib.hid (kS.out.kept hB)
            have g1 := Lib.hid (k1.out.below hB)
            have g2o := Lib.hid (show wr.ownsRow w.heap.size 3 1 (.slice (some ⟨g2, 0, none⟩) q dcb) q (ints (ptN Hs U L k)) from owns_but k2.out (KeptBut.of_below hB (fun _ => False)) (fun _ _ e => e))
            have gR := Lib.hid (kR.out.kept hB)
            obtain ⟨x, hx⟩ : ∃ x : Nat, idx (over L) (k : Int) = (x : Int) := ⟨(idx (over L) (k : Int)).toNat, by have := (idx_bd (over_in hLh.out) hst).1; omega⟩
            have hxq : x < q := by have := (idx_bd (over_in hLh.out) hst).2; rw [hqh.out] at this; omega
            obtain ⟨y, hy⟩ : ∃ y, (ptN Hs U L k)[x]? = some y := ⟨_, List.getElem?_eq_getElem (by rw [ptN_len, hqh.out]; exact hxq)⟩
            have hyb := ptN_bd hFh.out (by omega) hy
            have hadd := Lib.hid (ptN_add Hs hvoh.out hx hy)
            have hKK := hKh.out
            have cA := Lib.hid (fun wx => show Calls Try.prog 120 #[.agg #[.slice V1 m dca, .slice (some ⟨g2, 0, none⟩) q dcb, .int .i64 (strL L 0), .int .i64 (strL L 1), .int .i64 (strL L 2), .int .i64 (strL L 3)], .int .i64 (k : Int)] wx fun e w' => e = .returned (.int .i64 (x : Int)) ∧ Below wx.heap.size wx w' from by
              have := at_any (.slice V1 m dca) (.slice (some ⟨g2, 0, none⟩) q dcb) L (k : Int) wx hLh.out hst
              rw [hx] at this
              exact this)
            have hgy := Lib.hid (show wr.cell? ⟨g2, x, none⟩ = some (.int .i64 y) from by
              obtain ⟨bb, cc, eb, _, _, _, _, _, hcc⟩ := owns_open g2o.out (by omega)
              injection eb with eb
              injection eb with eb
              subst eb
              rw [hcc x (by omega)]
              exact ints_get hy)
            have hcurH : Hid (Has wr g2 3 (Classical.choose (show ∃ cur, Has wr g2 3 cur from owns_has g2o.out rfl))) := Lib.hid (Classical.choose_spec (show ∃ cur, Has wr g2 3 cur from owns_has g2o.out rfl))
            have hgl := Lib.hid (show g2 < wr.heap.size from (World.ownsRow.lt g2o.out g2 rfl).2)
            have hx0 : (0 : Int) ≤ (x : Int) := by omega
            have hx1 : (x : Int) < (q : Int) := by omega
            have hxqh := Lib.hid hxq
            generalize prodAt Hs (k : Int) = pr at *
            have hwa : IntKind.i64.wrap (y + pr) = y + pr := by rw [IntKind.wrap_i64]; omega
            clear hB hx hy hyb hPb hKK
            go_wp2_with fail
            refine wp_region_any (by kernel_rfl) ?_
            change wpAny _ _ _ _ _ _ _ (World.drew _)
            refine wpAny_last (n := 11) (I := fun listed aq wx => listed.size = 12 ∧ ∃ v40 v41 v42 v43 v44 v45 v46 v47 v48 v49 v50 : Value, aq = { tmps := #[.slice A j c, .int .i64 U, .int .i64 L, undef, undef, undef, .pointer (some ⟨w.heap.size, 0, none⟩), .pointer (some ⟨S, 0, none⟩), .int .i64 ↑k, .int .i64 pr, undef, u11, .int .i64 L, .agg #[.slice V1 m dca, .slice (some ⟨g2, 0, none⟩) q dcb, .int .i64 (strL L 0), .int .i64 (strL L 1), .int .i64 (strL L 2), .int .i64 (strL L 3)], .int .i64 ↑k, .bool true, u16, u17, .int .i64 ↑k, .int .i64 U, .int .i64 (vo U ↑k), .int .i64 ↑k, .bool false, .slice A j c, .int .i64 ↑j, .int .i64 ↑j, .bool false, u27, u28, u29, u30, u31, u32, u33, u34, u35, u36, u37, u38, u39, v40, v41, v42, v43, v44, v45, v46, v47, v48, v49, v50, undef], defers := [] } ∧ (listed.getD 0 false = true → v40 = .pointer (some ⟨S, 0, none⟩)) ∧ (listed.getD 1 false = true → v41 = .pointer (some ⟨S, 1, none⟩)) ∧ (listed.getD 2 false = true → v42 = .slice (some ⟨g2, 0, none⟩) q dcb) ∧ (listed.getD 3 false = true → v43 = .agg #[.slice V1 m dca, .slice (some ⟨g2, 0, none⟩) q dcb, .int .i64 (strL L 0), .int .i64 (strL L 1), .int .i64 (strL L 2), .int .i64 (strL L 3)]) ∧ (listed.getD 4 false = true → v44 = .int .i64 ↑k) ∧ (listed.getD 5 false = true → v45 = .int .i64 (x : Int)) ∧ (listed.getD 6 false = true → v46 = .pointer (some ⟨g2, x, none⟩)) ∧ (listed.getD 7 false = true → v47 = .int .i64 y) ∧ (listed.getD 8 false = true → v48 = .int .i64 pr) ∧ (listed.getD 9 false = true → v49 = .int .i64 (y + pr)) ∧ (listed.getD 10 false = true → v50 = .pointer (some ⟨g2, x, none⟩)) ∧ Below wr.heap.size wr wx) rfl (by kernel_rfl) (by kernel_rfl) ?hs ?hl _ _ _ ?st rfl (by decide) _ (by decide)
            case st =>
              refine ⟨rfl, u40, u41, u42, u43, u44, u45, u46, u47, u48, u49, u50, rfl, ?_, ?_, ?_, ?_, ?_, ?_, ?_, ?_, ?_, ?_, ?_, (Below.refl _ _).drew⟩ <;> (intro e; exact absurd e (by decide))
            case hs =>
              rintro listed aq wx ⟨hz, v40, v41, v42, v43, v44, v45, v46, v47, v48, v49, v50, rfl, hII⟩ i hin hi
              obtain ⟨h0, o, ho, hd⟩ := mem_ready.1 hi
              have K0 := Lib.hid hII.1
              have K1 := Lib.hid hII.2.1
              have K2 := Lib.hid hII.2.2.1
              have K3 := Lib.hid hII.2.2.2.1
              have K4 := Lib.hid hII.2.2.2.2.1
              have K5 := Lib.hid hII.2.2.2.2.2.1
              have K6 := Lib.hid hII.2.2.2.2.2.2.1
              have K7 := Lib.hid hII.2.2.2.2.2.2.2.1
              have K8 := Lib.hid hII.2.2.2.2.2.2.2.2.1
              have K9 := Lib.hid hII.2.2.2.2.2.2.2.2.2.1
              have K10 := Lib.hid hII.2.2.2.2.2.2.2.2.2.2.1
              have hB : Below wr.heap.size wr wx := hII.2.2.2.2.2.2.2.2.2.2.2
              have hne := Lib.hid (fun k (hk : i ≠ k) => @listed_ne listed i k hk)
              have hSx := gS.out.kept hB
              have h0f : listed.getD i false = false := by rw [Array.getD_eq_getD_getElem?, getD_false h0]; rfl
              clear hII hi h0
              rcases (by omega : i = 0 ∨ i = 1 ∨ i = 2 ∨ i = 3 ∨ i = 4 ∨ i = 5 ∨ i = 6 ∨ i = 7 ∨ i = 8 ∨ i = 9 ∨ i = 10) with rfl | rfl | rfl | rfl | rfl | rfl | rfl | rfl | rfl | rfl | rfl
              · cases ho
                refine wpOp_step rfl (fun K hK => ?_)
                go_simp
                refine hK _ _ ⟨by simpa using hz, .pointer (some ⟨S, 0, none⟩), v41, v42, v43, v44, v45, v46, v47, v48, v49, v50, rfl, ?_⟩
                exact ⟨fun _ => rfl, fun e => K1.out (hne.out 1 (by decide) e), fun e => K2.out (hne.out 2 (by decide) e), fun e => K3.out (hne.out 3 (by decide) e), fun e => K4.out (hne.out 4 (by decide) e), fun e => K5.out (hne.out 5 (by decide) e), fun e => K6.out (hne.out 6 (by decide) e), fun e => K7.out (hne.out 7 (by decide) e), fun e => K8.out (hne.out 8 (by decide) e), fun e => K9.out (hne.out 9 (by decide) e), fun e => K10.out (hne.out 10 (by decide) e), hB⟩
              · cases ho
                have d0 := hd ⟨0, .data⟩ (by simp) rfl
                obtain rfl := K0.out d0
                refine wpOp_step rfl (fun K hK => ?_)
                go_simp
                refine hK _ _ ⟨by simpa using hz, .pointer (some ⟨S, 0, none⟩), .pointer (some ⟨S, 1, none⟩), v42, v43, v44, v45, v46, v47, v48, v49, v50, rfl, ?_⟩
                exact ⟨fun e => K0.out (hne.out 0 (by decide) e), fun _ => rfl, fun e => K2.out (hne.out 2 (by decide) e), fun e => K3.out (hne.out 3 (by decide) e), fun e => K4.out (hne.out 4 (by decide) e), fun e => K5.out (hne.out 5 (by decide) e), fun e => K6.out (hne.out 6 (by decide) e), fun e => K7.out (hne.out 7 (by decide) e), fun e => K8.out (hne.out 8 (by decide) e), fun e => K9.out (hne.out 9 (by decide) e), fun e => K10.out (hne.out 10 (by decide) e), hB⟩
              · cases ho
                have d1 := hd ⟨1, .data⟩ (by simp) rfl
                obtain rfl := K1.out d1
                have hxc := hSx.cell
                refine wpOp_step rfl (fun K hK => ?_)
                go_simp
                refine hK _ _ ⟨by simpa using hz, v40, .pointer (some ⟨S, 1, none⟩), .slice (some ⟨g2, 0, none⟩) q dcb, v43, v44, v45, v46, v47, v48, v49, v50, rfl, ?_⟩
                exact ⟨fun e => K0.out (hne.out 0 (by decide) e), fun e => K1.out (hne.out 1 (by decide) e), fun _ => rfl, fun e => K3.out (hne.out 3 (by decide) e), fun e => K4.out (hne.out 4 (by decide) e), fun e => K5.out (hne.out 5 (by decide) e), fun e => K6.out (hne.out 6 (by decide) e), fun e => K7.out (hne.out 7 (by decide) e), fun e => K8.out (hne.out 8 (by decide) e), fun e => K9.out (hne.out 9 (by decide) e), fun e => K10.out (hne.out 10 (by decide) e), hB⟩
              · cases ho
                have hxc := hSx.cell
                refine wpOp_step rfl (fun K hK => ?_)
                go_simp
                refine hK _ _ ⟨by simpa using hz, v40, v41, v42, .agg #[.slice V1 m dca, .slice (some ⟨g2, 0, none⟩) q dcb, .int .i64 (strL L 0), .int .i64 (strL L 1), .int .i64 (strL L 2), .int .i64 (strL L 3)], v44, v45, v46, v47, v48, v49, v50, rfl, ?_⟩
                exact ⟨fun e => K0.out (hne.out 0 (by decide) e), fun e => K1.out (hne.out 1 (by decide) e), fun e => K2.out (hne.out 2 (by decide) e), fun _ => rfl, fun e => K4.out (hne.out 4 (by decide) e), fun e => K5.out (hne.out 5 (by decide) e), fun e => K6.out (hne.out 6 (by decide) e), fun e => K7.out (hne.out 7 (by decide) e), fun e => K8.out (hne.out 8 (by decide) e), fun e => K9.out (hne.out 9 (by decide) e), fun e => K10.out (hne.out 10 (by decide) e), hB⟩
              · cases ho
                refine wpOp_step rfl (fun K hK => ?_)
                go_simp
                refine hK _ _ ⟨by simpa using hz, v40, v41, v42, v43, .int .i64 ↑k, v45, v46, v47, v48, v49, v50, rfl, ?_⟩
                exact ⟨fun e => K0.out (hne.out 0 (by decide) e), fun e => K1.out (hne.out 1 (by decide) e), fun e => K2.out (hne.out 2 (by decide) e), fun e => K3.out (hne.out 3 (by decide) e), fun _ => rfl, fun e => K5.out (hne.out 5 (by decide) e), fun e => K6.out (hne.out 6 (by decide) e), fun e => K7.out (hne.out 7 (by decide) e), fun e => K8.out (hne.out 8 (by decide) e), fun e => K9.out (hne.out 9 (by decide) e), fun e => K10.out (hne.out 10 (by decide) e), hB⟩
              · cases ho
                have d3 := hd ⟨3, .data⟩ (by simp) rfl
                have d4 := hd ⟨4, .data⟩ (by simp) rfl
                obtain rfl := K3.out d3
                obtain rfl := K4.out d4
                refine wpOp_step rfl (fun K hK => ?_)
                go_simp
                go_at_call 120
                refine (cA.out _).mono ?_
                rintro e w3 ⟨rfl, hb3⟩
                refine hK _ _ ⟨by simpa using hz, v40, v41, v42, .agg #[.slice V1 m dca, .slice (some ⟨g2, 0, none⟩) q dcb, .int .i64 (strL L 0), .int .i64 (strL L 1), .int .i64 (strL L 2), .int .i64 (strL L 3)], .int .i64 ↑k, .int .i64 (x : Int), v46, v47, v48, v49, v50, rfl, ?_⟩
                exact ⟨fun e => K0.out (hne.out 0 (by decide) e), fun e => K1.out (hne.out 1 (by decide) e), fun e => K2.out (hne.out 2 (by decide) e), fun e => K3.out (hne.out 3 (by decide) e), fun e => K4.out (hne.out 4 (by decide) e), fun _ => rfl, fun e => K6.out (hne.out 6 (by decide) e), fun e => K7.out (hne.out 7 (by decide) e), fun e => K8.out (hne.out 8 (by decide) e), fun e => K9.out (hne.out 9 (by decide) e), fun e => K10.out (hne.out 10 (by decide) e), hB.trans (hb3.mono hB.size)⟩
              · cases ho
                have d2 := hd ⟨2, .data⟩ (by simp) rfl
                have d5 := hd ⟨5, .data⟩ (by simp) rfl
                obtain rfl := K2.out d2
                obtain rfl := K5.out d5
                refine wpOp_step rfl (fun K hK => ?_)
                go_simp
                refine hK _ _ ⟨by simpa using hz, v40, v41, .slice (some ⟨g2, 0, none⟩) q dcb, v43, v44, .int .i64 (x : Int), .pointer (some ⟨g2, x, none⟩), v47, v48, v49, v50, rfl, ?_⟩
                exact ⟨fun e => K0.out (hne.out 0 (by decide) e), fun e => K1.out (hne.out 1 (by decide) e), fun e => K2.out (hne.out 2 (by decide) e), fun e => K3.out (hne.out 3 (by decide) e), fun e => K4.out (hne.out 4 (by decide) e), fun e => K5.out (hne.out 5 (by decide) e), fun _ => rfl, fun e => K7.out (hne.out 7 (by decide) e), fun e => K8.out (hne.out 8 (by decide) e), fun e => K9.out (hne.out 9 (by decide) e), fun e => K10.out (hne.out 10 (by decide) e), hB⟩
              · cases ho
                have d6 := hd ⟨6, .data⟩ (by simp) rfl
                obtain rfl := K6.out d6
                have hgx := (hB.cell (p := ⟨g2, x, none⟩) hgl.out).trans hgy.out
                refine wpOp_step rfl (fun K hK => ?_)
                go_simp
                refine hK _ _ ⟨by simpa using hz, v40, v41, v42, v43, v44, v45, .pointer (some ⟨g2, x, none⟩), .int .i64 y, v48, v49, v50, rfl, ?_⟩
                exact ⟨fun e => K0.out (hne.out 0 (by decide) e), fun e => K1.out (hne.out 1 (by decide) e), fun e => K2.out (hne.out 2 (by decide) e), fun e => K3.out (hne.out 3 (by decide) e), fun e => K4.out (hne.out 4 (by decide) e), fun e => K5.out (hne.out 5 (by decide) e), fun e => K6.out (hne.out 6 (by decide) e), fun _ => rfl, fun e => K8.out (hne.out 8 (by decide) e), fun e => K9.out (hne.out 9 (by decide) e), fun e => K10.out (hne.out 10 (by decide) e), hB⟩
              · cases ho
                refine wpOp_step rfl (fun K hK => ?_)
                go_simp
                refine hK _ _ ⟨by simpa using hz, v40, v41, v42, v43, v44, v45, v46, v47, .int .i64 pr, v49, v50, rfl, ?_⟩
                exact ⟨fun e => K0.out (hne.out 0 (by decide) e), fun e => K1.out (hne.out 1 (by decide) e), fun e => K2.out (hne.out 2 (by decide) e), fun e => K3.out (hne.out 3 (by decide) e), fun e => K4.out (hne.out 4 (by decide) e), fun e => K5.out (hne.out 5 (by decide) e), fun e => K6.out (hne.out 6 (by decide) e), fun e => K7.out (hne.out 7 (by decide) e), fun _ => rfl, fun e => K9.out (hne.out 9 (by decide) e), fun e => K10.out (hne.out 10 (by decide) e), hB⟩
              · cases ho
                have d7 := hd ⟨7, .data⟩ (by simp) rfl
                have d8 := hd ⟨8, .data⟩ (by simp) rfl
                obtain rfl := K7.out d7
                obtain rfl := K8.out d8
                refine wpOp_step rfl (fun K hK => ?_)
                go_simp
                refine hK _ _ ⟨by simpa using hz, v40, v41, v42, v43, v44, v45, v46, .int .i64 y, .int .i64 pr, .int .i64 (y + pr), v50, rfl, ?_⟩
                exact ⟨fun e => K0.out (hne.out 0 (by decide) e), fun e => K1.out (hne.out 1 (by decide) e), fun e => K2.out (hne.out 2 (by decide) e), fun e => K3.out (hne.out 3 (by decide) e), fun e => K4.out (hne.out 4 (by decide) e), fun e => K5.out (hne.out 5 (by decide) e), fun e => K6.out (hne.out 6 (by decide) e), fun e => K7.out (hne.out 7 (by decide) e), fun e => K8.out (hne.out 8 (by decide) e), fun _ => rfl, fun e => K10.out (hne.out 10 (by decide) e), hB⟩
              · cases ho
                have d2 := hd ⟨2, .data⟩ (by simp) rfl
                have d5 := hd ⟨5, .data⟩ (by simp) rfl
                obtain rfl := K2.out d2
                obtain rfl := K5.out d5
                refine wpOp_step rfl (fun K hK => ?_)
                go_simp
                refine hK _ _ ⟨by simpa using hz, v40, v41, .slice (some ⟨g2, 0, none⟩) q dcb, v43, v44, .int .i64 (x : Int), v46, v47, v48, v49, .pointer (some ⟨g2, x, none⟩), rfl, ?_⟩
                exact ⟨fun e => K0.out (hne.out 0 (by decide) e), fun e => K1.out (hne.out 1 (by decide) e), fun e => K2.out (hne.out 2 (by decide) e), fun e => K3.out (hne.out 3 (by decide) e), fun e => K4.out (hne.out 4 (by decide) e), fun e => K5.out (hne.out 5 (by decide) e), fun e => K6.out (hne.out 6 (by decide) e), fun e => K7.out (hne.out 7 (by decide) e), fun e => K8.out (hne.out 8 (by decide) e), fun e => K9.out (hne.out 9 (by decide) e), fun _ => rfl, hB⟩
            case hl =>
              rintro listed aq wx ⟨hz, v40, v41, v42, v43, v44, v45, v46, v47, v48, v49, v50, rfl, hII⟩ hall
              have K0 := Lib.hid hII.1
              have K1 := Lib.hid hII.2.1
              have K2 := Lib.hid hII.2.2.1
              have K3 := Lib.hid hII.2.2.2.1
              have K4 := Lib.hid hII.2.2.2.2.1
              have K5 := Lib.hid hII.2.2.2.2.2.1
              have K6 := Lib.hid hII.2.2.2.2.2.2.1
              have K7 := Lib.hid hII.2.2.2.2.2.2.2.1
              have K8 := Lib.hid hII.2.2.2.2.2.2.2.2.1
              have K9 := Lib.hid hII.2.2.2.2.2.2.2.2.2.1
              have K10 := Lib.hid hII.2.2.2.2.2.2.2.2.2.2.1
              have hB : Below wr.heap.size wr wx := hII.2.2.2.2.2.2.2.2.2.2.2
              have hSx := gS.out.kept hB
              clear hII
              obtain rfl := K0.out (hall 0 (by decide))
              obtain rfl := K1.out (hall 1 (by decide))
              obtain rfl := K2.out (hall 2 (by decide))
              obtain rfl := K3.out (hall 3 (by decide))
              obtain rfl := K4.out (hall 4 (by decide))
              obtain rfl := K5.out (hall 5 (by decide))
              obtain rfl := K6.out (hall 6 (by decide))
              obtain rfl := K7.out (hall 7 (by decide))
              obtain rfl := K8.out (hall 8 (by decide))
              obtain rfl := K9.out (hall 9 (by decide))
              obtain rfl := K10.out (hall 10 (by decide))
              clear hall K0 K1 K2 K3 K4 K5 K6 K7 K8 K9 K10
              have hgx := (hB.cell (p := ⟨g2, x, none⟩) hgl.out).trans hgy.out
              have hgf := (hcurH.out.kept hB).frozen x
              refine wpOp_step rfl (fun K0 hK0 => ?_)
              go_simp
              refine hK0 _ _ ?_
              clear hK0
              have hk1 := (KeptBut.refl wx (fun i => i = g2)).put (p := ⟨g2, x, none⟩) (fun _ => rfl) (.int .i64 (y + pr))
              have h1w := g1.out.below hB
              have n1 := Lib.hid (h1w.but hk1 (fun b hb e => hne.out b hb e))
              have n2 := Lib.hid (show (wx.setCell ⟨g2, x, none⟩ (.int .i64 (y + pr))).ownsRow w.heap.size 3 1 (.slice (some ⟨g2, 0, none⟩) q dcb) q (ints (ptN Hs U L (k + 1))) from by
                rw [← hadd.out]
                exact owns_set (owns_but g2o.out (KeptBut.of_below hB (fun _ => False)) (fun _ _ e => e)) hxqh.out)
              have nS := Lib.hid (hSx.far (p := ⟨g2, x, none⟩) (by show S ≠ g2; have := hSw.out.2; omega) (.int .i64 (y + pr)))
              have nR := Lib.hid ((gR.out.kept hB).far (p := ⟨g2, x, none⟩) (by show w.heap.size ≠ g2; have := hgw.out; omega) (.int .i64 (y + pr)))
              have nB := Lib.hid ((hBw.out.trans (hB.mono hBw.out.size)).setCell (p := ⟨g2, x, none⟩) (by show w.heap.size ≤ g2; have := hgw.out; omega) (.int .i64 (y + pr)))
              clear hk1 h1w hSx hB hgx hgf
              go_wp2_with fail
              go_roundg (81 - (k + 1))
              case measure => omega
              case rel => exact ⟨k + 1, by omega, rfl, by go_num, nS.out, n1.out, n2.out, nR.out, nB.out⟩
      · have hvn : (vo U (k : Int) != (k : Int)) = true := by simp [hvo]
        have hsk := Lib.hid (ptN_skip Hs (L := L) hvo)
        clear hvo
        go_wp2_with fail
        refine (cVk.out _).mono ?_
        rintro e w' ⟨rfl, rfl⟩
        go_wp2_with fail
        go_roundg (81 - (k + 1))
        case measure => omega
        case rel => exact ⟨k + 1, by omega, rfl, by go_num, kS.out, k1.out, by rw [hsk.out]; exact k2.out, kR.out, kB.out⟩
    · obtain rfl : k = 81 := by omega
      have hpl : (ptN Hs U L 81).length = q := by rw [ptN_len, hqh.out]
      have hVs : FcV wr w.heap.size (.slice V1 m dca) (.slice (some ⟨g2, 0, none⟩) q dcb) (sumT Hs U L) := ⟨k1.out, by
        unfold IOwn
        rw [show (sumT Hs U L).ns = ptN Hs U L 81 from rfl, hpl]
        exact k2.out, fun b e1 e2 => by
        have : g2 = b := by simpa [Value.ownBlock] using e2
        exact hne.out b e1 this.symm⟩
      have hsz : (Try.prog.info? 79).map (·.size) = some 6 := by kernel_rfl
      have hS6 := kS.out
      obtain ⟨cs, hcs⟩ : ∃ cs, (#[Value.slice V1 m dca, .slice (some ⟨g2, 0, none⟩) q dcb, .int .i64 (strL L 0), .int .i64 (strL L 1), .int .i64 (strL L 2), .int .i64 (strL L 3)] : Array Value) = cs := ⟨_, rfl⟩
      have hcz : cs.size = 6 := by rw [← hcs]; rfl
      have hone : cs.all (·.oneCell') = true := by rw [← hcs]; simp [Value.oneCell']
      have hse : strA (.slice V1 m dca) (.slice (some ⟨g2, 0, none⟩) q dcb) (strL (setOf (sumT Hs U L).vs)) = cs := by
        rw [← hcs, show setOf (sumT Hs U L).vs = L from hseth.out]
        rfl
      rw [hcs] at hS6
      have hL1 := Lib.hid (show (Try.prog.info? 79).map (·.size) = some cs.toList.length by rw [hsz]; simp [hcz])
      have hS1 := Lib.hid (show (Try.prog.info? 79).map (·.size) = some cs.size by rw [hsz, hcz])
      have hR1 := Lib.hid (has_range_ (o := 0) (vs := cs.toList) hS6 (fun j v hv => by rw [Nat.zero_add]; simpa using hv))
      obtain ⟨cs', hC1, hC2, hC3, _⟩ := has_setCells_ cs.toList 0 wr _ kR.out (by simp [hcz])
      have hC4 : cs' = cs := by
        apply Array.ext_getElem?
        intro i
        by_cases hi : i < cs.size
        · have := hC3 i cs[i] (by simp [hi])
          rw [Nat.zero_add] at this
          rw [this, Array.getElem?_eq_getElem hi]
        · rw [Array.getElem?_eq_none (by rw [hC2]; show 6 ≤ i; omega), Array.getElem?_eq_none (by omega)]
      subst hC4
      have hT1 := Lib.hid (has_there_ (o := 0) (n := cs'.size) kR.out (by rw [hcz]; exact Nat.le_refl 6))
      have hBn := Lib.hid (below_setCells_ (Nat.le_refl w.heap.size) cs'.toList 0 _ kB.out)
      have hlv := Lib.hid (run_loadVar_row (P := Try.prog) _ w.heap.size 79 79 cs' (0, 0) _ hC1 Try.underlying79 rfl hS1.out)
      have hVe := Lib.hid (fcv_setCells hVs kR.out cs'.toList 0)
      have hoh := Lib.hid hone
      have hseh := Lib.hid hse
      clear hS6 hsz hcs hcz hone hC1 hC2 hC3 hpl hVs hse
      go_wp2_with (first
        | (refine wpList_load_mid rfl 79 (.tmp 7) rfl S 0 (by simp [Act.eval]) cs'.toList _ hR1.out Try.underlying79 rfl hL1.out ?_)
        | (refine wpList_store_mid rfl 79 (.tmp 6) (.tmp 51) rfl w.heap.size 0 cs' (by rfl) (by rfl) hT1.out hS1.out hoh.out ?_))
      refine bodyPost_ret (v := .agg cs') (by rw [results_cell_ rfl]; simp [asAddr, Result.andThen, Act.put, hlv.out]) rfl ?_
      exact ⟨_, _, by rw [hseh.out], hVe.out, hBn.out⟩
end Go.Proofs.Ytaipdkfbkcknkaa
