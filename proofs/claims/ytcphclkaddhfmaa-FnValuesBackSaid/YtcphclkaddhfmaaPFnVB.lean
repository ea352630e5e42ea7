/- For every list of bytes: of the drawn program and the drawn numbers the program's ValuesBack and WorthOf return what the model's return; nothing where it is refused, and else in five states the sum of the numbers times the weights from there. No condition. -/
import Derived.Test.YtcphclkaddhfmaaRows
import Derived.Test.YtcphclkaddhfmaaDz
import Derived.Test.YtcphclkaddhfmaaVp
import Derived.Test.YtcphclkaddhfmaaNm
import Derived.Test.YtcphclkaddhfmaaKt
import Derived.ProofKit
import Derived.OpenShut
import Derived.ShutString
import Derived.ChangeOld
import Derived.Below
namespace Go.Proofs.Ytcphclkaddhfmaa.fnValuesBack
open Go.ChangeShapes Go.WideShapes Go.ChangeAt Go.RowKit 
set_option linter.unusedVariables false
set_option maxRecDepth 100000

theorem own : ownKnob Try.prog.godebug = none := by kernel_rfl
theorem laidOut : laidOutB Try.prog = true := by kernel_rfl

theorem DrawValuesBack_any (A : Option Addr) (n c : Nat) (w : World) (h : Byt w w.heap.size A n) (hn : n ≤ c) (hc : c ≤ maxLen) :
    Calls Try.prog 33 #[.slice A n c] w (Psd w) := by
  have c1 := Lib.hid (l5Case_any A n c w h hn hc)
  clear h hc
  go_enter Try.func33, Try.ntmps33
  go_wp2_with fail
  refine (c1.out).mono ?_
  rintro e w1 ⟨v, u, ps, ds, rfl, ho, hl, hi, hd, hb⟩
  have hF := Lib.hid (show Psd w (.returned (.tuple #[v, u])) w1 from ⟨v, u, ps, ds, rfl, ho, hl, hi, hd, hb⟩)
  clear ho hi
  go_wp2_with fail
  go_ret2
  exact hF.out
theorem vb_no {ps : List St} {ds : List Int} (h : vbOk ps ds = false) : vbOf ps ds = [] := by
  unfold vbOk at h
  unfold vbOf
  cases hu : unrolled ps with
  | none => rfl
  | some os =>
    rw [hu] at h
    have hk : lstOk 9 ds = false := by simpa using h
    dsimp only
    rw [hk]; simp
theorem vb_yes {ps : List St} {ds : List Int} (h : vbOk ps ds = true) : ∃ os, unrolled ps = some os ∧ lstOk 9 ds = true ∧ vbOf ps ds = rowL (valAt (hOf ds) os 0) ∧ woOf ps ds = valAt (hOf ds) os 0 0 := by
  unfold vbOk at h
  cases hu : unrolled ps with
  | none => rw [hu] at h; cases h
  | some os =>
    rw [hu] at h
    have hk : lstOk 9 ds = true := by simpa using h
    refine ⟨os, rfl, hk, ?_, ?_⟩
    · unfold vbOf; rw [hu]; simp [hk]
    · unfold woOf; rw [hu]; simp [hk]
theorem rsum_part_le {v : Int → Int} (hv : ∀ k, 0 ≤ v k) {l : List Int} (hl : ∀ x ∈ l, 0 ≤ x) (k : Nat) : 0 ≤ rsum v (l.take k) 0 ∧ rsum v (l.take k) 0 ≤ rsum v l 0 := by
  have h1 := rsum_nonneg hv (r := l.take k) 0 (fun x hx => hl x (List.mem_of_mem_take hx))
  have h2 := rsum_nonneg hv (r := l.drop k) (0 + (l.take k).length) (fun x hx => hl x (List.mem_of_mem_drop hx))
  have h3 := rsum_append v (l.take k) (l.drop k) 0
  rw [List.take_append_drop] at h3
  omega
/-- The sum of the numbers times the weights from a state on. -/
theorem back_sum {ps os : List St} {ds : List Int} {st : Nat} (hu : unrolled ps = some os) (hk : lstOk 9 ds = true) (hst : st ≤ 80) :
    weightsFrom ps st = wts os st ∧ rsum (hOf ds) (wts os st) 0 = valAt (hOf ds) os 0 st ∧ (∀ k, 0 ≤ rsum (hOf ds) ((wts os st).take k) 0 ∧ rsum (hOf ds) ((wts os st).take k) 0 ≤ 1350851717672992089) ∧ ∀ x ∈ wts os st, 0 ≤ x := by
  obtain ⟨_, hlen, _, _, hOK⟩ := unrolled_parts hu
  have hok : ∀ s ∈ os, s.ok = true := fun s hs => List.all_eq_true.1 hOK s hs
  have hsb : (0 : Int) ≤ (st : Int) ∧ (st : Int) ≤ 80 := by omega
  have e1 : rsum (hOf ds) (wts os st) 0 = valAt (hOf ds) os 0 st := (val_states (hOf ds) hok hsb).symm
  have hnn : ∀ x ∈ wts os st, 0 ≤ x := fun x hx => by
    unfold wts at hx
    obtain ⟨q, _, rfl⟩ := List.mem_map.1 hx
    exact (valAt_bd (h := ind q) (H := 1) (os := os) (i := 0) (fun st _ _ => by unfold ind; split <;> decide) (by decide) hok hsb).1
  have hb := valAt_bd (h := hOf ds) (H := 9) (os := os) (i := 0) (fun st _ _ => hOf_bd (by decide) hk st) (by decide) hok hsb
  have h2 := pow27_le (show os.length - 0 ≤ 12 by omega)
  have h3 : (27 : Int) ^ 12 = 150094635296999121 := by decide
  refine ⟨?_, e1, fun k => ?_, hnn⟩
  · unfold weightsFrom
    rw [hu]
    exact if_pos (inB_iff.2 hsb)
  · have := rsum_part_le (fun k => (hOf_bd (by decide) hk k).1) hnn k
    omega

set_option maxHeartbeats 2000000 in
theorem walk {H : Type} (enc : TypeId × Value → H) (W : World) (base : Nat) (v0 : Value) (d0 : DataW H) (p0 : List MemPlace) (hv0 : Value.okWide Try.prog W .any base 22 v0)
    (h0 : DataW.Trod enc Try.prog W 0 (fun _ => true) true 22 v0 d0 p0) (_ : ∀ x ∈ p0, x.block < W.heap.size) :
    Calls Try.prog 9 #[v0] W fun e w' => e = .returned (.bool true) ∧ Below W.heap.size W w' := by
  obtain ⟨A, n, c, rfl, hn, hc, hb⟩ := open_bytes hv0 h0
  clear hv0 h0
  have hcM := Lib.hid hc
  have hnn : n ≤ 9223372036854775807 := by unfold maxLen at hc; omega
  clear hc
  by_cases h1 : 1048576 < n
  · go_enter Try.func9, Try.ntmps9
    go_wp2_with fail
    go_ret
    exact ⟨rfl, Below.refl _ _⟩
  have hni : ¬ ((1048576 : Int) < (n : Int)) := by omega
  go_enter Try.func9, Try.ntmps9
  go_wp2_with fail
  refine (DrawValuesBack_any A n c _ hb hn hcM.out).mono ?_
  rintro e w1 ⟨v, u, ps, ds, rfl, hO, hl11, hI, hd82, hB1⟩
  obtain ⟨A1, c1, hv, hlc, hcm⟩ := hO.form
  subst hv
  obtain ⟨D1, k1, hu1, hkc, hkm⟩ := hI.form
  subst hu1
  have hP1 := Lib.hid hO.lst
  have hD1 := Lib.hid hI.lst
  have hB1' := Lib.hid hB1
  have hbg : ps.length ≤ 1048576 := by omega
  have hdl : ds.length ≤ maxLen := Nat.le_trans hkc hkm
  have hlx := Lib.hid (fun wx (hx : Below w1.heap.size w1 wx) => (hP1.out.below hx).more hx.size)
  have hdx := Lib.hid (fun wx (hx : Below w1.heap.size w1 wx) => (hD1.out.below hx).more hx.size)
  have cV := Lib.hid (fun wx hx => ValuesBack_any A1 D1 ps.length c1 ds.length k1 ps ds wx (hlx.out wx hx) hlc hcm (hdx.out wx hx) hdl)
  have cVs := Lib.hid (fun wx hx => specValuesBack_any A1 D1 ps.length c1 ds.length k1 ps ds wx (hlx.out wx hx) hlc hcm hbg (hdx.out wx hx) hdl)
  have cW := Lib.hid (fun wx hx => WorthOf_any A1 D1 ps.length c1 ds.length k1 ps ds wx (hlx.out wx hx) hlc hcm (hdx.out wx hx) hdl)
  have cWs := Lib.hid (fun wx hx => specWorthOf_any A1 D1 ps.length c1 ds.length k1 ps ds wx (hlx.out wx hx) hlc hcm hbg (hdx.out wx hx) hdl)
  have cF := Lib.hid (fun (st : Nat) wx hx => WeightsFrom_any A1 ps.length c1 ps st wx (hlx.out wx hx) hlc hcm)
  unfold Lbd at cV cVs
  unfold Wtsd at cF
  have hvl := vbOf_len ps ds
  have hY := Lib.hid (vb_yes (ps := ps) (ds := ds))
  have hNo := Lib.hid (vb_no (ps := ps) (ds := ds))
  generalize vbOf ps ds = bk at cV cVs hvl hY hNo
  generalize woOf ps ds = wo at cW cWs hY
  have n1 : (wo != wo) = false := by simp
  clear hO hI hB1 hb hlc hcm
  cases hok : vbOk ps ds
  · rw [hok] at cV cVs cW cWs
    obtain rfl := hNo.out hok
    clear hok
    go_wp2_with (first
      | (go_at_call 23; refine (cV.out _ (Below.refl _ _)).mono ?_; rintro e w2 ⟨v2, rfl, ho2, hb2⟩; obtain ⟨A2, c2, rfl, _, _⟩ := ho2.form)
      | (go_at_call 20; refine (cVs.out _ hb2).mono ?_; rintro e w3 ⟨v3, rfl, ho3, hb3⟩; obtain ⟨A3, c3, rfl, _, _⟩ := ho3.form; have hb3' := hb2.trans (hb3.mono hb2.size))
      | (go_at_call 17; refine (cW.out _ hb3').mono ?_; rintro e w4 ⟨rfl, hb4⟩; have hb4' := hb3'.trans (hb4.mono hb3'.size))
      | (go_at_call 32; refine (cWs.out _ hb4').mono ?_; rintro e w5 ⟨rfl, hb5⟩; have hb5' := hb4'.trans (hb5.mono hb4'.size))
      | (go_at_call 14; refine (wcInts_any A2 A3 _ _ c2 c3 [] [] _ (IOwn.lst (((ho2.below hb3).below hb4).below hb5)) (IOwn.lst ((ho3.below hb4).below hb5)) (by decide) (by decide)).mono ?_; rintro e w6 ⟨rfl, q6, rfl⟩))
    go_ret
    exact ⟨rfl, hB1'.out.trans ((below_drewN hb5' _).mono hB1'.out.size)⟩
  · rw [hok] at cV cVs cW cWs
    obtain ⟨os, hu, hls, rfl, rfl⟩ := hY.out hok
    have hd81 := Lib.hid (lstOk_bd hls).1
    have hBs := Lib.hid (fun (st : Nat) (hst : st ≤ 80) => back_sum hu hls hst)
    clear hok hls hu
    go_wp2_with (first
      | (go_at_call 23; refine (cV.out _ (Below.refl _ _)).mono ?_; rintro e w2 ⟨v2, rfl, ho2, hb2⟩; obtain ⟨A2, c2, hv2, _, _⟩ := ho2.form; rw [rowL_length] at hv2; subst hv2)
      | (go_at_call 20; refine (cVs.out _ hb2).mono ?_; rintro e w3 ⟨v3, rfl, ho3, hb3⟩; obtain ⟨A3, c3, hv3, _, _⟩ := ho3.form; rw [rowL_length] at hv3; subst hv3; have hb3' := hb2.trans (hb3.mono hb2.size))
      | (go_at_call 17; refine (cW.out _ hb3').mono ?_; rintro e w4 ⟨rfl, hb4⟩; have hb4' := hb3'.trans (hb4.mono hb3'.size))
      | (go_at_call 32; refine (cWs.out _ hb4').mono ?_; rintro e w5 ⟨rfl, hb5⟩; have hb5' := hb4'.trans (hb5.mono hb4'.size); have ho5 := ((ho2.below hb3).below hb4).below hb5)
      | (go_at_call 14; refine (wcInts_any A2 A3 81 81 c2 c3 (rowL (valAt (hOf ds) os 0)) (rowL (valAt (hOf ds) os 0)) _ ho5.lst (IOwn.lst ((ho3.below hb4).below hb5)) (by decide) (by decide)).mono ?_; rintro e w6 ⟨rfl, q6, rfl⟩))
    have hb6 := below_drewN hb5' q6
    have ho6 := ho5.below (below_drewN (Below.refl w5.heap.size w5) q6)
    have hX : Has ((w5.drewN q6).alloc (.cells #[.int .i64 0, .int .i64 1, .int .i64 5, .int .i64 40, .int .i64 80] 3)) w5.heap.size 3 #[.int .i64 0, .int .i64 1, .int .i64 5, .int .i64 40, .int .i64 80] := Has.new (w5.drewN q6) _ _
    have hoX := Lib.hid (ho6.alloc (.cells #[.int .i64 0, .int .i64 1, .int .i64 5, .int .i64 40, .int .i64 80] 3))
    have hbX := Lib.hid (hb6.alloc hb6.size (.cells #[.int .i64 0, .int .i64 1, .int .i64 5, .int .i64 40, .int .i64 80] 3))
    clear hb2 hb3 hb3' hb4 hb4' hb5 hb5' ho2 ho3 ho5 hb6 ho6
    generalize (w5.drewN q6).alloc (.cells #[.int .i64 0, .int .i64 1, .int .i64 5, .int .i64 40, .int .i64 80] 3) = w7 at hX hoX hbX ⊢
    generalize w5.heap.size = X at hX ⊢
    have hXh := Lib.hid hX
    have hXs := Lib.hid (show ∀ j : Nat, j < 5 → ∃ st : Nat, st ≤ 80 ∧ (#[.int .i64 0, .int .i64 1, .int .i64 5, .int .i64 40, .int .i64 80] : Array Value)[j]? = some (.int .i64 st) from fun j hj => by
      rcases (by omega : j = 0 ∨ j = 1 ∨ j = 2 ∨ j = 3 ∨ j = 4) with rfl | rfl | rfl | rfl | rfl
      · exact ⟨0, by decide, rfl⟩
      · exact ⟨1, by decide, rfl⟩
      · exact ⟨5, by decide, rfl⟩
      · exact ⟨40, by decide, rfl⟩
      · exact ⟨80, by decide, rfl⟩)
    clear hX
    go_loopg [76] 5 (fun gn v wr => ∃ j : Nat, j ≤ 5 ∧ gn = 5 - j ∧ v = .int .i64 j ∧ Below w7.heap.size w7 wr)
    case atStart => exact ⟨0, by omega, rfl, rfl, Below.refl _ _⟩
    case round =>
      obtain ⟨j, hj, hgn, rfl, hbr⟩ := hrel
      obtain ⟨gk1, rfl⟩ : ∃ x, x = gk := ⟨_, rfl⟩
      obtain ⟨w8, rfl⟩ : ∃ x, x = wr := ⟨_, rfl⟩
      have hgk : gk1 = 5 - j := hgn
      have hb8 := Lib.hid (hbX.out.trans (hbr.mono hbX.out.size))
      have hbr8 := Lib.hid hbr
      have ho8 := Lib.hid (hoX.out.below hbr)
      have hX8 := (hXh.out.kept hbr).cell j
      clear hgn hbr
      by_cases hj5 : j < 5
      · obtain ⟨st, hst, hce⟩ := hXs.out j hj5
        have cX := hX8.trans hce
        have hj0 : (0 : Int) ≤ (j : Int) := by omega
        have hj1 : (j : Int) < 5 := by omega
        obtain ⟨hwf, hsum, hpart, hnn9⟩ := hBs.out st hst
        have hSum := Lib.hid hsum
        have hPart := Lib.hid hpart
        have hWl := wts_length os st
        clear hX8 hce hsum hpart hnn9
        go_wp2_with fail
        refine (cF.out st _ hb8.out).mono ?_
        rw [hwf]
        rintro e w9 ⟨v9, rfl, ho9, hb9⟩
        obtain ⟨A9, c9, hv9, _, _⟩ := ho9.form
        rw [hWl] at hv9
        subst hv9
        have ho9' := Lib.hid ho9
        have hbr9 := Lib.hid (hbr8.out.trans (hb9.mono hbr8.out.size))
        clear ho9 hb9 cX hwf
        go_wp2_with fail
        go_loopg [15, 84] 81 (fun gn a v wr => ∃ q : Nat, q ≤ 81 ∧ gn = 81 - q ∧ v = .int .i64 q ∧ a = .int .i64 (rsum (hOf ds) ((wts os st).take q) 0) ∧ wr = w9)
        case atStart => exact ⟨0, by omega, rfl, rfl, rfl, rfl⟩
        case round =>
          obtain ⟨q, hq, hgn, rfl, rfl, hwr⟩ := hrel
          obtain ⟨gk2, rfl⟩ : ∃ x, x = gk := ⟨_, rfl⟩
          subst hwr
          have hgk2 : gk2 = 81 - q := hgn
          clear hgn
          by_cases hq81 : q < 81
          · have hq0 : (0 : Int) ≤ (q : Int) := by omega
            have hq1 : (q : Int) < 81 := by omega
            have hbw : Below w1.heap.size w1 wr := hbX.out.trans (hbr9.out.mono hbX.out.size)
            obtain ⟨g1, f1, e1, rfl, hg1, hd1, c1'⟩ := ho9'.out.lst.at_ hq81
            obtain ⟨g2, f2, e2, rfl, hg2, hd2, c2'⟩ := (hdx.out _ hbw).at_ (by rw [hd81.out]; exact hq81)
            have hdn : (q : Int) < (ds.length : Int) := by rw [hd81.out]; exact hq1
            have he2 : hOf ds q = e2 := by
              unfold hOf
              rw [Int.toNat_natCast, List.getD_eq_getElem?_getD, hd2]; rfl
            have hT := Lib.hid (rsum_take (hOf ds) hd1)
            have hp1 := hPart.out q
            have hp2 := hPart.out (q + 1)
            rw [hT.out, he2] at hp2
            have hTe := Lib.hid (show rsum (hOf ds) ((wts os st).take (q + 1)) 0 = rsum (hOf ds) ((wts os st).take q) 0 + e1 * e2 by rw [hT.out, he2])
            have hee : 0 ≤ e1 * e2 ∨ e1 * e2 < 0 := by omega
            have hwm : IntKind.i64.wrap (e1 * e2) = e1 * e2 := IntWalk.i64_in _ (by omega)
            have hws : IntKind.i64.wrap (rsum (hOf ds) ((wts os st).take q) 0 + e1 * e2) = rsum (hOf ds) ((wts os st).take q) 0 + e1 * e2 := IntWalk.i64_in _ (by omega)
            generalize rsum (hOf ds) ((wts os st).take q) 0 = sq at hws hTe hp1 hp2 ⊢
            clear hd1 hd2 he2 hp1 hp2 hee hbw
            go_wp2_with fail
            go_roundg (81 - (q + 1))
            case measure => omega
            case rel => exact ⟨q + 1, by omega, rfl, by go_num, by rw [hTe.out], rfl⟩
          · obtain rfl : q = 81 := by omega
            have htake : (wts os st).take 81 = wts os st := List.take_of_length_le (by rw [hWl]; exact Nat.le_refl _)
            rw [htake, hSum.out]
            have hst0 : (0 : Int) ≤ (st : Int) := by omega
            have hst1 : (st : Int) < 81 := by omega
            have hst81 : st < 81 := by omega
            obtain ⟨g3, f3, e3, rfl, hg3, hd3, c3'⟩ := ((hoX.out.below hbr9.out).lst).at_ hst81
            rw [rowL_at hst81] at hd3
            obtain rfl := Option.some.inj hd3
            clear htake hd3
            generalize valAt (hOf ds) os 0 st = z at c3' ⊢
            have hzz : (z != z) = false := by simp
            go_wp2_with fail
            go_roundg (5 - (j + 1))
            case measure => omega
            case rel => exact ⟨j + 1, by omega, rfl, by go_num, hbr9.out⟩
      · obtain rfl : j = 5 := by omega
        obtain ⟨g3, f3, e3, rfl, hg3, hd3, c3'⟩ := (ho8.out.lst).at_ (show 0 < 81 by decide)
        rw [rowL_at (show 0 < 81 by decide)] at hd3
        obtain rfl := Option.some.inj hd3
        have c3z : w8.cell? ⟨g3, f3, none⟩ = some (.int .i64 (valAt (hOf ds) os 0 0)) := c3'
        clear hd3 c3' hX8
        generalize valAt (hOf ds) os 0 0 = z at c3z ⊢
        have hzz : (z == z) = true := by simp
        go_wp2_with fail
        go_ret
        exact ⟨rfl, hB1'.out.trans (hb8.out.mono hB1'.out.size)⟩

set_option maxRecDepth 100000 in
theorem lifted (os : Os) (started : os.Started) (H : Type) (enc : TypeId × Value → H) :
    ReturnsInHanded {} Try.checked os 9 .any (Rows.fnValuesBackSpec.pre6 enc Try.prog Try.f9 Rows.fnValuesBackRow.domain false) (Rows.fnValuesBackSpec.post enc Try.prog Try.f9 false true false false) := by
  refine returnsInHanded_of_change (C := Try.checked) own started (by kernel_rfl) Try.func9
    (ChangeSpec.witness6 (enc := enc) (C := Try.checked) false ⟨#[], #[.slice none 0 0], []⟩ 8 (by kernel_rfl) (by kernel_rfl) (by kernel_rfl) (by kernel_rfl)) ?_
  intro W base args ds gs before hval0 hW hcnd _
  have hval : ∀ (j : Nat) t v, Try.f9.params[j]? = some t → args[j]? = some v → Value.okWide Try.prog W .any base t v := hval0
  have hW' := hW
  obtain ⟨p, q, hA0, hV, rfl, hfz, hnd⟩ := hW
  have hA : DataW.TrodAll enc Try.prog W 0 (fun _ => true) true Try.f9.params.toList args.toList ds p := hA0
  rw [Try.params9] at hA hval
  obtain ⟨v0, vs0, d0, ds0, p0, q0, hargs, rfl, rfl, h0, r0⟩ := trodAll_cons hA
  obtain ⟨rfl, rfl, rfl⟩ := trodAll_nil r0
  obtain rfl : args = #[v0] := by cases args; simp_all
  obtain ⟨rfl, rfl⟩ := trodVars_none hV
  have lt0 : ∀ x ∈ p0, x.block < W.heap.size := by
    obtain ⟨m, hm⟩ := h0
    exact DataW.trod_lt m _ _ _ hm
  clear hA0 hval0
  refine (walk enc W base v0 d0 p0 (hval 0 22 v0 rfl rfl) h0 lt0).mono fun e W' ⟨he, bel⟩ => ?_
  subst he
  exact ⟨_, rfl, _, _, _, [], _, [], hW', trodAll_mk1 (shut_bool Try.underlying4 _), (trodAll_cons_mk (Below.trod laidOut (by kernel_rfl) (of_decide_eq_true (by kernel_rfl)) h0 bel lt0) trodAll_mk0), rfl, bel.frame _, fun h => by cases h⟩

theorem proved : Rows.FnValuesBackSaid :=
  OpenClaim.holds_of_wide 9 Try.f9 rfl rfl rfl rfl rfl rfl rfl ⟨rfl, rfl, rfl, rfl, rfl⟩ rfl rfl rfl rfl rfl (by kernel_rfl) Try.func9 (by kernel_rfl)
    (of_decide_eq_true (by kernel_rfl)) (by unfold Func.isWrapper; first | (rw [if_pos (by decide +kernel)]; kernel_rfl) | (rw [if_neg (by decide +kernel)]; exact ⟨rfl, rfl⟩))
    (fun os started H enc _ => lifted os started H enc)
end Go.Proofs.Ytcphclkaddhfmaa.fnValuesBack
