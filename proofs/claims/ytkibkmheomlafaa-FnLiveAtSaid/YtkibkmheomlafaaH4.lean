/- What is seen of a program: the program's SeenOf; the model's. -/
import Derived.Test.YtkibkmheomlafaaH0
import Derived.Test.YtkibkmheomlafaaAb
import Derived.Test.YtkibkmheomlafaaMdf
namespace Go.Proofs.Ytkibkmheomlafaa
set_option maxRecDepth 100000
set_option linter.unusedVariables false
open Go.RowKit

theorem mk_vo (S x : Int) : mk S x = vo S x := rfl
theorem vo_congr {L a b : Int} (ha : 0 ≤ a ∧ a ≤ 80) (hb : 0 ≤ b ∧ b ≤ 80) (h : agree L a b) : vo L a = vo L b := by
  refine agree_all (vo_bd ha) (vo_bd hb) fun v hv _ => ?_
  cases ht : tb L v
  · exact (voN_zero ha 4 (by decide) v (by omega) ht).trans (voN_zero hb 4 (by decide) v (by omega) ht).symm
  · rw [vo_agree ha v hv ht, vo_agree hb v hv ht, h v hv ht]
/-- The runs in the end, those alike in what is asked as one, have the weights as they are seen. -/
theorem wl_seen {os : List St} {S : Int} {rs : Fr} (hok : ∀ s ∈ os, s.ok = true) (hF : FrOk rs) (hT : ∀ h, Resp S h → sumV h rs = valAt h os 0 0) (hN : ∀ p ∈ rs, vo S p.1 = p.1) : wl rs = seen S (wts os 0) := by
  refine List.ext_getElem? fun q => ?_
  by_cases hq : q < 81
  · rw [wl_at rs hq, seen_at hok S hq]
    congr 1
    have h1 := hT (fun st => if mk S st = q then 1 else 0) (fun a b ha hb hab => by
      show (if mk S a = q then (1 : Int) else 0) = if mk S b = q then 1 else 0
      rw [mk_vo, mk_vo, vo_congr ha hb hab])
    have h2 : sumV (ind q) rs = sumV (fun st => if mk S st = q then 1 else 0) rs := sumV_congr fun p hp => by
      show ind q p.1 = if mk S p.1 = q then 1 else 0
      rw [mk_vo, hN p hp]
      rfl
    rw [h2, h1]
    rfl
  · rw [List.getElem?_eq_none (by rw [wl_length]; omega), List.getElem?_eq_none (by rw [seen_len]; omega)]

set_option maxHeartbeats 1000000 in
theorem SeenOf_any (A : Option Addr) (n c : Nat) (ps : List St) (vars : Int) (w : World) (h : Lst w w.heap.size A n ps) (hn : n ≤ c) (hc : c ≤ maxLen) :
    Calls Try.prog 16 #[.slice A n c, .int .i64 vars] w (Lbd w (seenTo ps vars) (okV ps vars)) := by
  have hC := Lib.hid (Unrolled_any A n c ps w h hn hc)
  have cV := Lib.hid (fun wx => varsOk_any vars wx)
  clear h hc
  cases hu : unrolled ps with
  | none =>
    have hK := Lib.hid (show okV ps vars = false by unfold okV; rw [hu]; rfl)
    have hR := Lib.hid (show seenTo ps vars = [] by unfold seenTo; rw [hK.out]; rfl)
    have hU := Lib.hid hu
    clear hu
    go_enter Try.func16, Try.ntmps16
    go_wp2_with fail
    refine (hC.out).mono ?_
    rw [hU.out]
    rintro e w1 ⟨v, rfl, hown, hb⟩
    clear hown
    go_wp2_with fail
    go_ret2
    exact ⟨_, by rw [hK.out]; rfl, by rw [hR.out]; exact IOwn.nil _ _, hb⟩
  | some os =>
    obtain ⟨_, hlen, _, hNL, hOK⟩ := unrolled_parts hu
    have hU := Lib.hid hu
    cases hv : inB vars 0 15
    · have hK := Lib.hid (show okV ps vars = false by unfold okV; rw [hu, hv]; rfl)
      have hR := Lib.hid (show seenTo ps vars = [] by unfold seenTo; rw [hK.out]; rfl)
      rw [hv] at cV
      clear hu hNL hOK hv
      go_enter Try.func16, Try.ntmps16
      go_wp2_with fail
      refine (hC.out).mono ?_
      rw [hU.out]
      rintro e w1 ⟨v, rfl, hown, hb⟩
      clear hown
      go_wp2_with ((go_at_call 55; refine (cV.out _).mono ?_; rintro e w' ⟨rfl, rfl⟩))
      go_ret2
      exact ⟨_, by rw [hK.out]; rfl, by rw [hR.out]; exact IOwn.nil _ _, hb⟩
    · have hK := Lib.hid (show okV ps vars = true by unfold okV; rw [hu, hv]; rfl)
      have hR := Lib.hid (show seenTo ps vars = seen vars (wts os 0) by unfold seenTo; rw [hK.out]; unfold weightsFrom; rw [hu]; rfl)
      have hvb := inB_iff.1 hv
      have hOkN := Lib.hid (show ∀ s ∈ os, s.ok = true ∧ s.notLoop = true from fun s hs => ⟨List.all_eq_true.1 hOK s hs, hNL s hs⟩)
      rw [hv] at cV
      clear hu hNL hOK hv
      go_enter Try.func16, Try.ntmps16
      go_wp2_with fail
      refine (hC.out).mono ?_
      rw [hU.out]
      rintro e w1 ⟨v, rfl, hown', hb⟩
      have hown : Own w1 w.heap.size v os := hown'
      obtain ⟨A3, c3, hv, hlc, hcm⟩ := hown.form
      subst hv
      generalize hm : os.length = m at hlen hlc ⊢
      have hM := Lib.hid hm
      have hO := Lib.hid (show w1.ownsRow w.heap.size 65 7 (.slice A3 m c3) m (flat os) from by
        have := hown
        unfold Own at this
        rwa [hm] at this)
      have hB1 := Lib.hid hb
      have hz1 := hb.size
      clear hown hown' hm hb
      go_wp2_with ((go_at_call 55; refine (cV.out _).mono ?_; rintro e w' ⟨rfl, rfl⟩))
      refine (endsOf_any A3 m c3 os vars w.heap.size _ hO.out hz1 hlen hM.out hOkN.out hvb).mono ?_
      rintro e w5 ⟨rs, v6, rfl, hrow, hF5, hsum5, hT5, hN5, hb5⟩
      have hB5 := Lib.hid (hB1.out.trans hb5)
      obtain ⟨A6, c6, hv6, _, _⟩ := owns_form hrow
      rw [hv6] at hrow ⊢
      have hw := Lib.hid (wl_seen (fun s hs => (hOkN.out s hs).1) hF5 hT5 hN5)
      have cI := Lib.hid (weightsIn_any w.heap.size m rs.length c6 A6 rs w5 hrow rfl hF5 hsum5)
      clear hrow hF5 hsum5 hT5 hN5 hb5 hv6
      go_wp2_with fail
      refine (cI.out).mono ?_
      rintro e w6 ⟨rfl, ho6, hb6⟩
      have hF := Lib.hid (show Lbd w (seenTo ps vars) (okV ps vars) (.returned (.tuple #[.slice (some ⟨w5.heap.size, 0, none⟩) 81 81, .bool true])) w6 from ⟨_, by rw [hK.out], by rw [hR.out, ← hw.out]; exact owns_le ho6 hB5.out.size, hB5.out.trans (hb6.mono hB5.out.size)⟩)
      clear ho6 hb6
      go_wp2_with fail
      go_ret2
      exact hF.out

theorem seen_top (ps : List St) : isum (weightsFrom ps 0) ≤ 1000000000000000000 := by
  unfold weightsFrom
  cases hu : unrolled ps with
  | none => decide
  | some os =>
    obtain ⟨_, hlen, _, _, hOK⟩ := unrolled_parts hu
    exact Int.le_trans (wts_top (st := 0) (fun s hs => List.all_eq_true.1 hOK s hs) hlen (by decide)) (by decide)
theorem keyed_bd81 {N : Nat} {key : Int → Int} {js : List Int} (h0 : ∀ x ∈ js, 0 ≤ x) (k : Nat) (z : Int) : 0 ≤ rsum (fun st => if key st = z then 1 else 0) (js.take k) 0 ∧ rsum (fun st => if key st = z then 1 else 0) (js.take k) 0 ≤ isum js := by
  have h1 := rsum_part (v := fun st => if key st = z then 1 else 0) (c := 1) (fun k => by split <;> omega) (ds := js.take k) 0 (fun x hx => h0 x (List.mem_of_mem_take hx))
  have h2 := (isum_le h0 k).2
  omega
theorem shr_nat : ∀ n : Fin 16, ∀ k : Fin 4, (((n.val : Int) / 2 ^ ((k.val : Int)).toNat).tmod 2 == 0) = !tb (n.val : Int) k.val := by decide +kernel
theorem shr_tbn {L : Int} (hL : 0 ≤ L ∧ L ≤ 15) {k : Nat} (hk : k ≤ 3) : ((L / 2 ^ k).tmod 2 == 0) = !tb L k := by
  obtain ⟨n, rfl⟩ := fin16 hL
  exact shr_nat n ⟨k, by omega⟩
set_option maxHeartbeats 4000000 in
theorem specSeenOf_any (A : Option Addr) (n c : Nat) (ps : List St) (vars : Int) (w : World) (h : Lst w w.heap.size A n ps) (hn : n ≤ c) (hc : c ≤ maxLen) (hbig : n ≤ 1048576) :
    Calls Try.prog 17 #[.slice A n c, .int .i64 vars] w (Lbd w (seenTo ps vars) (okV ps vars)) := by
  have cP := Lib.hid (specProgramOk_any A n c ps w h hn hc hbig)
  have cW := Lib.hid (fun wx (hx : Lst wx wx.heap.size A n ps) => specWeightsOf_any A n c ps wx hx hn hc hbig)
  have hL := Lib.hid h
  clear h
  cases hp : (unrolled ps).isSome
  · have hK := Lib.hid (show okV ps vars = false by unfold okV; rw [hp]; rfl)
    have hR := Lib.hid (show seenTo ps vars = [] by unfold seenTo; rw [hK.out]; rfl)
    have hP := Lib.hid hp
    clear hp
    go_enter Try.func17, Try.ntmps17
    go_wp2_with fail
    refine cP.out.mono ?_
    rw [hP.out]
    rintro e w1 ⟨rfl, hb⟩
    go_wp2_with fail
    go_ret2
    exact ⟨_, by rw [hK.out]; rfl, by rw [hR.out]; exact IOwn.nil _ _, hb⟩
  · cases hv : inB vars 0 15
    · have hK := Lib.hid (show okV ps vars = false by unfold okV; rw [hp, hv]; rfl)
      have hR := Lib.hid (show seenTo ps vars = [] by unfold seenTo; rw [hK.out]; rfl)
      have hP := Lib.hid hp
      have hV := Lib.hid hv
      clear hp hv
      go_enter Try.func17, Try.ntmps17
      go_wp2_with fail
      refine cP.out.mono ?_
      rw [hP.out]
      rintro e w1 ⟨rfl, hb⟩
      go_wp2_with fail
      refine (l1In_any _ _ _ _).mono ?_
      rw [hV.out]
      rintro e w' ⟨rfl, rfl⟩
      go_wp2_with fail
      go_ret2
      exact ⟨_, by rw [hK.out]; rfl, by rw [hR.out]; exact IOwn.nil _ _, hb⟩
    · have hK := Lib.hid (show okV ps vars = true by unfold okV; rw [hp, hv]; rfl)
      have hR := Lib.hid (show seenTo ps vars = seen vars (weightsFrom ps 0) by unfold seenTo; rw [hK.out]; rfl)
      have hvb := Lib.hid (inB_iff.1 hv)
      have hP := Lib.hid hp
      have hV := Lib.hid hv
      have hwl : (weightsFrom ps 0).length = 81 := by
        obtain ⟨os, ho⟩ := Option.isSome_iff_exists.1 hp
        unfold weightsFrom
        rw [ho]
        exact wts_length os 0
      have hTb := seen_top ps
      have hWn := weights_nonneg ps
      generalize weightsFrom ps 0 = ws at cW hR hwl hTb hWn
      have hT81 := Lib.hid (show ws.take 81 = ws from List.take_of_length_le (by omega))
      have hM := Lib.hid (fun k z => keyed_bd81 (N := 81) (key := fun st => mk vars st) hWn k z)
      have hWn' := Lib.hid hWn
      have hTb' := Lib.hid hTb
      have hDl := Lib.hid (fun k => (isum_le hWn k).2)
      clear hp hv hWn hTb
      go_enter Try.func17, Try.ntmps17
      go_wp2_with fail
      refine cP.out.mono ?_
      rw [hP.out]
      rintro e w1 ⟨rfl, hb⟩
      have hB1 := Lib.hid hb
      have hz1 := hb.size
      go_wp2_with fail
      refine (l1In_any _ _ _ _).mono ?_
      rw [hV.out]
      rintro e w' ⟨rfl, rfl⟩
      go_wp2_with fail
      refine (cW.out _ ((hL.out.below hb).more hb.size)).mono ?_
      rintro e w2 ⟨v2, rfl, hO2, hb2⟩
      obtain ⟨A2, c2, hv2, _, _⟩ := hO2.form
      subst hv2
      rw [hwl] at *
      have hI2 := Lib.hid (show Ils w2 w2.heap.size A2 81 ws from hO2.lst)
      have hB2 := Lib.hid (hB1.out.trans (hb2.mono hz1))
      clear hO2 hb2 hb
      go_wp2_with fail
      refine (l3Zeros_any _).mono ?_
      rintro e w3 ⟨o, rfl, hO, hb⟩
      have hO' : w3.ownsRow w2.heap.size 3 1 o 81 (ints (seen vars (ws.take 0))) := by
        have := hO
        unfold IOwn at this
        rw [zs_len] at this
        unfold seen
        rw [List.take_zero, keyed_zero]
        exact this
      obtain ⟨A3, c3, rfl, _, _⟩ := owns_form hO'
      obtain ⟨G, cur0, rfl, hwb, _⟩ := owns_open hO' (by decide)
      have hO1 := Lib.hid hO'
      have hb3 := Lib.hid hb
      clear hO hO' hb
      go_wp2_with fail
      go_loopg [8] 81 (fun gn o wr => ∃ k : Nat, k ≤ 81 ∧ gn = 81 - k ∧ o = .int .i64 k ∧ wr.ownsRow w2.heap.size 3 1 (.slice (some ⟨G, 0, none⟩) 81 c3) 81 (ints (seen vars (ws.take k))) ∧ Below w2.heap.size w2 wr)
      case atStart => exact ⟨0, Nat.zero_le _, rfl, rfl, hO1.out, hb3.out⟩
      case round =>
        obtain ⟨k, hk, hgn, rfl, hown, hB⟩ := hrel
        have hgk : gk = 81 - k := hgn
        have hB' := Lib.hid hB
        have hOw := Lib.hid hown
        clear hgn
        by_cases hlt : k < 81
        · obtain ⟨g, off, d, rfl, hg, hd, c0⟩ := (hI2.out.below hB).at_ hlt
          have hk0 : (0 : Int) ≤ (k : Int) := by omega
          have hk1 : (k : Int) < 81 := by omega
          have hk2 : 0 ≤ (k : Int) ∧ (k : Int) ≤ 80 := by omega
          have hkh := Lib.hid hk2
          have hcw := Lib.hid c0
          have hdh := Lib.hid hd
          clear hown hB hd c0 hk2
          go_wp2_with fail
          obtain ⟨wo, rfl⟩ : ∃ wo : World, wo = wr := ⟨_, rfl⟩
          obtain ⟨go, rfl⟩ : ∃ go : Nat, go = gk := ⟨_, rfl⟩
          go_loopg [9, 10] 4 (fun gn a v wr => ∃ j : Nat, j ≤ 4 ∧ gn = 4 - j ∧ v = .int .i64 j ∧ a = .int .i64 (mkT vars j k) ∧ wr = wo)
          case atStart => exact ⟨0, Nat.zero_le _, rfl, rfl, rfl, rfl⟩
          case round =>
            obtain ⟨j, hj, hgn, rfl, rfl, rfl⟩ := hrel
            have hgj : gk = 4 - j := hgn
            clear hgn
            by_cases hlj : j < 4
            · have hsh := shr_tbn hvb.out (show j ≤ 3 by omega)
              have hj0 : (0 : Int) ≤ (j : Int) := by omega
              have hj64 : (j : Int) ≤ 64 := by omega
              have hbT := mkT_bd (S := vars) j (by omega) hkh.out
              have hst := Lib.hid (show mkT vars (j + 1) k = mk1 vars j (mkT vars j k) from rfl)
              cases ht : tb vars j
              · rw [ht] at hsh
                have hN := Lib.hid (show mkT vars (j + 1) k = mkT vars j k + (0 - mkT vars j k / p3 j % 3) * p3 j by rw [hst.out]; unfold mk1; rw [if_neg (by rw [ht]; decide), withValue_yes hbT.1 hbT.2 rfl (by omega) (by decide) (by decide)])
                have cL := Lib.hid (fun wx => l1With_any (mkT vars j k) 0 j hbT.1 hbT.2 (by omega) (by decide) (by decide) wx)
                clear ht
                go_wp2_with fail
                refine (cL.out _).mono ?_
                rintro e w' ⟨rfl, rfl⟩
                go_wp2_with fail
                go_roundg (4 - (j + 1))
                case measure => omega
                case rel => exact ⟨j + 1, by omega, rfl, by go_num, by rw [hN.out, Int.zero_sub], rfl⟩
              · rw [ht] at hsh
                have hN := Lib.hid (show mkT vars (j + 1) k = mkT vars j k by rw [hst.out]; unfold mk1; rw [if_pos ht])
                clear ht
                go_wp2_with fail
                go_roundg (4 - (j + 1))
                case measure => omega
                case rel => exact ⟨j + 1, by omega, rfl, by go_num, by rw [hN.out], rfl⟩
            · obtain rfl : j = 4 := by omega
              have hzb := mkT_bd (S := vars) 4 (by decide) hkh.out
              obtain ⟨z, hz⟩ : ∃ z : Nat, mkT vars 4 k = (z : Int) := ⟨(mkT vars 4 k).toNat, by omega⟩
              have hz81 : z < 81 := by omega
              have hSt := Lib.hid (keyed_step (N := 81) (key := fun st => mk vars st) hdh.out (show mk vars k = (z : Int) from hz) hz81)
              rw [hz]
              have hown := hOw.out
              have hd0 := hWn'.out d (List.mem_of_getElem? hdh.out)
              have hm1 := hM.out k z
              have hs1 := hTb'.out
              have hdl := hDl.out k
              have hds := rsum_ge (v := fun _ => 1) (fun _ => by decide) 0 hWn'.out d (List.mem_of_getElem? hdh.out)
              rw [rsum_one'] at hds
              obtain ⟨b2, cur, hbe, hwb, hH, _, _, _, hcl⟩ := owns_open hown (by omega)
              have hbe' : G = b2 := by injection hbe with e; injection e
              subst hbe'
              have hc1 := hcl z (by omega)
              rw [show (ints (seen vars (ws.take k)))[z]? = some (.int .i64 (rsum (fun st => if mk vars st = (z : Int) then 1 else 0) (ws.take k) 0)) from ints_get (keyed_at 81 (fun st => mk vars st) (ws.take k) hz81)] at hc1
              have hfz := hH.frozen z
              have hO2 := Lib.hid (owns_set (x := rsum (fun st => if mk vars st = (z : Int) then 1 else 0) (ws.take k) 0 + d) hOw.out hz81)
              have hB2 := Lib.hid (hB'.out.setCell (p := ⟨G, z, none⟩) hwb (.int .i64 (rsum (fun st => if mk vars st = (z : Int) then 1 else 0) (ws.take k) 0 + d)))
              have c0 := hcw.out
              generalize rsum (fun st => if mk vars st = (z : Int) then 1 else 0) (ws.take k) 0 = sk at *
              have hw : IntKind.i64.wrap (sk + d) = sk + d := by rw [IntKind.wrap_i64]; omega
              have hz00 : (0 : Int) ≤ (z : Int) := by omega
              have hz4 : (z : Int) < 81 := by omega
              clear hown hbe hH hcl hz
              go_wp2_with fail
              go_still_tail 12, (by kernel_rfl)
              repeat still_step
              try (refine wpStill_nil ?_)
              try (change wpList _ _ _ _ _ (World.drew _))
              go_wp2_with fail
              go_roundg (81 - (k + 1))
              case measure => omega
              case rel => exact ⟨k + 1, by omega, rfl, by go_num, by unfold seen; rw [← hSt.out]; exact hO2.out, hB2.out.drew⟩
        · obtain rfl : k = 81 := by omega
          rw [hT81.out] at hown hOw
          have hF := Lib.hid (show Lbd w (seenTo ps vars) (okV ps vars) (.returned (.tuple #[.slice (some ⟨G, 0, none⟩) 81 c3, .bool true])) wr from ⟨_, by rw [hK.out], by
            rw [hR.out]
            unfold IOwn
            rw [seen_len]
            exact owns_le hown hB2.out.size, hB2.out.trans (hB.mono hB2.out.size)⟩)
          clear hown hOw hB hB'
          go_wp2_with fail
          go_ret2
          exact hF.out
end Go.Proofs.Ytkibkmheomlafaa
