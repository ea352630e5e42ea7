/- For every list of bytes: of the drawn statements the program's Unrolled returns what the model returns, without loops, each of it a statement, and unrolled again (where it is short enough) the same; ProgramOk, CountDraws and PlainOk agree. No condition. -/
import Derived.Test.YtpogohgepcakcaaRows
import Derived.Test.YtpogohgepcakcaaDrU
import Derived.Test.YtpogohgepcakcaaWcp
import Derived.Test.YtpogohgepcakcaaUnF
import Derived.Test.YtpogohgepcakcaaOpB
import Derived.ProofKit
import Derived.OpenShut
import Derived.ShutString
import Derived.ChangeOld
import Derived.Below
namespace Go.Proofs.Ytpogohgepcakcaa.fnUnrolled
open Go.ChangeShapes Go.WideShapes Go.ChangeAt Go.RowKit 
set_option linter.unusedVariables false
set_option maxRecDepth 100000

theorem own : ownKnob Try.prog.godebug = none := by kernel_rfl
theorem laidOut : laidOutB Try.prog = true := by kernel_rfl

theorem of_none {ps : List St} (h : unrolled ps = none) : countDraws ps = -1 ∧ plainOk ps = false := by
  constructor
  · unfold countDraws; rw [h]
  · unfold plainOk; rw [h]; rfl

set_option maxRecDepth 100000 in
set_option maxHeartbeats 600000 in
theorem walk {H : Type} (enc : TypeId × Value → H) (W : World) (base : Nat) (v0 : Value) (d0 : DataW H) (p0 : List MemPlace) (hv0 : Value.okWide Try.prog W .any base 22 v0)
    (h0 : DataW.Trod enc Try.prog W 0 (fun _ => true) true 22 v0 d0 p0) (_ : ∀ x ∈ p0, x.block < W.heap.size) :
    Calls Try.prog 3 #[v0] W fun e w' => e = .returned (.bool true) ∧ Below W.heap.size W w' := by
  obtain ⟨A, n, c, rfl, hn, hc, hb⟩ := open_bytes hv0 h0
  clear hv0 h0
  have hcM := Lib.hid hc
  have hnn : n ≤ 9223372036854775807 := by unfold maxLen at hc; omega
  clear hc
  by_cases h1 : 1048576 < n
  · go_enter Try.func3, Try.ntmps3
    go_wp2_with fail
    go_ret
    exact ⟨rfl, Below.refl _ _⟩
  go_enter Try.func3, Try.ntmps3
  go_wp2_with fail
  refine (DrawUnrolled_any A n c _ hb hn hcM.out).mono ?_
  rintro e w1 ⟨v1, ps, rfl, hown, hl, hB1⟩
  obtain ⟨A1, c1, rfl, hlc, hcm⟩ := hown.form
  have hO1 := Lib.hid hown.lst
  clear hown hb
  generalize hm : ps.length = m at hO1 hl hlc
  have cI := Lib.hid (fun wx (hx : Below w1.heap.size w1 wx) => Unrolled_any A1 m c1 ps wx ((hO1.out.below hx).more hx.size) hlc hcm)
  have cS := Lib.hid (fun wx (hx : Below w1.heap.size w1 wx) => specUnrolled_any A1 m c1 ps wx ((hO1.out.below hx).more hx.size) hlc hcm (by omega))
  have cP := Lib.hid (fun wx (hx : Below w1.heap.size w1 wx) => ProgramOk_any A1 m c1 ps wx ((hO1.out.below hx).more hx.size) hlc hcm)
  have cC := Lib.hid (fun wx (hx : Below w1.heap.size w1 wx) => CountDraws_any A1 m c1 ps wx ((hO1.out.below hx).more hx.size) hlc hcm)
  have cSC := Lib.hid (fun wx (hx : Below w1.heap.size w1 wx) => specCountDraws_any A1 m c1 ps wx ((hO1.out.below hx).more hx.size) hlc hcm (by omega))
  have cPl := Lib.hid (fun wx (hx : Below w1.heap.size w1 wx) => PlainOk_any A1 m c1 ps wx ((hO1.out.below hx).more hx.size) hlc hcm)
  have cSPl := Lib.hid (fun wx (hx : Below w1.heap.size w1 wx) => specPlainOk_any A1 m c1 ps wx ((hO1.out.below hx).more hx.size) hlc hcm (by omega))
  clear hO1 hm hl hlc hcm
  have hB := Lib.hid (Below.refl w1.heap.size w1)
  have hz1 := hB1.size
  cases hu : unrolled ps with
  | none =>
    have hU := Lib.hid hu
    have hN := Lib.hid (of_none hu)
    clear hu
    go_wp2_with fail
    refine (cI.out _ hB.out).mono ?_
    rw [hU.out]
    rintro e w2 ⟨v2, rfl, ho2, hb2⟩
    obtain ⟨A2, k2, rfl, _, _⟩ := Own.form ho2
    have l2 := Lib.hid (Own.lst ho2)
    have hB2 := Lib.hid (hB.out.trans (hb2.mono (Nat.le_refl _)))
    have hz2 := hB2.out.size
    clear ho2 hb2
    go_wp2_with fail
    refine (cS.out _ hB2.out).mono ?_
    rw [hU.out]
    rintro e w3 ⟨v3, rfl, ho3, hb3⟩
    obtain ⟨A3, k3, rfl, _, _⟩ := Own.form ho3
    have l3 := Lib.hid (Own.lst ho3)
    have l23 := Lib.hid ((l2.out.below hb3).more hb3.size)
    have hB3 := Lib.hid (hB2.out.trans (hb3.mono hz2))
    have hz3 := hB3.out.size
    clear ho3 hb3
    go_wp2_with fail
    refine (wcProgram_same A2 A3 0 k2 k3 [] _ l23.out l3.out (by simp [maxLen])).mono ?_
    rintro e w4 ⟨rfl, hb4⟩
    have hB4 := Lib.hid (hB3.out.trans (hb4.mono hz3))
    have hz4 := hB4.out.size
    clear hb4
    go_wp2_with fail
    refine (cP.out _ hB4.out).mono ?_
    rw [hU.out]
    rintro e w5 ⟨rfl, hb5⟩
    have hB5 := Lib.hid (hB4.out.trans (hb5.mono hz4))
    have hz5 := hB5.out.size
    clear hb5
    go_wp2_with fail
    refine (cC.out _ hB5.out).mono ?_
    rw [hN.out.1]
    rintro e w6 ⟨rfl, hb6⟩
    have hB6 := Lib.hid (hB5.out.trans (hb6.mono hz5))
    have hz6 := hB6.out.size
    clear hb6
    go_wp2_with fail
    refine (cSC.out _ hB6.out).mono ?_
    rw [hN.out.1]
    rintro e w7 ⟨rfl, hb7⟩
    have hB7 := Lib.hid (hB6.out.trans (hb7.mono hz6))
    have hz7 := hB7.out.size
    clear hb7
    go_wp2_with fail
    refine (cC.out _ hB7.out).mono ?_
    rw [hN.out.1]
    rintro e w8 ⟨rfl, hb8⟩
    have hB8 := Lib.hid (hB7.out.trans (hb8.mono hz7))
    have hz8 := hB8.out.size
    clear hb8
    go_wp2_with fail
    refine (cPl.out _ hB8.out).mono ?_
    rw [hN.out.2]
    rintro e w9 ⟨rfl, hb9⟩
    go_wp2_with fail
    go_ret
    exact ⟨rfl, hB1.trans ((hB8.out.trans (hb9.mono hz8)).mono hz1)⟩
  | some os =>
    have hU := Lib.hid hu
    obtain ⟨q1, q2, q3, q4, q5⟩ := unrolled_parts hu
    have hC := Lib.hid (show countDraws ps = ((os.filter St.draws).length : Nat) by unfold countDraws; rw [hu])
    have hNL := Lib.hid q4
    have hOK := Lib.hid q5
    have hself := Lib.hid (fun h => unrolled_self hu h)
    clear hu q3 q4 q5
    go_wp2_with fail
    refine (cI.out _ hB.out).mono ?_
    rw [hU.out]
    rintro e w2 ⟨v2, rfl, ho2, hb2⟩
    replace ho2 : Own w2 w1.heap.size v2 os := ho2
    obtain ⟨A2, k2, rfl, hk2, hm2⟩ := Own.form ho2
    have l2 := Lib.hid (Own.lst ho2)
    have hB2 := Lib.hid (hB.out.trans (hb2.mono (Nat.le_refl _)))
    have hz2 := hB2.out.size
    clear ho2 hb2
    have hom : os.length ≤ maxLen := by unfold maxLen; omega
    have hOm := Lib.hid hom
    clear hom
    generalize hlo : os.length = L at q2 hk2 l2 hOm hself ⊢
    have hLo := Lib.hid hlo
    clear hlo
    go_wp2_with fail
    refine (cS.out _ hB2.out).mono ?_
    rw [hU.out]
    rintro e w3 ⟨v3, rfl, ho3, hb3⟩
    replace ho3 : Own w3 w2.heap.size v3 os := ho3
    obtain ⟨A3, k3, hv3, _, _⟩ := Own.form ho3
    rw [hLo.out] at hv3
    subst hv3
    have l3 := Lib.hid (Own.lst ho3)
    have l23 := Lib.hid ((l2.out.below hb3).more hb3.size)
    have hB3 := Lib.hid (hB2.out.trans (hb3.mono hz2))
    have hz3 := hB3.out.size
    clear ho3 hb3
    go_wp2_with fail
    refine (wcProgram_same A2 A3 L k2 k3 os _ l23.out l3.out hOm.out).mono ?_
    rintro e w4 ⟨rfl, hb4⟩
    have l4 := Lib.hid ((l23.out.below hb4).more hb4.size)
    have hB4 := Lib.hid (hB3.out.trans (hb4.mono hz3))
    have hz4 := hB4.out.size
    clear hb4 l3 l23 l2
    go_wp2_with fail
    refine (cP.out _ hB4.out).mono ?_
    rw [hU.out]
    rintro e w5 ⟨rfl, hb5⟩
    have l5 := Lib.hid ((l4.out.below hb5).more hb5.size)
    have hB5 := Lib.hid (hB4.out.trans (hb5.mono hz4))
    have hz5 := hB5.out.size
    clear hb5 l4
    go_wp2_with fail
    refine (cC.out _ hB5.out).mono ?_
    rw [hC.out]
    rintro e w6 ⟨rfl, hb6⟩
    have l6 := Lib.hid ((l5.out.below hb6).more hb6.size)
    have hB6 := Lib.hid (hB5.out.trans (hb6.mono hz5))
    have hz6 := hB6.out.size
    clear hb6 l5
    go_wp2_with fail
    refine (cSC.out _ hB6.out).mono ?_
    rw [hC.out]
    rintro e w7 ⟨rfl, hb7⟩
    have l7 := Lib.hid ((l6.out.below hb7).more hb7.size)
    have hB7 := Lib.hid (hB6.out.trans (hb7.mono hz6))
    have hz7 := hB7.out.size
    clear hb7 l6
    go_wp2_with fail
    have hcl0 : ((os.filter St.draws).length : Nat) ≤ 12 := Nat.le_trans (List.length_filter_le _ _) (by rw [hLo.out]; exact q2)
    generalize hD : (os.filter St.draws).length = D at hC hcl0 ⊢
    have hDD := Lib.hid hD
    clear hD
    go_loopw [8, 67] (fun q i wr => ∃ k : Nat, k ≤ L ∧ i = .int .i64 k ∧ q = .int .i64 (((os.take k).filter St.draws).length : Nat) ∧ Below w7.heap.size w7 wr) (fun _ i _ => L - (intOf i).toNat)
    case atStart => exact ⟨0, Nat.zero_le _, rfl, rfl, Below.refl _ _⟩
    case round =>
      obtain ⟨k, hk, rfl, rfl, hbr⟩ := hrel
      by_cases hlt : k < L
      · obtain ⟨g, off, s, rfl, hg, hs, hat⟩ := (l7.out.below hbr).at_ hlt
        obtain ⟨c0, c1', c2, c3, c4, c5, c6⟩ := hat.open_
        have hsm := List.mem_of_getElem? hs
        have hok := List.all_eq_true.1 hOK.out s hsm
        have hnl := hNL.out s hsm
        have h7 : (s.k == 7) = false := by unfold St.notLoop at hnl; cases h : (s.k == 7) <;> simp_all
        have hz := hbr.size
        have hcl : ((os.take k).filter St.draws).length ≤ 12 := Nat.le_trans (count_le os k) (by rw [hLo.out]; exact q2)
        have hcs := count_succ hs
        have hSO := Lib.hid (fun wx => (show Calls Try.prog 21 #[.agg #[.int .i64 s.k, .int .i64 s.a, .int .i64 s.b, .int .i64 s.c, .int .i64 s.u, .int .i64 s.v, .int .i64 s.x]] wx (fun e w' => e = .returned (.bool true) ∧ Below wx.heap.size wx w') from hok ▸ StmtOk_st s wx))
        clear hs hat hsm hok hnl
        cases hd : s.draws
        · obtain ⟨h2, h3⟩ := draws_no hd
          rw [hd] at hcs
          have hCS := Lib.hid hcs
          clear hd hcs
          go_wp2_with fail
          refine (hSO.out _).mono ?_
          rintro e wq ⟨rfl, hbq⟩
          have hco := ((Has.new wr 32 #[.int .i64 s.k, .int .i64 s.a, .int .i64 s.b, .int .i64 s.c, .int .i64 s.u, .int .i64 s.v, .int .i64 s.x]).kept hbq).cell
          have hBq := Lib.hid ((hbr.alloc hz _).trans (hbq.mono (by simp; omega)))
          clear hbq
          go_wp2
          go_roundw
          case rel => exact ⟨k + 1, by omega, by go_num, by rw [hCS.out]; rfl, hBq.out⟩
          case measure => (simp [intOf]; try omega)
        · rw [hd] at hcs
          have hCS := Lib.hid hcs
          rcases draws_yes hd with h2 | ⟨h2, h3⟩
          all_goals
            clear hd hcs
            go_wp2_with fail
            refine (hSO.out _).mono ?_
            rintro e wq ⟨rfl, hbq⟩
            have hco := ((Has.new wr 32 #[.int .i64 s.k, .int .i64 s.a, .int .i64 s.b, .int .i64 s.c, .int .i64 s.u, .int .i64 s.v, .int .i64 s.x]).kept hbq).cell
            have hBq := Lib.hid ((hbr.alloc hz _).trans (hbq.mono (by simp; omega)))
            clear hbq
            go_wp2
            go_roundw
            case rel => exact ⟨k + 1, by omega, by go_num, by rw [hCS.out]; rfl, hBq.out⟩
            case measure => (simp [intOf]; try omega)
      · obtain rfl : L = k := by omega
        have hE : ((os.take L).filter St.draws).length = D := by rw [List.take_of_length_le (by rw [hLo.out]; omega)]; exact hDD.out
        rw [hE]
        have l8 := Lib.hid ((l7.out.below hbr).more hbr.size)
        have hB8 := Lib.hid (hB7.out.trans (hbr.mono hz7))
        have hz8 := hB8.out.size
        clear hbr hE
        by_cases h10 : L ≤ 10
        · have hSelf := Lib.hid (hself.out h10)
          go_wp2_with fail
          refine (Unrolled_any A2 L k2 os _ l8.out hk2 hm2).mono ?_
          rw [hSelf.out]
          rintro e w9 ⟨v9, rfl, ho9, hb9⟩
          replace ho9 : Own w9 wr.heap.size v9 os := ho9
          obtain ⟨A9, k9, hv9, _, _⟩ := Own.form ho9
          rw [hLo.out] at hv9
          subst hv9
          have l9 := Lib.hid (Own.lst ho9)
          have l89 := Lib.hid ((l8.out.below hb9).more hb9.size)
          have hB9 := Lib.hid (hB8.out.trans (hb9.mono hz8))
          have hz9 := hB9.out.size
          clear ho9 hb9
          go_wp2_with fail
          refine (cC.out _ hB9.out).mono ?_
          rw [hC.out]
          rintro e w10 ⟨rfl, hb10⟩
          have l10 := Lib.hid ((l9.out.below hb10).more hb10.size)
          have l810 := Lib.hid ((l89.out.below hb10).more hb10.size)
          have hB10 := Lib.hid (hB9.out.trans (hb10.mono hz9))
          have hz10 := hB10.out.size
          clear hb10
          go_wp2_with fail
          refine (wcProgram_same A9 A2 L k9 k2 os _ l10.out l810.out hOm.out).mono ?_
          rintro e w11 ⟨rfl, hb11⟩
          have hB11 := Lib.hid (hB10.out.trans (hb11.mono hz10))
          have hz11 := hB11.out.size
          clear hb11
          go_wp2_with fail
          refine (cPl.out _ hB11.out).mono ?_
          rintro e w12 ⟨rfl, hb12⟩
          have hB12 := Lib.hid (hB11.out.trans (hb12.mono hz11))
          have hz12 := hB12.out.size
          clear hb12
          go_wp2_with fail
          refine (cSPl.out _ hB12.out).mono ?_
          rintro e w13 ⟨rfl, hb13⟩
          go_wp2_with fail
          go_ret
          exact ⟨rfl, hB1.trans ((hB12.out.trans (hb13.mono hz12)).mono hz1)⟩
        · have hSelf := Lib.hid (unrolled_no2 (ps := os) (by rw [hLo.out]; omega))
          go_wp2_with fail
          refine (Unrolled_any A2 L k2 os _ l8.out hk2 hm2).mono ?_
          rw [hSelf.out]
          rintro e w9 ⟨v9, rfl, ho9, hb9⟩
          obtain ⟨A9, k9, rfl, _, _⟩ := Own.form ho9
          have hB9 := Lib.hid (hB8.out.trans (hb9.mono hz8))
          have hz9 := hB9.out.size
          clear ho9 hb9
          go_wp2_with fail
          refine (cC.out _ hB9.out).mono ?_
          rw [hC.out]
          rintro e w10 ⟨rfl, hb10⟩
          have hB10 := Lib.hid (hB9.out.trans (hb10.mono hz9))
          have hz10 := hB10.out.size
          clear hb10
          go_wp2_with fail
          refine (cPl.out _ hB10.out).mono ?_
          rintro e w12 ⟨rfl, hb12⟩
          have hB12 := Lib.hid (hB10.out.trans (hb12.mono hz10))
          have hz12 := hB12.out.size
          clear hb12
          go_wp2_with fail
          refine (cSPl.out _ hB12.out).mono ?_
          rintro e w13 ⟨rfl, hb13⟩
          go_wp2_with fail
          go_ret
          exact ⟨rfl, hB1.trans ((hB12.out.trans (hb13.mono hz12)).mono hz1)⟩

set_option maxRecDepth 100000 in
theorem lifted (os : Os) (started : os.Started) (H : Type) (enc : TypeId × Value → H) :
    ReturnsInHanded {} Try.checked os 3 .any (Rows.fnUnrolledSpec.pre6 enc Try.prog Try.f3 Rows.fnUnrolledRow.domain false) (Rows.fnUnrolledSpec.post enc Try.prog Try.f3 false true false false) := by
  refine returnsInHanded_of_change (C := Try.checked) own started (by kernel_rfl) Try.func3
    (ChangeSpec.witness6 (enc := enc) (C := Try.checked) false ⟨#[], #[.slice none 0 0], []⟩ 8 (by kernel_rfl) (by kernel_rfl) (by kernel_rfl) (by kernel_rfl)) ?_
  intro W base args ds gs before hval0 hW hcnd _
  have hval : ∀ (j : Nat) t v, Try.f3.params[j]? = some t → args[j]? = some v → Value.okWide Try.prog W .any base t v := hval0
  have hW' := hW
  obtain ⟨p, q, hA0, hV, rfl, hfz, hnd⟩ := hW
  have hA : DataW.TrodAll enc Try.prog W 0 (fun _ => true) true Try.f3.params.toList args.toList ds p := hA0
  rw [Try.params3] at hA hval
  obtain ⟨v0, vs0, d0, ds0, p0, q0, hargs, rfl, rfl, h0, r0⟩ := trodAll_cons hA
  obtain ⟨rfl, rfl, rfl⟩ := trodAll_nil r0
  obtain rfl : args = #[v0] := by cases args; simp_all
  obtain ⟨rfl, rfl⟩ := trodVars_none hV
  have lt0 : ∀ x ∈ p0, x.block < W.heap.size := by
    obtain ⟨m, hm⟩ := h0
    exact DataW.trod_lt m _ _ _ hm
  clear hA0 hval0
  refine (walk enc W base v0 d0 p0 (hval 0 22 v0 rfl rfl) h0 lt0).mono fun e W' ⟨he, bel⟩ => ?_
  subst he
  exact ⟨_, rfl, _, _, _, [], _, [], hW', trodAll_mk1 (shut_bool Try.underlying4 _), (trodAll_cons_mk (Below.trod laidOut (by kernel_rfl) (of_decide_eq_true (by kernel_rfl)) h0 bel lt0) trodAll_mk0), rfl, bel.frame _, fun h => by cases h⟩

theorem proved : Rows.FnUnrolledSaid :=
  OpenClaim.holds_of_wide 3 Try.f3 rfl rfl rfl rfl rfl rfl rfl ⟨rfl, rfl, rfl, rfl, rfl⟩ rfl rfl rfl rfl rfl (by kernel_rfl) Try.func3 (by kernel_rfl)
    (of_decide_eq_true (by kernel_rfl)) (by unfold Func.isWrapper; first | (rw [if_pos (by decide +kernel)]; kernel_rfl) | (rw [if_neg (by decide +kernel)]; exact ⟨rfl, rfl⟩))
    (fun os started H enc _ => lifted os started H enc)
end Go.Proofs.Ytpogohgepcakcaa.fnUnrolled
