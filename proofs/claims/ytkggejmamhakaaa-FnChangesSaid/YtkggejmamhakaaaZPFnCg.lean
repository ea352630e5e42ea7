/- For every list of bytes: of the drawn program and the drawn change and place the program's ChangeDo, FactorBy and ChangeOk tell what the model's tell: nothing and 0 where it cannot be done, and else a plain program whose weights, times the number told, which is above 0, are those of the drawn one. No condition. -/
import Derived.Test.YtkggejmamhakaaaRows
import Derived.ProofKit
import Derived.OpenShut
import Derived.ShutString
import Derived.ChangeOld
import Derived.Below
import Derived.Test.YtkggejmamhakaaaZBY
import Derived.Test.YtkggejmamhakaaaZBZ
import Derived.Test.YtkggejmamhakaaaZAJ
import Derived.Test.YtkggejmamhakaaaZAI
import Derived.Test.YtkggejmamhakaaaZCA
namespace Go.Proofs.Ytkggejmamhakaaa.fnChanges
open Go.ChangeShapes Go.WideShapes Go.ChangeAt Go.RowKit
set_option linter.unusedVariables false
set_option maxRecDepth 100000
theorem own : ownKnob Try.prog.godebug = none := by kernel_rfl
theorem laidOut : laidOutB Try.prog = true := by kernel_rfl
theorem wts81 {ps : List St} (h : plainOk ps = true) : (weightsFrom ps 0).length = 81 := by rw [wts_plain h (by decide), wts_length]
/-- What a change that can be done makes of the weights. -/
theorem cg_facts {ps : List St} {c z : Int} (h : cgOk ps c z = true) : plainOk (cgDo ps c z) = true ∧ 1 ≤ cgBy ps c z ∧ cgBy ps c z ≤ 27 ∧ (weightsFrom ps 0).length = 81 ∧ (weightsFrom (cgDo ps c z) 0).length = 81 ∧
    ∀ (i : Nat) (d : Int), (weightsFrom ps 0)[i]? = some d → ∃ e, (weightsFrom (cgDo ps c z) 0)[i]? = some e ∧ cgBy ps c z * e = d := by
  obtain ⟨hp, hc, hz, hf⟩ := cg_parts h
  obtain ⟨k, rfl⟩ : ∃ k : Nat, z = k := ⟨z.toNat, by omega⟩
  rw [Int.toNat_natCast] at hf
  obtain ⟨a, ha, hfa⟩ := fitAt_some hf
  have hoa := (plain_iff.1 hp).2 a (List.mem_of_getElem? ha)
  obtain ⟨_, h2, h3⟩ := cg_all hp hc ha hfa
  have hq := done_plain hc hp hf
  have hb := fac_pos hc hoa hfa
  have hw := wts_done hc hp hf ha (st := 0) (by decide)
  rw [h2, h3]
  refine ⟨hq, hb.1, hb.2, wts81 hp, wts81 hq, fun i d hd => ?_⟩
  rw [wts_plain hp (by decide), hw, List.getElem?_map] at hd
  obtain ⟨e, he, hed⟩ := Option.map_eq_some_iff.1 hd
  exact ⟨e, by rw [wts_plain hq (by decide)]; exact he, hed⟩
set_option maxHeartbeats 2000000 in
theorem walk {H : Type} (enc : TypeId × Value → H) (W : World) (base : Nat) (v0 : Value) (d0 : DataW H) (p0 : List MemPlace) (hv0 : Value.okWide Try.prog W .any base 22 v0)
    (h0 : DataW.Trod enc Try.prog W 0 (fun _ => true) true 22 v0 d0 p0) (_ : ∀ x ∈ p0, x.block < W.heap.size) :
    Calls Try.prog 10 #[v0] W fun e w' => e = .returned (.bool true) ∧ Below W.heap.size W w' := by
  obtain ⟨A, n, c, rfl, hn, hc, hb⟩ := open_bytes hv0 h0
  clear hv0 h0
  have hcM := Lib.hid hc
  have hnn : n ≤ 9223372036854775807 := by unfold maxLen at hc; omega
  clear hc
  by_cases h1 : 1048576 < n
  · go_enter Try.func10, Try.ntmps10
    go_wp2_with fail
    go_ret
    exact ⟨rfl, Below.refl _ _⟩
  go_enter Try.func10, Try.ntmps10
  go_wp2_with fail
  refine (DrawChangeDo_any A n c _ hb hn hcM.out).mono ?_
  rintro e w1 ⟨v, ps, x, y, rfl, hO, hl, hB1⟩
  obtain ⟨A1, c1, hv, hlc, hcm⟩ := hO.form
  subst hv
  have hP1 := Lib.hid hO.lst
  have hB1' := Lib.hid hB1
  have hbg : ps.length ≤ 1048576 := by omega
  have cOk := Lib.hid (fun wx (hx : Lst wx wx.heap.size A1 ps.length ps) => ChangeOk_any A1 ps.length c1 ps x y wx hx hlc hcm)
  have cDo := Lib.hid (fun wx (hx : Lst wx wx.heap.size A1 ps.length ps) => ChangeDo_any A1 ps.length c1 ps x y wx hx hlc hcm)
  have cDoS := Lib.hid (fun wx (hx : Lst wx wx.heap.size A1 ps.length ps) => specChangeDo_any A1 ps.length c1 ps x y wx hx hlc hcm hbg)
  have cBy := Lib.hid (fun wx (hx : Lst wx wx.heap.size A1 ps.length ps) => FactorBy_any A1 ps.length c1 ps x y wx hx hlc hcm)
  have cByS := Lib.hid (fun wx (hx : Lst wx wx.heap.size A1 ps.length ps) => specFactorBy_any A1 ps.length c1 ps x y wx hx hlc hcm hbg)
  have cWp := Lib.hid (fun wx (hx : Lst wx wx.heap.size A1 ps.length ps) => WeightsOf_any A1 ps.length c1 ps wx hx hlc hcm)
  have hNo := Lib.hid (show cgOk ps x y = false → cgDo ps x y = [] ∧ cgBy ps x y = 0 from fun h => by
    unfold cgDo cgBy
    rw [if_neg (by rw [h]; decide), if_neg (by rw [h]; decide)]
    exact ⟨rfl, rfl⟩)
  have hYes := Lib.hid (show cgOk ps x y = true → plainOk (cgDo ps x y) = true ∧ 1 ≤ cgBy ps x y ∧ cgBy ps x y ≤ 27 ∧ (weightsFrom ps 0).length = 81 ∧ (weightsFrom (cgDo ps x y) 0).length = 81 ∧
    ∀ (i : Nat) (d : Int), (weightsFrom ps 0)[i]? = some d → ∃ e, (weightsFrom (cgDo ps x y) 0)[i]? = some e ∧ cgBy ps x y * e = d from fun h => cg_facts h)
  have hLen := Lib.hid (show (cgDo ps x y).length ≤ 20 from by
    unfold cgDo
    split
    · rename_i h
      obtain ⟨h1, h2, _, h3⟩ := cg_parts h
      have := (plain_iff.1 (done_plain h2 h1 h3)).1
      omega
    · simp)
  have hWb := Lib.hid (weights_bd ps)
  unfold Dod at cDo cDoS
  unfold Wtsd at cWp
  generalize weightsFrom ps 0 = ws at cWp hYes hWb
  generalize cgDo ps x y = qs at cDo cDoS hNo hYes hLen
  generalize cgBy ps x y = f at cBy cByS hNo hYes
  generalize cgOk ps x y = ok at cOk cDo cDoS cBy cByS hNo hYes
  have n1 : (ok != ok) = false := by simp
  have n2 : (f != f) = false := by simp
  have hpm : ps.length ≤ maxLen := by unfold maxLen; omega
  have hqm : qs.length ≤ maxLen := by have := hLen.out; unfold maxLen; omega
  clear hO hB1 hb hlc hcm
  go_wp2_with fail
  refine (cDo.out _ hP1.out).mono ?_
  rintro e w3 ⟨v3, rfl, hO3, hb3⟩
  obtain ⟨A3, c3, hv, hlc3, hcm3⟩ := hO3.form
  subst hv
  have hB3 := Lib.hid (hB1'.out.trans (hb3.mono hB1'.out.size))
  have hP3 := Lib.hid ((hP1.out.below hb3).more hb3.size)
  have hQ3 := Lib.hid hO3.lst
  clear hO3 hb3
  go_wp2_with fail
  refine (cDoS.out _ hP3.out).mono ?_
  rintro e w4 ⟨v4, rfl, hO4, hb4⟩
  obtain ⟨A4, c4, hv, _, _⟩ := hO4.form
  subst hv
  have hB4 := Lib.hid (hB3.out.trans (hb4.mono hB3.out.size))
  have hP4 := Lib.hid ((hP3.out.below hb4).more hb4.size)
  have hQ4 := Lib.hid ((hQ3.out.below hb4).more hb4.size)
  have hS4 := Lib.hid hO4.lst
  clear hO4 hb4
  go_wp2_with fail
  refine (cBy.out _ hP4.out).mono ?_
  rintro e w5 ⟨rfl, hb5⟩
  have hB5 := Lib.hid (hB4.out.trans (hb5.mono hB4.out.size))
  have hP5 := Lib.hid ((hP4.out.below hb5).more hb5.size)
  have hQ5 := Lib.hid ((hQ4.out.below hb5).more hb5.size)
  have hS5 := Lib.hid ((hS4.out.below hb5).more hb5.size)
  clear hb5
  go_wp2_with fail
  refine (cByS.out _ hP5.out).mono ?_
  rintro e w6 ⟨rfl, hb6⟩
  have hB6 := Lib.hid (hB5.out.trans (hb6.mono hB5.out.size))
  have hP6 := Lib.hid ((hP5.out.below hb6).more hb6.size)
  have hQ6 := Lib.hid ((hQ5.out.below hb6).more hb6.size)
  have hS6 := Lib.hid ((hS5.out.below hb6).more hb6.size)
  clear hb6
  go_wp2_with fail
  refine (wcProgram_same A3 A4 qs.length c3 c4 qs _ hQ6.out hS6.out hqm).mono ?_
  rintro e w7 ⟨rfl, hb7⟩
  have hB7 := Lib.hid (hB6.out.trans (hb7.mono hB6.out.size))
  have hP7 := Lib.hid ((hP6.out.below hb7).more hb7.size)
  have hQ7 := Lib.hid ((hQ6.out.below hb7).more hb7.size)
  clear hb7
  go_wp2_with fail
  refine (cOk.out _ hP7.out).mono ?_
  rintro e w8 ⟨rfl, hb8⟩
  have hB8 := Lib.hid (hB7.out.trans (hb8.mono hB7.out.size))
  have hP8 := Lib.hid ((hP7.out.below hb8).more hb8.size)
  have hQ8 := Lib.hid ((hQ7.out.below hb8).more hb8.size)
  clear hb8
  cases ok
  · obtain ⟨hE, hF⟩ := hNo.out rfl
    subst hE
    subst hF
    go_wp2_with fail
    go_ret
    exact ⟨rfl, hB8.out⟩
  · obtain ⟨hY1, hY2, hY3, hY4, hY5, hY6⟩ := hYes.out rfl
    have cQ := Lib.hid (fun wx (hx : Lst wx wx.heap.size A3 qs.length qs) => WeightsOf_any A3 qs.length c3 qs wx hx hlc3 hcm3)
    have cPl := Lib.hid (fun wx (hx : Lst wx wx.heap.size A3 qs.length qs) => PlainOk_any A3 qs.length c3 qs wx hx hlc3 hcm3)
    rw [hY1] at cPl
    unfold Wtsd at cQ
    have hEv := Lib.hid hY6
    generalize weightsFrom qs 0 = us at cQ hY5 hEv
    have hw81 := Lib.hid hY4
    have hu81 := Lib.hid hY5
    clear hY1 hY4 hY5 hY6 hlc3 hcm3 hYes
    go_wp2_with fail
    refine (cWp.out _ hP8.out).mono ?_
    rintro e w9 ⟨v9, rfl, hI9, hb9⟩
    obtain ⟨A9, c9, hv, _, _⟩ := hI9.form
    rw [hw81.out] at hv
    subst hv
    have hB9 := Lib.hid (hB8.out.trans (hb9.mono hB8.out.size))
    have hQ9 := Lib.hid ((hQ8.out.below hb9).more hb9.size)
    have hX9 := Lib.hid (show Ils w9 w9.heap.size A9 81 ws from hI9.lst)
    clear hI9 hb9
    go_wp2_with fail
    refine (cQ.out _ hQ9.out).mono ?_
    rintro e w10 ⟨v10, rfl, hI10, hb10⟩
    obtain ⟨A10, c10, hv, _, _⟩ := hI10.form
    rw [hu81.out] at hv
    subst hv
    have hB10 := Lib.hid (hB9.out.trans (hb10.mono hB9.out.size))
    have hQ10 := Lib.hid ((hQ9.out.below hb10).more hb10.size)
    have hX10 := Lib.hid ((hX9.out.below hb10).more hb10.size)
    have hU10 := Lib.hid (show Ils w10 w10.heap.size A10 81 us from hI10.lst)
    clear hI10 hb10
    go_wp2_with fail
    go_loopg [97] 81 (fun gn o wr => ∃ k : Nat, k ≤ 81 ∧ gn = 81 - k ∧ o = .int .i64 (k : Int) ∧ wr = w10)
    case atStart => exact ⟨0, Nat.zero_le _, rfl, rfl, rfl⟩
    case round =>
      obtain ⟨k, hk, hgn, rfl, hwr⟩ := hrel
      obtain rfl := hwr
      have hgk : gk = 81 - k := hgn
      clear hgn
      by_cases hlt : k < 81
      · obtain ⟨ga, oa, rfl, _, hca⟩ := hX10.out.2 (by decide)
        obtain ⟨gb, ob, rfl, _, hcb⟩ := hU10.out.2 (by decide)
        obtain ⟨d, hd⟩ : ∃ d, ws[k]? = some d := ⟨_, List.getElem?_eq_getElem (by have := hw81.out; omega)⟩
        obtain ⟨e, he, hge⟩ := hEv.out k d hd
        have hdb := hWb.out d (List.mem_of_getElem? hd)
        have y1 := hca k d hd
        have y2 := hcb k e he
        have hw : IntKind.i64.wrap (f * e) = d := by rw [hge, IntKind.wrap_i64]; omega
        have hw' : wrap64 (f * e) = d := by rw [hge]; unfold wrap64; omega
        have n4 : (d != d) = false := by simp
        have hk0 : (0 : Int) ≤ (k : Int) := by omega
        have hk1 : (k : Int) < 81 := by omega
        clear hca hcb hd he hge
        go_wp2_with fail
        go_roundg (81 - (k + 1))
        case measure => omega
        case rel => exact ⟨k + 1, by omega, rfl, by go_num, rfl⟩
      · obtain rfl : k = 81 := by omega
        go_wp2_with fail
        refine (cPl.out _ hQ10.out).mono ?_
        rintro e w11 ⟨rfl, hb11⟩
        have hB11 := Lib.hid (hB10.out.trans (hb11.mono hB10.out.size))
        clear hb11
        have hfp : 0 < f := by omega
        go_wp2_with fail
        go_ret
        exact ⟨rfl, hB11.out⟩
set_option maxRecDepth 100000 in
theorem lifted (os : Os) (started : os.Started) (H : Type) (enc : TypeId × Value → H) :
    ReturnsInHanded {} Try.checked os 10 .any (Rows.fnChangesSpec.pre6 enc Try.prog Try.f10 Rows.fnChangesRow.domain false) (Rows.fnChangesSpec.post enc Try.prog Try.f10 false true false false) := by
  refine returnsInHanded_of_change (C := Try.checked) own started (by kernel_rfl) Try.func10
    (ChangeSpec.witness6 (enc := enc) (C := Try.checked) false ⟨#[], #[.slice none 0 0], []⟩ 8 (by kernel_rfl) (by kernel_rfl) (by kernel_rfl) (by kernel_rfl)) ?_
  intro W base args ds gs before hval0 hW hcnd _
  have hval : ∀ (j : Nat) t v, Try.f10.params[j]? = some t → args[j]? = some v → Value.okWide Try.prog W .any base t v := hval0
  have hW' := hW
  obtain ⟨p, q, hA0, hV, rfl, hfz, hnd⟩ := hW
  have hA : DataW.TrodAll enc Try.prog W 0 (fun _ => true) true Try.f10.params.toList args.toList ds p := hA0
  rw [Try.params10] at hA hval
  obtain ⟨v0, vs0, d0, ds0, p0, q0, hargs, rfl, rfl, h0, r0⟩ := trodAll_cons hA
  obtain ⟨rfl, rfl, rfl⟩ := trodAll_nil r0
  obtain rfl : args = #[v0] := by cases args; simp_all
  obtain ⟨rfl, rfl⟩ := trodVars_none hV
  have lt0 : ∀ x ∈ p0, x.block < W.heap.size := by
    obtain ⟨m, hm⟩ := h0
    exact DataW.trod_lt m _ _ _ hm
  clear hA0 hval0
  refine (walk enc W base v0 d0 p0 (hval 0 22 v0 rfl rfl) h0 lt0).mono fun e W' ⟨he, bel⟩ => ?_
  subst he
  exact ⟨_, rfl, _, _, _, [], _, [], hW', trodAll_mk1 (shut_bool Try.underlying4 _), (trodAll_cons_mk (Below.trod laidOut (by kernel_rfl) (of_decide_eq_true (by kernel_rfl)) h0 bel lt0) trodAll_mk0), rfl, bel.frame _, fun h => by cases h⟩
theorem proved : Rows.FnChangesSaid :=
  OpenClaim.holds_of_wide 10 Try.f10 rfl rfl rfl rfl rfl rfl rfl ⟨rfl, rfl, rfl, rfl, rfl⟩ rfl rfl rfl rfl rfl (by kernel_rfl) Try.func10 (by kernel_rfl)
    (of_decide_eq_true (by kernel_rfl)) (by unfold Func.isWrapper; first | (rw [if_pos (by decide +kernel)]; kernel_rfl) | (rw [if_neg (by decide +kernel)]; exact ⟨rfl, rfl⟩))
    (fun os started H enc _ => lifted os started H enc)
end Go.Proofs.Ytkggejmamhakaaa.fnChanges
