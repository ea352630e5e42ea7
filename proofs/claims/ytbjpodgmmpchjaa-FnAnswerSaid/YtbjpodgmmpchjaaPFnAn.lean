/- For every list of bytes: of the drawn two programs the program's AnswerOf and SameAnswer tell what the model's tell; a program has the same answer as itself where it has one, and nothing where it has none; each weight is the same multiple of its answer's number, the answer's numbers have a sum above 0, and it does not matter which program comes first. No condition. -/
import Derived.Test.YtbjpodgmmpchjaaRows
import Derived.Test.YtbjpodgmmpchjaaAd
import Derived.Test.YtbjpodgmmpchjaaDy
import Derived.Test.YtbjpodgmmpchjaaNm
import Derived.Test.YtbjpodgmmpchjaaKt
import Derived.Test.YtbjpodgmmpchjaaOpB
import Derived.ProofKit
import Derived.OpenShut
import Derived.ShutString
import Derived.ChangeOld
import Derived.Below
namespace Go.Proofs.Ytbjpodgmmpchjaa.fnAnswer
open Go.ChangeShapes Go.WideShapes Go.ChangeAt Go.RowKit 
set_option linter.unusedVariables false
set_option maxRecDepth 100000

theorem own : ownKnob Try.prog.godebug = none := by kernel_rfl
theorem laidOut : laidOutB Try.prog = true := by kernel_rfl

theorem isum_all0 : ∀ {ds : List Int}, (∀ x ∈ ds, x = 0) → isum ds = 0
  | [], _ => rfl
  | u :: r, h => by
    have h1 := h u List.mem_cons_self
    have h2 := isum_all0 (fun x hx => h x (List.mem_cons_of_mem u hx))
    rw [isum]; omega
theorem isum_div {g : Int} : ∀ {ds : List Int}, (∀ x ∈ ds, g ∣ x) → isum (ds.map fun d => d / g) * g = isum ds
  | [], _ => by simp [isum]
  | u :: r, h => by
    have h1 := Int.ediv_mul_cancel (h u List.mem_cons_self)
    have h2 := isum_div (fun x hx => h x (List.mem_cons_of_mem u hx))
    rw [List.map_cons, isum, isum, Int.add_mul, h1, h2]
/-- What an answer is of its weights. -/
theorem ans_facts {ws : List Int} (h0 : ∀ x ∈ ws, 0 ≤ x ∧ x ≤ 1000000000000000000) (hs : isum ws ≠ 0) : ∃ g : Int, 0 < g ∧ g ≤ 1000000000000000000 ∧ (∀ (i : Nat) (d : Int), ws[i]? = some d → ∃ e, (redL ws)[i]? = some e ∧ 0 ≤ e ∧ e ≤ 1000000000000000000 ∧ g * e = d) ∧ (redL ws).length = ws.length ∧
    0 < isum (redL ws) ∧ isum (redL ws) ≤ isum ws ∧ (∀ x ∈ redL ws, 0 ≤ x) ∧ ∃ (m : Nat) (x : Int), (redL ws)[m]? = some x ∧ x ≠ 0 := by
  have hg := gcdF_bd h0 (by decide)
  have hdv := gcdF_dvd h0 (by decide)
  have hg0 : gcdF ws ≠ 0 := fun e => hs (isum_all0 (fun x hx => by
    have := hdv x hx
    rw [e] at this
    exact Int.zero_dvd.1 this))
  have e : redL ws = ws.map fun d => d / gcdF ws := by unfold redL divL; exact if_neg hg0
  have hgp : 0 < gcdF ws := by omega
  have hsum := isum_div hdv
  have hnn : ∀ x ∈ redL ws, 0 ≤ x := by
    rw [e]
    intro x hx
    obtain ⟨d, hd, rfl⟩ := List.mem_map.1 hx
    exact (div_bd (h0 d hd) hgp).1
  have hI0 := isum_nonneg hnn
  rw [← e] at hsum
  have hw0 := isum_nonneg (fun x hx => (h0 x hx).1)
  have hI1 : isum (redL ws) ≠ 0 := fun h => hs (by rw [← hsum, h, Int.zero_mul])
  refine ⟨gcdF ws, hgp, hg.2, ?_, by rw [e, List.length_map], by omega, ?_, hnn, ?_⟩
  · intro i d hd
    have b := h0 d (List.mem_of_getElem? hd)
    have b2 := div_bd b hgp
    refine ⟨d / gcdF ws, by rw [e, List.getElem?_map, hd]; rfl, b2.1, b2.2, ?_⟩
    rw [Int.mul_comm]
    exact Int.ediv_mul_cancel (hdv d (List.mem_of_getElem? hd))
  · have h1 : isum (redL ws) * 1 ≤ isum (redL ws) * gcdF ws := Int.mul_le_mul_of_nonneg_left (by omega) hI0
    omega
  · refine Classical.byContradiction fun hno => hI1 (isum_all0 fun x hx => ?_)
    refine Classical.byContradiction fun hx0 => hno ?_
    obtain ⟨m, hm⟩ := List.getElem?_of_mem hx
    exact ⟨m, x, hm, hx0⟩
theorem sameA_self (ps : List St) : sameA ps ps = ansOk ps := by
  unfold sameA
  cases ansOk ps <;> simp
theorem sameA_symm (ps qs : List St) : sameA ps qs = sameA qs ps := by
  unfold sameA
  have e : decide (answOf ps = answOf qs) = decide (answOf qs = answOf ps) := by
    by_cases h : answOf ps = answOf qs
    · rw [decide_eq_true h, decide_eq_true h.symm]
    · rw [decide_eq_false h, decide_eq_false (fun h' => h h'.symm)]
  rw [e]
  cases ansOk ps <;> cases ansOk qs <;> simp

set_option maxHeartbeats 2000000 in
theorem walk {H : Type} (enc : TypeId × Value → H) (W : World) (base : Nat) (v0 : Value) (d0 : DataW H) (p0 : List MemPlace) (hv0 : Value.okWide Try.prog W .any base 40 v0)
    (h0 : DataW.Trod enc Try.prog W 0 (fun _ => true) true 40 v0 d0 p0) (_ : ∀ x ∈ p0, x.block < W.heap.size) :
    Calls Try.prog 13 #[v0] W fun e w' => e = .returned (.bool true) ∧ Below W.heap.size W w' := by
  obtain ⟨A, n, c, rfl, hn, hc, hb⟩ := open_bytes hv0 h0
  clear hv0 h0
  have hcM := Lib.hid hc
  have hnn : n ≤ 9223372036854775807 := by unfold maxLen at hc; omega
  clear hc
  by_cases h1 : 1048576 < n
  · go_enter Try.func13, Try.ntmps13
    go_wp2_with fail
    go_ret
    exact ⟨rfl, Below.refl _ _⟩
  go_enter Try.func13, Try.ntmps13
  go_wp2_with fail
  refine (DrawSameAnswer_any A n c _ hb hn hcM.out).mono ?_
  rintro e w1 ⟨v, u, ps, qs, rfl, hO, hl, hQ, hl2, hB1⟩
  obtain ⟨A1, c1, hv, hlc, hcm⟩ := hO.form
  subst hv
  obtain ⟨A2, c2, hv, hlc2, hcm2⟩ := hQ.form
  subst hv
  have hP1 := Lib.hid hO.lst
  have hQ1 := Lib.hid hQ.lst
  have hB1' := Lib.hid hB1
  have hbg : ps.length ≤ 1048576 := by omega
  have hbg2 : qs.length ≤ 1048576 := by omega
  have cA := Lib.hid (fun wx (hx : Lst wx wx.heap.size A1 ps.length ps) => AnswerOf_any A1 ps.length c1 ps wx hx hlc hcm)
  have cB := Lib.hid (fun wx (hx : Lst wx wx.heap.size A1 ps.length ps) => specAnswerOf_any A1 ps.length c1 ps wx hx hlc hcm hbg)
  have cW := Lib.hid (fun wx (hx : Lst wx wx.heap.size A1 ps.length ps) => WeightsOf_any A1 ps.length c1 ps wx hx hlc hcm)
  have cPQ := Lib.hid (fun wx (hx : Lst wx wx.heap.size A1 ps.length ps) (hy : Lst wx wx.heap.size A2 qs.length qs) => SameAnswer_any A1 A2 ps.length c1 qs.length c2 ps qs wx hx hlc hcm hy hlc2 hcm2)
  have cPQs := Lib.hid (fun wx (hx : Lst wx wx.heap.size A1 ps.length ps) (hy : Lst wx wx.heap.size A2 qs.length qs) => specSameAnswer_any A1 A2 ps.length c1 qs.length c2 ps qs wx hx hlc hcm hbg hy hlc2 hcm2 hbg2)
  have cQP := Lib.hid (fun wx (hx : Lst wx wx.heap.size A1 ps.length ps) (hy : Lst wx wx.heap.size A2 qs.length qs) => SameAnswer_any A2 A1 qs.length c2 ps.length c1 qs ps wx hy hlc2 hcm2 hx hlc hcm)
  have cPP := Lib.hid (fun wx (hx : Lst wx wx.heap.size A1 ps.length ps) => SameAnswer_any A1 A1 ps.length c1 ps.length c1 ps ps wx hx hlc hcm hx hlc hcm)
  rw [sameA_symm qs ps] at cQP
  rw [sameA_self] at cPP
  have k1 := answOf_len ps
  have hNo := Lib.hid (show ansOk ps = false → answOf ps = [] from fun h => by
    have h0 : isum (weightsFrom ps 0) = 0 := Classical.byContradiction fun hn => by
      have : ansOk ps = true := decide_eq_true hn
      rw [h] at this
      cases this
    unfold answOf answ
    exact if_pos h0)
  have hYes := Lib.hid (show ansOk ps = true → ∃ g : Int, 0 < g ∧ g ≤ 1000000000000000000 ∧ (∀ (i : Nat) (d : Int), (weightsFrom ps 0)[i]? = some d → ∃ e, (answOf ps)[i]? = some e ∧ 0 ≤ e ∧ e ≤ 1000000000000000000 ∧ g * e = d) ∧ (answOf ps).length = (weightsFrom ps 0).length ∧
    0 < isum (answOf ps) ∧ isum (answOf ps) ≤ isum (weightsFrom ps 0) ∧ (∀ x ∈ answOf ps, 0 ≤ x) ∧ ∃ (m : Nat) (x : Int), (answOf ps)[m]? = some x ∧ x ≠ 0 from fun h => by
    have h0 : isum (weightsFrom ps 0) ≠ 0 := of_decide_eq_true h
    have := ans_facts (weights_bd ps) h0
    have e : answOf ps = redL (weightsFrom ps 0) := if_neg h0
    rw [e]
    exact this)
  have l81 := Lib.hid (fun h => answOf_81 (ps := ps) h)
  have hTop := weights_top ps
  have hWb := Lib.hid (weights_bd ps)
  unfold Lbd at cA cB
  unfold Wtsd at cW
  generalize weightsFrom ps 0 = ws at cW hYes hTop hWb
  generalize answOf ps = es at cA cB k1 hNo hYes l81
  generalize ansOk ps = ok at cA cB cPP hNo hYes l81
  generalize sameA ps qs = sm at cPQ cPQs cQP
  have n1 : (ok != ok) = false := by simp
  have n2 : (sm != sm) = false := by simp
  have n3 : (sm == sm) = true := by simp
  clear hO hQ hB1 hb hlc hcm hlc2 hcm2
  have hem : es.length ≤ maxLen := by unfold maxLen; omega
  go_wp2_with fail
  refine (cA.out _ hP1.out).mono ?_
  rintro e w2 ⟨v2, rfl, hI2, hb2⟩
  obtain ⟨A3, c3, hv, _, _⟩ := hI2.form
  subst hv
  have hB2 := Lib.hid (hB1'.out.trans (hb2.mono hB1'.out.size))
  have hP2 := Lib.hid ((hP1.out.below hb2).more hb2.size)
  have hQ2 := Lib.hid ((hQ1.out.below hb2).more hb2.size)
  have hX2 := Lib.hid hI2.lst
  clear hI2 hb2
  go_wp2_with fail
  refine (cB.out _ hP2.out).mono ?_
  rintro e w3 ⟨v3, rfl, hI3, hb3⟩
  obtain ⟨A4, c4, hv, _, _⟩ := hI3.form
  subst hv
  have hB3 := Lib.hid (hB2.out.trans (hb3.mono hB2.out.size))
  have hP3 := Lib.hid ((hP2.out.below hb3).more hb3.size)
  have hQ3 := Lib.hid ((hQ2.out.below hb3).more hb3.size)
  have hX3 := Lib.hid ((hX2.out.below hb3).more hb3.size)
  have hY3 := Lib.hid hI3.lst
  clear hI3 hb3
  go_wp2_with fail
  refine (wcInts_any A3 A4 es.length es.length c3 c4 es es _ hX3.out hY3.out hem hem).mono ?_
  rw [decide_eq_true (rfl : es = es)]
  rintro e w4 ⟨rfl, hq⟩
  have hb4 : Below w3.heap.size w3 w4 := by obtain ⟨q, rfl⟩ := hq; exact below_drewN (Below.refl _ _) q
  have hB4 := Lib.hid (hB3.out.trans (hb4.mono hB3.out.size))
  have hP4 := Lib.hid ((hP3.out.below hb4).more hb4.size)
  have hQ4 := Lib.hid ((hQ3.out.below hb4).more hb4.size)
  have hX4 := Lib.hid ((hX3.out.below hb4).more hb4.size)
  clear hq hb4
  go_wp2_with fail
  refine (cPQ.out _ hP4.out hQ4.out).mono ?_
  rintro e w5 ⟨rfl, hb5⟩
  have hB5 := Lib.hid (hB4.out.trans (hb5.mono hB4.out.size))
  have hP5 := Lib.hid ((hP4.out.below hb5).more hb5.size)
  have hQ5 := Lib.hid ((hQ4.out.below hb5).more hb5.size)
  have hX5 := Lib.hid ((hX4.out.below hb5).more hb5.size)
  clear hb5
  go_wp2_with fail
  refine (cPQs.out _ hP5.out hQ5.out).mono ?_
  rintro e w6 ⟨rfl, hb6⟩
  have hB6 := Lib.hid (hB5.out.trans (hb6.mono hB5.out.size))
  have hP6 := Lib.hid ((hP5.out.below hb6).more hb6.size)
  have hQ6 := Lib.hid ((hQ5.out.below hb6).more hb6.size)
  have hX6 := Lib.hid ((hX5.out.below hb6).more hb6.size)
  clear hb6
  go_wp2_with fail
  refine (cPP.out _ hP6.out).mono ?_
  rintro e w7 ⟨rfl, hb7⟩
  have hB7 := Lib.hid (hB6.out.trans (hb7.mono hB6.out.size))
  have hP7 := Lib.hid ((hP6.out.below hb7).more hb7.size)
  have hQ7 := Lib.hid ((hQ6.out.below hb7).more hb7.size)
  have hX7 := Lib.hid ((hX6.out.below hb7).more hb7.size)
  clear hb7
  cases ok
  · have hE := hNo.out rfl
    subst hE
    go_wp2_with fail
    go_ret
    exact ⟨rfl, hB7.out⟩
  · obtain ⟨g, hg0, hg1, hEv, hle, hs0, hs1, hnn, m, xm, hm, hxm⟩ := hYes.out rfl
    have h81 := l81.out rfl
    have hEv' := Lib.hid hEv
    have hNn := Lib.hid hnn
    have hm81 : m < 81 := by
      have := (List.getElem?_eq_some_iff.1 hm).1
      omega
    have hM := Lib.hid hm
    have hw81 : ws.length = 81 := by omega
    rw [h81] at hX7
    rw [h81]
    clear hEv hnn hm
    go_wp2_with fail
    go_loopg [9] m (fun gn o wr => ∃ f : Nat, f ≤ m ∧ gn = m - f ∧ o = .int .i64 f ∧ wr = w7)
    case atStart => exact ⟨0, Nat.zero_le _, rfl, rfl, rfl⟩
    case round =>
      obtain ⟨f, hf, hgn, rfl, rfl⟩ := hrel
      have hgf : gk = m - f := hgn
      clear hgn
      obtain ⟨gq, rfl⟩ : ∃ x, x = gk := ⟨_, rfl⟩
      obtain ⟨g3, o3, ef, rfl, _, hef, x0⟩ := hX7.out.at_ (show f < 81 by omega)
      have hf0 : (0 : Int) ≤ (f : Int) := by omega
      have hf1 : (f : Int) < 81 := by omega
      by_cases he0 : ef = 0
      · have hfm : f < m := by
          refine Nat.lt_of_le_of_ne hf fun e => hxm ?_
          subst e
          have := hM.out
          rw [hef] at this
          injection this with this
          rw [← this, he0]
        subst he0
        clear hef
        go_wp2_with fail
        go_roundg (m - (f + 1))
        case measure => omega
        case rel => exact ⟨f + 1, by omega, rfl, by go_num, rfl⟩
      · have hne : (ef == 0) = false := by simpa using he0
        have hEf := Lib.hid hef
        clear hef
        have hep := hNn.out ef (List.mem_of_getElem? hEf.out)
        obtain ⟨wf, hwf⟩ : ∃ d, ws[f]? = some d := ⟨_, List.getElem?_eq_getElem (by omega)⟩
        have hwb := hWb.out wf (List.mem_of_getElem? hwf)
        have hdv : wf / ef = g := by
          obtain ⟨e, he, _, _, hge⟩ := hEv'.out f wf hwf
          rw [hEf.out] at he
          injection he with he
          rw [← hge, ← he]
          exact Int.mul_ediv_cancel g he0
        have hefp : 0 < ef := by omega
        have hWf := Lib.hid hwf
        clear hwf hne
        have hne : (ef == 0) = false := by simpa using he0
        go_wp2_with fail
        refine (cW.out _ hP7.out).mono ?_
        rintro e w8 ⟨v8, rfl, hI8, hb8⟩
        obtain ⟨A8, c8, hv, _, _⟩ := hI8.form
        rw [hw81] at hv
        subst hv
        have hB8 := Lib.hid (hB7.out.trans (hb8.mono hB7.out.size))
        have hP8 := Lib.hid ((hP7.out.below hb8).more hb8.size)
        have hQ8 := Lib.hid ((hQ7.out.below hb8).more hb8.size)
        have hX8 := Lib.hid ((hX7.out.below hb8).more hb8.size)
        have hW8 := Lib.hid (show Ils w8 w8.heap.size A8 81 ws from hI8.lst)
        clear hI8 hb8
        obtain ⟨g8, o8, hA8, _, hc8⟩ := hW8.out.2 (by decide)
        obtain ⟨g9, o9, hA9, _, hc9⟩ := hX8.out.2 (by decide)
        injection hA9 with hA9
        injection hA9 with hg9 ho9 _
        subst hg9 ho9 hA8
        have x8 := hc8 f wf hWf.out
        have x9 := hc9 f ef hEf.out
        clear hc8 hc9 x0
        go_wp2_with fail
        go_quiet (fail)
        go_wp2_with fail
        try rw [hdv]
        go_loopg [82] 81 (fun gn o wr => ∃ k : Nat, k ≤ 81 ∧ gn = 81 - k ∧ o = .int .i64 k ∧ Below w8.heap.size w8 wr)
        case atStart => exact ⟨0, Nat.zero_le _, rfl, rfl, below_drewN (Below.refl _ _) _⟩
        case round =>
          obtain ⟨k, hk, hgn, rfl, hB⟩ := hrel
          have hgk : gk = 81 - k := hgn
          have hB' := Lib.hid hB
          have hBW := Lib.hid (hB8.out.trans (hB.mono hB8.out.size))
          clear hgn
          by_cases hlt : k < 81
          · obtain ⟨ga, oa, hAa, _, hca⟩ := (hW8.out.below hB).2 (by decide)
            obtain ⟨gb, ob, hAb, _, hcb⟩ := (hX8.out.below hB).2 (by decide)
            injection hAa with hAa
            injection hAa with u1 u2 _
            injection hAb with hAb
            injection hAb with u3 u4 _
            subst u1 u2 u3 u4
            obtain ⟨d, hd⟩ : ∃ d, ws[k]? = some d := ⟨_, List.getElem?_eq_getElem (by omega)⟩
            obtain ⟨e, he, he0', he1, hge⟩ := hEv'.out k d hd
            have hdb := hWb.out d (List.mem_of_getElem? hd)
            have y1 := hca k d hd
            have y2 := hcb k e he
            have hw : IntKind.i64.wrap (g * e) = d := by rw [hge, IntKind.wrap_i64]; omega
            have n4 : (d != d) = false := by simp
            have hk0 : (0 : Int) ≤ (k : Int) := by omega
            have hk1 : (k : Int) < 81 := by omega
            clear hB hca hcb hd he hge x8 x9 hdv
            go_wp2_with fail
            go_roundg (81 - (k + 1))
            case measure => omega
            case rel => exact ⟨k + 1, by omega, rfl, by go_num, hB'.out⟩
          · have hP9 := Lib.hid ((hP8.out.below hB).more hB.size)
            have hQ9 := Lib.hid ((hQ8.out.below hB).more hB.size)
            have hX9 := Lib.hid ((hX8.out.below hB).more hB.size)
            clear hB x8 x9 hdv
            go_wp2_with fail
            refine (wcSum_any _ 81 c3 es _ hX9.out (by decide) hNn.out (by omega)).mono ?_
            rintro e w10 ⟨rfl, hb10⟩
            have hB10 := Lib.hid (hBW.out.trans (hb10.mono hBW.out.size))
            have hP10 := Lib.hid ((hP9.out.below hb10).more hb10.size)
            have hQ10 := Lib.hid ((hQ9.out.below hb10).more hb10.size)
            clear hb10
            go_wp2_with fail
            refine (cPQ.out _ hP10.out hQ10.out).mono ?_
            rintro e w11 ⟨rfl, hb11⟩
            have hB11 := Lib.hid (hB10.out.trans (hb11.mono hB10.out.size))
            have hP11 := Lib.hid ((hP10.out.below hb11).more hb11.size)
            have hQ11 := Lib.hid ((hQ10.out.below hb11).more hb11.size)
            clear hb11
            go_wp2_with fail
            refine (cQP.out _ hP11.out hQ11.out).mono ?_
            rintro e w12 ⟨rfl, hb12⟩
            have hB12 := Lib.hid (hB11.out.trans (hb12.mono hB11.out.size))
            clear hb12
            go_wp2_with fail
            go_ret
            exact ⟨rfl, hB12.out⟩

set_option maxRecDepth 100000 in
theorem lifted (os : Os) (started : os.Started) (H : Type) (enc : TypeId × Value → H) :
    ReturnsInHanded {} Try.checked os 13 .any (Rows.fnAnswerSpec.pre6 enc Try.prog Try.f13 Rows.fnAnswerRow.domain false) (Rows.fnAnswerSpec.post enc Try.prog Try.f13 false true false false) := by
  refine returnsInHanded_of_change (C := Try.checked) own started (by kernel_rfl) Try.func13
    (ChangeSpec.witness6 (enc := enc) (C := Try.checked) false ⟨#[], #[.slice none 0 0], []⟩ 8 (by kernel_rfl) (by kernel_rfl) (by kernel_rfl) (by kernel_rfl)) ?_
  intro W base args ds gs before hval0 hW hcnd _
  have hval : ∀ (j : Nat) t v, Try.f13.params[j]? = some t → args[j]? = some v → Value.okWide Try.prog W .any base t v := hval0
  have hW' := hW
  obtain ⟨p, q, hA0, hV, rfl, hfz, hnd⟩ := hW
  have hA : DataW.TrodAll enc Try.prog W 0 (fun _ => true) true Try.f13.params.toList args.toList ds p := hA0
  rw [Try.params13] at hA hval
  obtain ⟨v0, vs0, d0, ds0, p0, q0, hargs, rfl, rfl, h0, r0⟩ := trodAll_cons hA
  obtain ⟨rfl, rfl, rfl⟩ := trodAll_nil r0
  obtain rfl : args = #[v0] := by cases args; simp_all
  obtain ⟨rfl, rfl⟩ := trodVars_none hV
  have lt0 : ∀ x ∈ p0, x.block < W.heap.size := by
    obtain ⟨m, hm⟩ := h0
    exact DataW.trod_lt m _ _ _ hm
  clear hA0 hval0
  refine (walk enc W base v0 d0 p0 (hval 0 40 v0 rfl rfl) h0 lt0).mono fun e W' ⟨he, bel⟩ => ?_
  subst he
  exact ⟨_, rfl, _, _, _, [], _, [], hW', trodAll_mk1 (shut_bool Try.underlying4 _), (trodAll_cons_mk (Below.trod laidOut (by kernel_rfl) (of_decide_eq_true (by kernel_rfl)) h0 bel lt0) trodAll_mk0), rfl, bel.frame _, fun h => by cases h⟩

theorem proved : Rows.FnAnswerSaid :=
  OpenClaim.holds_of_wide 13 Try.f13 rfl rfl rfl rfl rfl rfl rfl ⟨rfl, rfl, rfl, rfl, rfl⟩ rfl rfl rfl rfl rfl (by kernel_rfl) Try.func13 (by kernel_rfl)
    (of_decide_eq_true (by kernel_rfl)) (by unfold Func.isWrapper; first | (rw [if_pos (by decide +kernel)]; kernel_rfl) | (rw [if_neg (by decide +kernel)]; exact ⟨rfl, rfl⟩))
    (fun os started H enc _ => lifted os started H enc)
end Go.Proofs.Ytbjpodgmmpchjaa.fnAnswer
