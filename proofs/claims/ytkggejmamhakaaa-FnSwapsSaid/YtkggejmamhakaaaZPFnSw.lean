/- For every list of bytes: of the drawn program and the drawn change and place the program's ChangeOk tells what the model's tells, and its ChangeDo of a swap returns what the model's returns: nothing where it cannot be done, and else a program that the same swap turns into the drawn one again. No condition. -/
import Derived.Test.YtkggejmamhakaaaRows
import Derived.ProofKit
import Derived.OpenShut
import Derived.ShutString
import Derived.ChangeOld
import Derived.Below
import Derived.Test.YtkggejmamhakaaaZBM
import Derived.Test.YtkggejmamhakaaaZAJ
import Derived.Test.YtkggejmamhakaaaZAI
namespace Go.Proofs.Ytkggejmamhakaaa.fnSwaps
open Go.ChangeShapes Go.WideShapes Go.ChangeAt Go.RowKit
set_option linter.unusedVariables false
set_option maxRecDepth 100000
theorem own : ownKnob Try.prog.godebug = none := by kernel_rfl
theorem laidOut : laidOutB Try.prog = true := by kernel_rfl
theorem set_back {os : List St} {k : Nat} {a b : St} (ha : os[k]? = some a) (hb : os[k + 1]? = some b) : ((((os.set k b).set (k + 1) a).set k a).set (k + 1) b) = os := by
  apply List.ext_getElem?
  intro i
  by_cases h1 : i = k + 1
  · subst h1
    rw [List.getElem?_set_self (by simp; exact (List.getElem?_eq_some_iff.1 hb).1), hb]
  · rw [List.getElem?_set_ne (by omega)]
    by_cases h2 : i = k
    · subst h2
      rw [List.getElem?_set_self (by simp; exact (List.getElem?_eq_some_iff.1 ha).1), ha]
    · rw [List.getElem?_set_ne (by omega), List.getElem?_set_ne (by omega), List.getElem?_set_ne (by omega)]
/-- A swap done, and done again. -/
theorem swap_back {ps : List St} {z : Int} (h : cgOk ps 0 z = true) : cgOk (cgDo ps 0 z) 0 z = true ∧ cgDo (cgDo ps 0 z) 0 z = ps := by
  obtain ⟨hp, hc, hz, hf⟩ := cg_parts h
  obtain ⟨k, rfl⟩ : ∃ k : Nat, z = k := ⟨z.toNat, by omega⟩
  rw [Int.toNat_natCast] at hf
  obtain ⟨a, ha, hfa⟩ := fitAt_some hf
  obtain ⟨b, hb, hka, hkb, hsw⟩ := fits_0 hfa
  have hoa := (plain_iff.1 hp).2 a (List.mem_of_getElem? ha)
  have hob := (plain_iff.1 hp).2 b (List.mem_of_getElem? hb)
  have hla := (List.getElem?_eq_some_iff.1 ha).1
  have hlb := (List.getElem?_eq_some_iff.1 hb).1
  have e1 : cgDo ps 0 (k : Int) = (ps.set k b).set (k + 1) a := by
    unfold cgDo
    rw [if_pos h, Int.toNat_natCast, done_0 ha hb]
  have hpq := done_plain (c := 0) (by decide) hp hf
  rw [done_0 ha hb] at hpq
  rw [e1]
  have hqa : ((ps.set k b).set (k + 1) a)[k]? = some b := by
    rw [List.getElem?_set_ne (by omega), List.getElem?_set_self hla]
  have hqb : ((ps.set k b).set (k + 1) a)[k + 1]? = some a := by
    rw [List.getElem?_set_self (by simp; exact hlb)]
  have hfq : fits 0 b (some a) = true := by
    have hs2 : swapOk b a = true := by rw [swapOk_comm hob.1 hoa.1]; exact hsw
    rw [fits_some, if_neg (by decide)]
    unfold fitR
    rw [if_neg (by decide), if_neg (by decide), if_neg (by decide), hs2]
    simp [may1, may2, hka, hkb]
  obtain ⟨h1, h2, _⟩ := cg_all (c := 0) hpq (by decide) hqa (by rw [hqb]; exact hfq)
  refine ⟨h1, ?_⟩
  rw [h2, done_0 hqa hqb, set_back ha hb]
set_option maxHeartbeats 2000000 in
theorem walk {H : Type} (enc : TypeId × Value → H) (W : World) (base : Nat) (v0 : Value) (d0 : DataW H) (p0 : List MemPlace) (hv0 : Value.okWide Try.prog W .any base 22 v0)
    (h0 : DataW.Trod enc Try.prog W 0 (fun _ => true) true 22 v0 d0 p0) (_ : ∀ x ∈ p0, x.block < W.heap.size) :
    Calls Try.prog 4 #[v0] W fun e w' => e = .returned (.bool true) ∧ Below W.heap.size W w' := by
  obtain ⟨A, n, c, rfl, hn, hc, hb⟩ := open_bytes hv0 h0
  clear hv0 h0
  have hcM := Lib.hid hc
  have hnn : n ≤ 9223372036854775807 := by unfold maxLen at hc; omega
  clear hc
  by_cases h1 : 1048576 < n
  · go_enter Try.func4, Try.ntmps4
    go_wp2_with fail
    go_ret
    exact ⟨rfl, Below.refl _ _⟩
  go_enter Try.func4, Try.ntmps4
  go_wp2_with fail
  refine (DrawChangeOk_any A n c _ hb hn hcM.out).mono ?_
  rintro e w1 ⟨v, ps, x, y, rfl, hO, hl, hB1⟩
  obtain ⟨A1, c1, hv, hlc, hcm⟩ := hO.form
  subst hv
  have hP1 := Lib.hid hO.lst
  have hB1' := Lib.hid hB1
  have hbg : ps.length ≤ 1048576 := by omega
  have cOk := Lib.hid (fun wx (hx : Lst wx wx.heap.size A1 ps.length ps) => ChangeOk_any A1 ps.length c1 ps x y wx hx hlc hcm)
  have cOkS := Lib.hid (fun wx (hx : Lst wx wx.heap.size A1 ps.length ps) => specChangeOk_any A1 ps.length c1 ps x y wx hx hlc hcm hbg)
  have cDo := Lib.hid (fun wx (hx : Lst wx wx.heap.size A1 ps.length ps) => ChangeDo_any A1 ps.length c1 ps 0 y wx hx hlc hcm)
  have cDoS := Lib.hid (fun wx (hx : Lst wx wx.heap.size A1 ps.length ps) => specChangeDo_any A1 ps.length c1 ps 0 y wx hx hlc hcm hbg)
  have hNo := Lib.hid (show cgOk ps 0 y = false → cgDo ps 0 y = [] from fun h => by unfold cgDo; rw [if_neg (by rw [h]; decide)])
  have hYes := Lib.hid (show cgOk ps 0 y = true → cgOk (cgDo ps 0 y) 0 y = true ∧ cgDo (cgDo ps 0 y) 0 y = ps from fun h => swap_back h)
  have hLen := Lib.hid (show (cgDo ps 0 y).length ≤ 20 from by
    unfold cgDo
    split
    · rename_i h
      obtain ⟨h1, h2, _, h3⟩ := cg_parts h
      have := (plain_iff.1 (done_plain h2 h1 h3)).1
      omega
    · simp)
  unfold Dod at cDo cDoS
  generalize cgDo ps 0 y = qs at cDo cDoS hNo hYes hLen
  generalize cgOk ps 0 y = ok at cDo cDoS hNo hYes
  generalize cgOk ps x y = sm at cOk cOkS
  have n1 : (ok != ok) = false := by simp
  have n2 : (sm != sm) = false := by simp
  have hpm : ps.length ≤ maxLen := by unfold maxLen; omega
  have hqm : qs.length ≤ maxLen := by have := hLen.out; unfold maxLen; omega
  clear hO hB1 hb hlc hcm
  go_wp2_with fail
  refine (cOk.out _ hP1.out).mono ?_
  rintro e w2 ⟨rfl, hb2⟩
  have hB2 := Lib.hid (hB1'.out.trans (hb2.mono hB1'.out.size))
  have hP2 := Lib.hid ((hP1.out.below hb2).more hb2.size)
  clear hb2
  go_wp2_with fail
  refine (cDo.out _ hP2.out).mono ?_
  rintro e w3 ⟨v3, rfl, hO3, hb3⟩
  obtain ⟨A3, c3, hv, hlc3, hcm3⟩ := hO3.form
  subst hv
  have hB3 := Lib.hid (hB2.out.trans (hb3.mono hB2.out.size))
  have hP3 := Lib.hid ((hP2.out.below hb3).more hb3.size)
  have hQ3 := Lib.hid hO3.lst
  clear hO3 hb3
  go_wp2_with fail
  refine (cDoS.out _ hP3.out).mono ?_
  rintro e w4 ⟨v4, rfl, hO4, hb4⟩
  obtain ⟨A4, c4, hv, _, _⟩ := hO4.form
  subst hv
  have hB4 := Lib.hid (hB3.out.trans (hb4.mono hB3.out.size))
  have hP4 := Lib.hid ((hP3.out.below hb4).more hb4.size)
  have hQ4 := Lib.hid ((hQ3.out.below hb4).more hb4.size)
  have hS4 := Lib.hid hO4.lst
  clear hO4 hb4
  go_wp2_with fail
  refine (cOkS.out _ hP4.out).mono ?_
  rintro e w5 ⟨rfl, hb5⟩
  have hB5 := Lib.hid (hB4.out.trans (hb5.mono hB4.out.size))
  have hP5 := Lib.hid ((hP4.out.below hb5).more hb5.size)
  have hQ5 := Lib.hid ((hQ4.out.below hb5).more hb5.size)
  have hS5 := Lib.hid ((hS4.out.below hb5).more hb5.size)
  clear hb5
  go_wp2_with fail
  refine (wcProgram_same A3 A4 qs.length c3 c4 qs _ hQ5.out hS5.out hqm).mono ?_
  rintro e w6 ⟨rfl, hb6⟩
  have hB6 := Lib.hid (hB5.out.trans (hb6.mono hB5.out.size))
  have hP6 := Lib.hid ((hP5.out.below hb6).more hb6.size)
  have hQ6 := Lib.hid ((hQ5.out.below hb6).more hb6.size)
  clear hb6
  cases ok
  · have hE := hNo.out rfl
    subst hE
    go_wp2_with fail
    go_ret
    exact ⟨rfl, hB6.out⟩
  · obtain ⟨hY1, hY2⟩ := hYes.out rfl
    have cQ := Lib.hid (fun wx (hx : Lst wx wx.heap.size A3 qs.length qs) => ChangeDo_any A3 qs.length c3 qs 0 y wx hx hlc3 hcm3)
    rw [hY1, hY2] at cQ
    clear hY1 hY2 hlc3 hcm3
    go_wp2_with fail
    refine (cQ.out _ hQ6.out).mono ?_
    rintro e w7 ⟨v7, rfl, hO7, hb7⟩
    obtain ⟨A7, c7, hv, _, _⟩ := hO7.form
    subst hv
    have hB7 := Lib.hid (hB6.out.trans (hb7.mono hB6.out.size))
    have hP7 := Lib.hid ((hP6.out.below hb7).more hb7.size)
    have hS7 := Lib.hid hO7.lst
    clear hO7 hb7
    go_wp2_with fail
    refine (wcProgram_same A7 A1 ps.length c7 c1 ps _ hS7.out hP7.out hpm).mono ?_
    rintro e w8 ⟨rfl, hb8⟩
    have hB8 := Lib.hid (hB7.out.trans (hb8.mono hB7.out.size))
    clear hb8
    go_wp2_with fail
    go_ret
    exact ⟨rfl, hB8.out⟩
set_option maxRecDepth 100000 in
theorem lifted (os : Os) (started : os.Started) (H : Type) (enc : TypeId × Value → H) :
    ReturnsInHanded {} Try.checked os 4 .any (Rows.fnSwapsSpec.pre6 enc Try.prog Try.f4 Rows.fnSwapsRow.domain false) (Rows.fnSwapsSpec.post enc Try.prog Try.f4 false true false false) := by
  refine returnsInHanded_of_change (C := Try.checked) own started (by kernel_rfl) Try.func4
    (ChangeSpec.witness6 (enc := enc) (C := Try.checked) false ⟨#[], #[.slice none 0 0], []⟩ 8 (by kernel_rfl) (by kernel_rfl) (by kernel_rfl) (by kernel_rfl)) ?_
  intro W base args ds gs before hval0 hW hcnd _
  have hval : ∀ (j : Nat) t v, Try.f4.params[j]? = some t → args[j]? = some v → Value.okWide Try.prog W .any base t v := hval0
  have hW' := hW
  obtain ⟨p, q, hA0, hV, rfl, hfz, hnd⟩ := hW
  have hA : DataW.TrodAll enc Try.prog W 0 (fun _ => true) true Try.f4.params.toList args.toList ds p := hA0
  rw [Try.params4] at hA hval
  obtain ⟨v0, vs0, d0, ds0, p0, q0, hargs, rfl, rfl, h0, r0⟩ := trodAll_cons hA
  obtain ⟨rfl, rfl, rfl⟩ := trodAll_nil r0
  obtain rfl : args = #[v0] := by cases args; simp_all
  obtain ⟨rfl, rfl⟩ := trodVars_none hV
  have lt0 : ∀ x ∈ p0, x.block < W.heap.size := by
    obtain ⟨m, hm⟩ := h0
    exact DataW.trod_lt m _ _ _ hm
  clear hA0 hval0
  refine (walk enc W base v0 d0 p0 (hval 0 22 v0 rfl rfl) h0 lt0).mono fun e W' ⟨he, bel⟩ => ?_
  subst he
  exact ⟨_, rfl, _, _, _, [], _, [], hW', trodAll_mk1 (shut_bool Try.underlying4 _), (trodAll_cons_mk (Below.trod laidOut (by kernel_rfl) (of_decide_eq_true (by kernel_rfl)) h0 bel lt0) trodAll_mk0), rfl, bel.frame _, fun h => by cases h⟩
theorem proved : Rows.FnSwapsSaid :=
  OpenClaim.holds_of_wide 4 Try.f4 rfl rfl rfl rfl rfl rfl rfl ⟨rfl, rfl, rfl, rfl, rfl⟩ rfl rfl rfl rfl rfl (by kernel_rfl) Try.func4 (by kernel_rfl)
    (of_decide_eq_true (by kernel_rfl)) (by unfold Func.isWrapper; first | (rw [if_pos (by decide +kernel)]; kernel_rfl) | (rw [if_neg (by decide +kernel)]; exact ⟨rfl, rfl⟩))
    (fun os started H enc _ => lifted os started H enc)
end Go.Proofs.Ytkggejmamhakaaa.fnSwaps
