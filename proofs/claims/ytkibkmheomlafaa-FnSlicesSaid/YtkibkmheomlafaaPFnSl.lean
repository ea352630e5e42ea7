/- For every list of bytes: of the drawn program and variables the program's SliceOf and SeenOf return what the model's return; a slice is seen as the program is, but for the number told; it is plain, and no longer. No condition. -/
import Derived.Test.YtkibkmheomlafaaRows
import Derived.Test.YtkibkmheomlafaaH3
import Derived.Test.YtkibkmheomlafaaH4
import Derived.Test.YtkibkmheomlafaaH6
import Derived.Test.YtkibkmheomlafaaH7
import Derived.Test.YtkibkmheomlafaaNm
import Derived.Test.YtkibkmheomlafaaKt
import Derived.Test.YtkibkmheomlafaaWcp
import Derived.Test.YtkibkmheomlafaaOpB
import Derived.ProofKit
import Derived.OpenShut
import Derived.ShutString
import Derived.ChangeOld
import Derived.Below
namespace Go.Proofs.Ytkibkmheomlafaa.fnSlices
open Go.ChangeShapes Go.WideShapes Go.ChangeAt Go.RowKit 
set_option linter.unusedVariables false
set_option maxRecDepth 100000

theorem own : ownKnob Try.prog.godebug = none := by kernel_rfl
theorem laidOut : laidOutB Try.prog = true := by kernel_rfl

theorem plain_seen {ps : List St} (h : plainOk ps = true) {vars : Int} (hv : inB vars 0 15 = true) : okV ps vars = true ∧ seenTo ps vars = seen vars (weightsFrom ps 0) := by
  have h1 : okV ps vars = true := by
    unfold okV
    rw [plain_self h, hv]
    rfl
  exact ⟨h1, by unfold seenTo; rw [h1]; rfl⟩
theorem sl_facts {ps : List St} {vars : Int} (h : okS ps vars = true) : okV ps vars = true ∧ okV (slTo ps vars) vars = true ∧ plainOk (slTo ps vars) = true ∧ (slTo ps vars).length ≤ ps.length ∧ (seenTo ps vars).length = 81 ∧ (seenTo (slTo ps vars) vars).length = 81 ∧ (1 ≤ byTo ps vars ∧ byTo ps vars ≤ 205891132094649) ∧ ∀ (i : Nat) (d : Int), (seenTo ps vars)[i]? = some d → ∃ e, (seenTo (slTo ps vars) vars)[i]? = some e ∧ byTo ps vars * e = d ∧ 0 ≤ d ∧ d ≤ 1000000000000000000 := by
  obtain ⟨hp, hv⟩ := okS_parts h
  have hvb : inB vars 0 15 = true := inB_iff.2 hv
  have e1 : slTo ps vars = sl ps vars := by unfold slTo; rw [h]; rfl
  have e2 : byTo ps vars = byL ps vars := by unfold byTo; rw [h]; rfl
  have hq := sl_plain (L := vars) hp
  obtain ⟨a1, a2⟩ := plain_seen hp hvb
  obtain ⟨b1, b2⟩ := plain_seen hq hvb
  rw [e1, e2, a2, b2]
  have hb := byL_top hp vars 0
  rw [List.drop_zero] at hb
  refine ⟨a1, b1, hq, sl_len ps vars, seen_len _ _, seen_len _ _, hb, fun i d hd => ?_⟩
  obtain ⟨e, he, hm⟩ := seen_slice hp vars i d hd
  have hi : i < 81 := by have := (List.getElem?_eq_some_iff.1 hd).1; rwa [seen_len] at this
  have h1 := keyed_bd81 (N := 81) (key := fun st => mk vars st) (weights_nonneg ps) (weightsFrom ps 0).length i
  rw [List.take_length] at h1
  have h2 : d = rsum (fun st => if mk vars st = (i : Int) then 1 else 0) (weightsFrom ps 0) 0 := by
    unfold seen at hd
    rw [keyed_at _ _ _ hi] at hd
    injection hd with hd
    exact hd.symm
  have h3 := seen_top ps
  refine ⟨e, he, hm, ?_, ?_⟩
  · rw [h2]; exact h1.1
  · rw [h2]; exact Int.le_trans h1.2 h3

set_option maxHeartbeats 4000000 in
theorem walk {H : Type} (enc : TypeId × Value → H) (W : World) (base : Nat) (v0 : Value) (d0 : DataW H) (p0 : List MemPlace) (hv0 : Value.okWide Try.prog W .any base 22 v0)
    (h0 : DataW.Trod enc Try.prog W 0 (fun _ => true) true 22 v0 d0 p0) (_ : ∀ x ∈ p0, x.block < W.heap.size) :
    Calls Try.prog 3 #[v0] W fun e w' => e = .returned (.bool true) ∧ Below W.heap.size W w' := by
  obtain ⟨A, n, c, rfl, hn, hc, hb⟩ := open_bytes hv0 h0
  clear hv0 h0
  have hcM := Lib.hid hc
  have hnn : n ≤ 9223372036854775807 := by unfold maxLen at hc; omega
  clear hc
  by_cases h1 : 1048576 < n
  · go_enter Try.func3, Try.ntmps3
    go_wp2_with fail
    go_ret
    exact ⟨rfl, Below.refl _ _⟩
  go_enter Try.func3, Try.ntmps3
  go_wp2_with fail
  refine (DrawSliceOf_any A n c _ hb hn hcM.out).mono ?_
  rintro e w1 ⟨v, ps, vars, rfl, hO, hl, hB1⟩
  obtain ⟨AP, cP, hv, hlcP, hcmP⟩ := hO.form
  subst hv
  have hP1 := Lib.hid hO.lst
  have hB1' := Lib.hid hB1
  clear hB1 hb
  have hB1 := hB1'
  clear hB1'
  have hbg : ps.length ≤ 1048576 := by omega
  have cI := Lib.hid (fun wx hx => SliceOf_any AP ps.length cP ps vars wx hx hlcP hcmP)
  have cS := Lib.hid (fun wx hx => specSliceOf_any AP ps.length cP ps vars wx hx hlcP hcmP hbg)
  have cE := Lib.hid (fun A2 k2 c2 (qs : List St) wx hx h2 h3 => SeenOf_any A2 k2 c2 qs vars wx hx h2 h3)
  have cEP := Lib.hid (fun wx hx => SeenOf_any AP ps.length cP ps vars wx hx hlcP hcmP)
  have cES := Lib.hid (fun wx hx => specSeenOf_any AP ps.length cP ps vars wx hx hlcP hcmP hbg)
  have hNo := Lib.hid (show okS ps vars = false → slTo ps vars = [] ∧ byTo ps vars = 0 from fun h => by
    unfold slTo byTo
    rw [h]
    exact ⟨rfl, rfl⟩)
  have hYes := Lib.hid (fun h => sl_facts (ps := ps) (vars := vars) h)
  have hLen := Lib.hid (slTo_len ps vars)
  have hSl := Lib.hid (seenTo_len ps vars)
  have hkn := Lib.hid (show okS ps vars = true ∨ okS ps vars = false from by cases okS ps vars <;> simp)
  unfold Sld at cI cS
  unfold Lbd at cEP cES cE
  generalize slTo ps vars = qs at cI cS hNo hYes hLen
  generalize byTo ps vars = f at cI cS hNo hYes
  generalize seenTo ps vars = al at cEP cES hYes hSl
  generalize okV ps vars = av at cEP cES hYes
  generalize okS ps vars = ok at cI cS hNo hYes hkn
  have n1 : (ok != ok) = false := by simp
  have n2 : (f != f) = false := by simp
  have n3 : (av != av) = false := by simp
  have hqm : qs.length ≤ maxLen := by have := hLen.out; unfold maxLen; omega
  have ham : al.length ≤ maxLen := by have := hSl.out; unfold maxLen; omega
  clear hO hl
  go_wp2_with fail
  refine (cI.out _ hP1.out).mono ?_
  rintro e w2 ⟨v3, rfl, hO3, hb⟩
  have hP2 := Lib.hid ((hP1.out.below hb).more hb.size)
  clear hP1
  obtain ⟨AQ, cQ, hv, hlcQ, hcmQ⟩ := hO3.form
  subst hv
  have hQ2 := Lib.hid hO3.lst
  have hB2 := Lib.hid (hB1.out.trans (hb.mono hB1.out.size))
  clear hb hO3 hB1
  go_wp2_with fail
  refine (cS.out _ hP2.out).mono ?_
  rintro e w3 ⟨v4, rfl, hO4, hb⟩
  have hP3 := Lib.hid ((hP2.out.below hb).more hb.size)
  clear hP2
  have hQ3 := Lib.hid ((hQ2.out.below hb).more hb.size)
  clear hQ2
  obtain ⟨AR, cR, hv, hlcR, hcmR⟩ := hO4.form
  subst hv
  have hR3 := Lib.hid hO4.lst
  have hB3 := Lib.hid (hB2.out.trans (hb.mono hB2.out.size))
  clear hb hO4 hB2
  go_wp2_with fail
  refine (wcProgram_same AQ AR qs.length cQ cR qs _ hQ3.out hR3.out hqm).mono ?_
  rintro e w4 ⟨rfl, hb⟩
  have hP4 := Lib.hid ((hP3.out.below hb).more hb.size)
  clear hP3
  have hQ4 := Lib.hid ((hQ3.out.below hb).more hb.size)
  clear hQ3
  have hR4 := Lib.hid ((hR3.out.below hb).more hb.size)
  clear hR3
  have hB4 := Lib.hid (hB3.out.trans (hb.mono hB3.out.size))
  clear hb hB3
  clear hR4
  go_wp2_with fail
  refine (cEP.out _ hP4.out).mono ?_
  rintro e w5 ⟨v5, rfl, hO5, hb⟩
  have hP5 := Lib.hid ((hP4.out.below hb).more hb.size)
  clear hP4
  have hQ5 := Lib.hid ((hQ4.out.below hb).more hb.size)
  clear hQ4
  obtain ⟨AA, cA, hv, hlcA, hcmA⟩ := hO5.form
  subst hv
  have hA5 := Lib.hid hO5.lst
  have hB5 := Lib.hid (hB4.out.trans (hb.mono hB4.out.size))
  clear hb hO5 hB4
  obtain ⟨bl, hbl⟩ : ∃ bl, bl = seenTo qs vars := ⟨_, rfl⟩
  obtain ⟨bv, hbv⟩ : ∃ bv, bv = okV qs vars := ⟨_, rfl⟩
  have hblh := Lib.hid hbl
  have hbvh := Lib.hid hbv
  have cEQ := Lib.hid (fun wx hx => cE.out AQ qs.length cQ qs wx hx hlcQ hcmQ)
  rw [← hbl, ← hbv] at cEQ
  clear hbl hbv cE
  go_wp2_with fail
  refine (cEQ.out _ hQ5.out).mono ?_
  rintro e w6 ⟨v6, rfl, hO6, hb⟩
  have hP6 := Lib.hid ((hP5.out.below hb).more hb.size)
  clear hP5
  have hQ6 := Lib.hid ((hQ5.out.below hb).more hb.size)
  clear hQ5
  have hA6 := Lib.hid ((hA5.out.below hb).more hb.size)
  clear hA5
  obtain ⟨AD, cD, hv, hlcD, hcmD⟩ := hO6.form
  subst hv
  have hD6 := Lib.hid hO6.lst
  have hB6 := Lib.hid (hB5.out.trans (hb.mono hB5.out.size))
  clear hb hO6 hB5
  go_wp2_with fail
  refine (cES.out _ hP6.out).mono ?_
  rintro e w7 ⟨v7, rfl, hO7, hb⟩
  have hP7 := Lib.hid ((hP6.out.below hb).more hb.size)
  clear hP6
  have hQ7 := Lib.hid ((hQ6.out.below hb).more hb.size)
  clear hQ6
  have hA7 := Lib.hid ((hA6.out.below hb).more hb.size)
  clear hA6
  have hD7 := Lib.hid ((hD6.out.below hb).more hb.size)
  clear hD6
  obtain ⟨AX, cX, hv, hlcX, hcmX⟩ := hO7.form
  subst hv
  have hX7 := Lib.hid hO7.lst
  have hB7 := Lib.hid (hB6.out.trans (hb.mono hB6.out.size))
  clear hb hO7 hB6
  go_wp2_with fail
  refine (wcInts_any AA AX al.length al.length cA cX al al _ hA7.out hX7.out ham ham).mono ?_
  rw [decide_eq_true rfl]
  rintro e w8 ⟨rfl, hq8⟩
  have hb : Below w7.heap.size w7 w8 := by obtain ⟨q, rfl⟩ := hq8; exact below_drewN (Below.refl _ _) q
  have hP8 := Lib.hid ((hP7.out.below hb).more hb.size)
  clear hP7
  have hQ8 := Lib.hid ((hQ7.out.below hb).more hb.size)
  clear hQ7
  have hA8 := Lib.hid ((hA7.out.below hb).more hb.size)
  clear hA7
  have hD8 := Lib.hid ((hD7.out.below hb).more hb.size)
  clear hD7
  have hX8 := Lib.hid ((hX7.out.below hb).more hb.size)
  clear hX7
  have hB8 := Lib.hid (hB7.out.trans (hb.mono hB7.out.size))
  clear hb hq8 hB7
  clear hX8
  cases ok
  · obtain ⟨hE, hF⟩ := hNo.out rfl
    subst hE
    subst hF
    go_wp2_with fail
    go_ret
    exact ⟨rfl, hB8.out⟩
  · obtain ⟨hY1, hY2, hY3, hY4, hY5, hY6, hY7, hY8⟩ := hYes.out rfl
    rw [← hbvh.out] at hY2
    rw [← hblh.out] at hY6
    have hY := Lib.hid hY8
    have hAl := Lib.hid hY5
    have hBl := Lib.hid hY6
    have hPq := Lib.hid hY3
    have cPl := Lib.hid (fun wx hx => PlainOk_any AQ qs.length cQ qs wx hx hlcQ hcmQ)
    rw [hPq.out] at cPl
    subst hY1
    subst hY2
    have hA := hA8.out
    have hD := hD8.out
    rw [hY5] at hA ⊢
    rw [hY6] at hD ⊢
    have hAh := Lib.hid hA
    have hBh := Lib.hid hD
    clear hYes hNo hkn hY8 hA hD hY5 hY6 hY3
    go_wp2_with fail
    go_loopg [93] 81 (fun gn v wr => ∃ k : Nat, k ≤ 81 ∧ gn = 81 - k ∧ v = .int .i64 k ∧ wr = w8)
    case atStart => exact ⟨0, Nat.zero_le _, rfl, rfl, rfl⟩
    case round =>
      obtain ⟨k, hk, hgn, rfl, rfl⟩ := hrel
      have hgk : gk = 81 - k := hgn
      clear hgn
      by_cases hlt : k < 81
      · obtain ⟨g, off, d, rfl, hg, hd, c0⟩ := hAh.out.at_ hlt
        obtain ⟨g2, off2, y, rfl, hg2, hy, c1⟩ := hBh.out.at_ hlt
        obtain ⟨y', hy', hm, hd0, hd1⟩ := hY.out k d hd
        rw [← hblh.out, hy] at hy'
        injection hy' with hyy
        subst hyy
        have hw : IntKind.i64.wrap (f * y) = d := by rw [hm, IntKind.wrap_i64]; omega
        have hw2 : wrap64 (f * y) = d := by rw [hm]; unfold wrap64; omega
        have n4 : (d != d) = false := by simp
        have hk0 : (0 : Int) ≤ (k : Int) := by omega
        have hk1 : (k : Int) < 81 := by omega
        clear hd hy hm
        go_wp2_with fail
        go_roundg (81 - (k + 1))
        case measure => omega
        case rel => exact ⟨k + 1, by omega, rfl, by go_num, rfl⟩
      · obtain rfl : k = 81 := by omega
        have hlq : (qs.length : Int) ≤ (ps.length : Int) := by omega
        go_wp2_with fail
        refine (cPl.out _ hQ8.out).mono ?_
        rintro e w9 ⟨rfl, hb9⟩
        have hB9 := Lib.hid (hB8.out.trans (hb9.mono hB8.out.size))
        clear hb9
        go_wp2_with fail
        go_ret
        exact ⟨rfl, hB9.out⟩

set_option maxRecDepth 100000 in
theorem lifted (os : Os) (started : os.Started) (H : Type) (enc : TypeId × Value → H) :
    ReturnsInHanded {} Try.checked os 3 .any (Rows.fnSlicesSpec.pre6 enc Try.prog Try.f3 Rows.fnSlicesRow.domain false) (Rows.fnSlicesSpec.post enc Try.prog Try.f3 false true false false) := by
  refine returnsInHanded_of_change (C := Try.checked) own started (by kernel_rfl) Try.func3
    (ChangeSpec.witness6 (enc := enc) (C := Try.checked) false ⟨#[], #[.slice none 0 0], []⟩ 8 (by kernel_rfl) (by kernel_rfl) (by kernel_rfl) (by kernel_rfl)) ?_
  intro W base args ds gs before hval0 hW hcnd _
  have hval : ∀ (j : Nat) t v, Try.f3.params[j]? = some t → args[j]? = some v → Value.okWide Try.prog W .any base t v := hval0
  have hW' := hW
  obtain ⟨p, q, hA0, hV, rfl, hfz, hnd⟩ := hW
  have hA : DataW.TrodAll enc Try.prog W 0 (fun _ => true) true Try.f3.params.toList args.toList ds p := hA0
  rw [Try.params3] at hA hval
  obtain ⟨v0, vs0, d0, ds0, p0, q0, hargs, rfl, rfl, h0, r0⟩ := trodAll_cons hA
  obtain ⟨rfl, rfl, rfl⟩ := trodAll_nil r0
  obtain rfl : args = #[v0] := by cases args; simp_all
  obtain ⟨rfl, rfl⟩ := trodVars_none hV
  have lt0 : ∀ x ∈ p0, x.block < W.heap.size := by
    obtain ⟨m, hm⟩ := h0
    exact DataW.trod_lt m _ _ _ hm
  clear hA0 hval0
  refine (walk enc W base v0 d0 p0 (hval 0 22 v0 rfl rfl) h0 lt0).mono fun e W' ⟨he, bel⟩ => ?_
  subst he
  exact ⟨_, rfl, _, _, _, [], _, [], hW', trodAll_mk1 (shut_bool Try.underlying4 _), (trodAll_cons_mk (Below.trod laidOut (by kernel_rfl) (of_decide_eq_true (by kernel_rfl)) h0 bel lt0) trodAll_mk0), rfl, bel.frame _, fun h => by cases h⟩

theorem proved : Rows.FnSlicesSaid :=
  OpenClaim.holds_of_wide 3 Try.f3 rfl rfl rfl rfl rfl rfl rfl ⟨rfl, rfl, rfl, rfl, rfl⟩ rfl rfl rfl rfl rfl (by kernel_rfl) Try.func3 (by kernel_rfl)
    (of_decide_eq_true (by kernel_rfl)) (by unfold Func.isWrapper; first | (rw [if_pos (by decide +kernel)]; kernel_rfl) | (rw [if_neg (by decide +kernel)]; exact ⟨rfl, rfl⟩))
    (fun os started H enc _ => lifted os started H enc)
end Go.Proofs.Ytkibkmheomlafaa.fnSlices
