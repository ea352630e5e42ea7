/- For every list of bytes: of the drawn program and variables the program's NeedsOf returns what the model's returns, nothing where it is not plain or they are none; a slice needs all of itself, and what is needed for some variables is needed for all. No condition. -/
import Derived.Test.YtkibkmheomlafaaRows
import Derived.Test.YtkibkmheomlafaaH3
import Derived.Test.YtkibkmheomlafaaH5
import Derived.Test.YtkibkmheomlafaaH6
import Derived.Test.YtkibkmheomlafaaH7
import Derived.Test.YtkibkmheomlafaaNm
import Derived.Test.YtkibkmheomlafaaKt
import Derived.Test.YtkibkmheomlafaaWcp
import Derived.Test.YtkibkmheomlafaaOpB
import Derived.ProofKit
import Derived.OpenShut
import Derived.ShutString
import Derived.ChangeOld
import Derived.Below
namespace Go.Proofs.Ytkibkmheomlafaa.fnNeeds
open Go.ChangeShapes Go.WideShapes Go.ChangeAt Go.RowKit 
set_option linter.unusedVariables false
set_option maxRecDepth 100000

theorem own : ownKnob Try.prog.godebug = none := by kernel_rfl
theorem laidOut : laidOutB Try.prog = true := by kernel_rfl

theorem needL_sl : ∀ (ps : List St) (L : Int), needL (sl ps L) L = needL ps L
  | [], _ => rfl
  | s :: r, L => by
    rw [sl]
    cases hn : s.isN (needL r L)
    · rw [if_neg (by decide), needL_sl r L]
      exact (bk_skip hn).symm
    · rw [if_pos rfl, needL, needL, needL_sl r L]
theorem sl_sl : ∀ (ps : List St) (L : Int), sl (sl ps L) L = sl ps L
  | [], _ => rfl
  | s :: r, L => by
    rw [sl]
    cases hn : s.isN (needL r L)
    · rw [if_neg (by decide), sl_sl r L]
    · rw [if_pos rfl, sl, needL_sl, hn, if_pos rfl, sl_sl r L]
/-- One set has all of another. -/
def Sub (L M : Int) : Prop := ∀ v : Nat, v ≤ 3 → tb L v = true → tb M v = true
theorem bk_mono {s : St} (ho : s.ok = true) (h6 : s.k < 6) {L M : Int} (h : Sub L M) : Sub (s.bk L) (s.bk M) := by
  have hr := ok_rng (k := s.k) (a := s.a) (b := s.b) (c := s.c) (u := s.u) (v := s.v) (x := s.x) ho
  intro v hv ht
  by_cases hk : 4 ≤ s.k
  · unfold St.bk at ht ⊢
    rw [if_pos hk, tb_bor, Bool.or_eq_true] at ht ⊢
    exact ht.imp (h v hv) id
  · have ha : 0 ≤ s.a ∧ s.a ≤ 3 := by omega
    unfold St.bk at ht ⊢
    rw [if_neg hk] at ht ⊢
    cases hl : tb L s.a.toNat
    · rw [hl, if_neg (by decide)] at ht
      have hm := h v hv ht
      have hne : s.a ≠ v := fun e => by
        rw [e, Int.toNat_natCast, ht] at hl
        cases hl
      split
      · rw [tb_bor, tb_bdf ha.1 ha.2 hv, hm, decide_eq_false hne]
        rfl
      · exact hm
    · rw [hl, if_pos rfl, tb_bor, Bool.or_eq_true, tb_bdf ha.1 ha.2 hv] at ht
      rw [h s.a.toNat (by omega) hl, if_pos rfl, tb_bor, Bool.or_eq_true, tb_bdf ha.1 ha.2 hv]
      refine ht.imp (fun e => ?_) id
      rw [Bool.and_eq_true] at e ⊢
      exact ⟨h v hv e.1, e.2⟩
theorem needL_mono : ∀ {ps : List St}, (∀ s ∈ ps, s.ok = true ∧ s.k < 6) → ∀ {L M : Int}, Sub L M → Sub (needL ps L) (needL ps M)
  | [], _, _, _, h => h
  | s :: r, hok, _, _, h => bk_mono (hok s List.mem_cons_self).1 (hok s List.mem_cons_self).2 (needL_mono (fun t ht => hok t (List.mem_cons_of_mem s ht)) h)
theorem ndx_mono : ∀ {ps : List St}, (∀ s ∈ ps, s.ok = true ∧ s.k < 6) → ∀ {L M : Int} (k : Nat), Sub L M → (ndx k ps L).Sublist (ndx k ps M)
  | [], _, _, _, _, _ => List.Sublist.refl _
  | s :: r, hok, L, M, k, h => by
    have hr := fun t ht => hok t (List.mem_cons_of_mem s ht)
    have ih := ndx_mono hr (k + 1) h
    have hrg := ok_rng (k := s.k) (a := s.a) (b := s.b) (c := s.c) (u := s.u) (v := s.v) (x := s.x) (hok s List.mem_cons_self).1
    have h6 := (hok s List.mem_cons_self).2
    have hm : s.isN (needL r L) = true → s.isN (needL r M) = true := fun e => by
      unfold St.isN at e ⊢
      rw [Bool.or_eq_true] at e ⊢
      by_cases hk : 4 ≤ s.k
      · exact .inl (decide_eq_true hk)
      · rcases e with e | e
        · exact .inl e
        · exact .inr (needL_mono hr h _ (by omega) e)
    rw [ndx, ndx]
    cases hl : s.isN (needL r L)
    · rw [if_neg (by decide)]
      split
      · exact ih.cons _
      · exact ih
    · rw [if_pos rfl, if_pos (hm hl)]
      exact ih.cons_cons _
theorem ndx_up : ∀ (ps : List St) (k : Nat) (L : Int), (ndx k ps L).Pairwise (· < ·)
  | [], _, _ => List.Pairwise.nil
  | s :: r, k, L => by
    rw [ndx]
    split
    · exact List.Pairwise.cons (fun x hx => by have := (ndx_ge x hx).1; omega) (ndx_up r (k + 1) L)
    · exact ndx_up r (k + 1) L
theorem sub_all {V : Int} (h : 0 ≤ V ∧ V ≤ 15) : Sub V 15 := fun v hv _ => by
  obtain rfl | rfl | rfl | rfl : v = 0 ∨ v = 1 ∨ v = 2 ∨ v = 3 := by omega
  all_goals decide
/-- The next of them, in a list that has them all. -/
theorem sub_skip {n x : Int} {l t : List Int} (h : (n :: l).Sublist (x :: t)) (hx : x < n) : (n :: l).Sublist t := by
  cases h with
  | cons _ h => exact h
  | cons_cons _ h => exact absurd hx (by omega)
theorem sub_here {n x : Int} {l t : List Int} (h : (n :: l).Sublist (x :: t)) (hx : ¬ x < n) (hs : (x :: t).Pairwise (· < ·)) : x = n := by
  cases h with
  | cons _ h =>
    have := List.rel_of_pairwise_cons hs (h.subset List.mem_cons_self)
    omega
  | cons_cons _ h => rfl
theorem ne_facts {ps : List St} {vars : Int} (h : okS ps vars = true) : needsTo ps vars = ndx 0 ps vars ∧ needsTo ps 15 = ndx 0 ps 15 ∧ (ndx 0 ps vars).Sublist (ndx 0 ps 15) ∧ (ndx 0 ps 15).Pairwise (· < ·) ∧ (slTo ps vars).length = (ndx 0 ps vars).length ∧ (needsTo (slTo ps vars) vars).length = (slTo ps vars).length := by
  obtain ⟨hp, hv⟩ := okS_parts h
  have hvb : inB vars 0 15 = true := inB_iff.2 hv
  have e0 : okS ps 15 = true := by unfold okS; rw [hp]; rfl
  have e1 : slTo ps vars = sl ps vars := by unfold slTo; rw [h]; rfl
  have e2 : okS (sl ps vars) vars = true := by unfold okS; rw [sl_plain hp, hvb]; rfl
  have hok := (plain_iff.1 hp).2
  refine ⟨by unfold needsTo; rw [h]; rfl, by unfold needsTo; rw [e0]; rfl, ndx_mono hok 0 (sub_all hv), ndx_up ps 0 15, by rw [e1, ndx_len], ?_⟩
  rw [e1]
  unfold needsTo
  rw [e2, if_pos rfl, ndx_len, sl_sl]

set_option maxHeartbeats 4000000 in
theorem walk {H : Type} (enc : TypeId × Value → H) (W : World) (base : Nat) (v0 : Value) (d0 : DataW H) (p0 : List MemPlace) (hv0 : Value.okWide Try.prog W .any base 22 v0)
    (h0 : DataW.Trod enc Try.prog W 0 (fun _ => true) true 22 v0 d0 p0) (_ : ∀ x ∈ p0, x.block < W.heap.size) :
    Calls Try.prog 5 #[v0] W fun e w' => e = .returned (.bool true) ∧ Below W.heap.size W w' := by
  obtain ⟨A, n, c, rfl, hn, hc, hb⟩ := open_bytes hv0 h0
  clear hv0 h0
  have hcM := Lib.hid hc
  have hnn : n ≤ 9223372036854775807 := by unfold maxLen at hc; omega
  clear hc
  by_cases h1 : 1048576 < n
  · go_enter Try.func5, Try.ntmps5
    go_wp2_with fail
    go_ret
    exact ⟨rfl, Below.refl _ _⟩
  go_enter Try.func5, Try.ntmps5
  go_wp2_with fail
  refine (DrawNeedsOf_any A n c _ hb hn hcM.out).mono ?_
  rintro e w1 ⟨v, ps, vars, rfl, hO, hl, hB1⟩
  obtain ⟨AP, cP, hv, hlcP, hcmP⟩ := hO.form
  subst hv
  have hP1 := Lib.hid hO.lst
  have hB1' := Lib.hid hB1
  clear hB1 hb
  have hB1 := hB1'
  clear hB1'
  have hbg : ps.length ≤ 1048576 := by omega
  have cN := Lib.hid (fun wx hx => NeedsOf_any AP ps.length cP ps vars wx hx hlcP hcmP)
  have cA := Lib.hid (fun wx hx => NeedsOf_any AP ps.length cP ps 15 wx hx hlcP hcmP)
  have cS := Lib.hid (fun wx hx => specNeedsOf_any AP ps.length cP ps vars wx hx hlcP hcmP hbg)
  have cI := Lib.hid (fun wx hx => SliceOf_any AP ps.length cP ps vars wx hx hlcP hcmP)
  have cE := Lib.hid (fun A2 k2 c2 (qs : List St) wx hx h2 h3 => NeedsOf_any A2 k2 c2 qs vars wx hx h2 h3)
  have hNo := Lib.hid (show okS ps vars = false → needsTo ps vars = [] from fun h => by
    unfold needsTo
    rw [h]
    rfl)
  have hYes := Lib.hid (fun h => ne_facts (ps := ps) (vars := vars) h)
  have hLen := Lib.hid (slTo_len ps vars)
  have hNl := Lib.hid (needsTo_len ps vars)
  have hNl2 := Lib.hid (needsTo_len ps 15)
  have hkn := Lib.hid (show okS ps vars = true ∨ okS ps vars = false from by cases okS ps vars <;> simp)
  unfold Sld at cI
  unfold Lbd at cN cA cS cE
  generalize slTo ps vars = qs at cI hYes hLen
  generalize byTo ps vars = f at cI
  generalize needsTo ps vars = ls at cN cS hNo hYes hNl
  generalize needsTo ps 15 = us at cA hYes hNl2
  generalize ndx 0 ps vars = nv at hYes
  generalize ndx 0 ps 15 = nu at hYes
  generalize okS ps 15 = ok2 at cA
  generalize okS ps vars = ok at cN cI cS hNo hYes hkn
  have n1 : (ok != ok) = false := by simp
  have hqm : qs.length ≤ maxLen := by have := hLen.out; unfold maxLen; omega
  have hlm : ls.length ≤ maxLen := by have := hNl.out; unfold maxLen; omega
  clear hO hl
  go_wp2_with fail
  refine (cN.out _ hP1.out).mono ?_
  rintro e w2 ⟨v3, rfl, hO3, hb⟩
  have hP2 := Lib.hid ((hP1.out.below hb).more hb.size)
  clear hP1
  obtain ⟨AL, cL, hv, hlcL, hcmL⟩ := hO3.form
  subst hv
  have hL2 := Lib.hid hO3.lst
  have hB2 := Lib.hid (hB1.out.trans (hb.mono hB1.out.size))
  clear hb hO3 hB1
  go_wp2_with fail
  refine (cS.out _ hP2.out).mono ?_
  rintro e w3 ⟨v4, rfl, hO4, hb⟩
  have hP3 := Lib.hid ((hP2.out.below hb).more hb.size)
  clear hP2
  have hL3 := Lib.hid ((hL2.out.below hb).more hb.size)
  clear hL2
  obtain ⟨AX, cX, hv, hlcX, hcmX⟩ := hO4.form
  subst hv
  have hX3 := Lib.hid hO4.lst
  have hB3 := Lib.hid (hB2.out.trans (hb.mono hB2.out.size))
  clear hb hO4 hB2
  go_wp2_with fail
  refine (wcInts_any AL AX ls.length ls.length cL cX ls ls _ hL3.out hX3.out hlm hlm).mono ?_
  rw [decide_eq_true rfl]
  rintro e w4 ⟨rfl, hq8⟩
  have hb : Below w3.heap.size w3 w4 := by obtain ⟨q, rfl⟩ := hq8; exact below_drewN (Below.refl _ _) q
  have hP4 := Lib.hid ((hP3.out.below hb).more hb.size)
  clear hP3
  have hL4 := Lib.hid ((hL3.out.below hb).more hb.size)
  clear hL3
  have hX4 := Lib.hid ((hX3.out.below hb).more hb.size)
  clear hX3
  have hB4 := Lib.hid (hB3.out.trans (hb.mono hB3.out.size))
  clear hb hq8 hB3
  clear hX4
  cases ok
  · have hE := hNo.out rfl
    subst hE
    go_wp2_with fail
    go_ret
    exact ⟨rfl, hB4.out⟩
  · obtain ⟨hY1, hY2, hY3, hY4, hY5, hY6⟩ := hYes.out rfl
    subst hY1
    subst hY2
    have hSb := Lib.hid hY3
    have hUp := Lib.hid hY4
    have hQl := Lib.hid hY5
    have hGl := Lib.hid hY6
    clear hYes hNo hkn hY3 hY4 hY5 hY6
    go_wp2_with fail
    refine (cI.out _ hP4.out).mono ?_
    rintro e w5 ⟨v5, rfl, hO5, hb⟩
    have hP5 := Lib.hid ((hP4.out.below hb).more hb.size)
    clear hP4
    have hL5 := Lib.hid ((hL4.out.below hb).more hb.size)
    clear hL4
    obtain ⟨AQ, cQ, hv, hlcQ, hcmQ⟩ := hO5.form
    subst hv
    have hQ5 := Lib.hid hO5.lst
    have hB5 := Lib.hid (hB4.out.trans (hb.mono hB4.out.size))
    clear hb hO5 hB4
    obtain ⟨gs, hgs⟩ : ∃ gs, gs = needsTo qs vars := ⟨_, rfl⟩
    obtain ⟨gv, hgv⟩ : ∃ gv, gv = okS qs vars := ⟨_, rfl⟩
    have cG := Lib.hid (fun wx hx => cE.out AQ qs.length cQ qs wx hx hlcQ hcmQ)
    rw [← hgs, ← hgv] at cG
    rw [← hgs] at hGl
    clear hgs hgv cE
    go_wp2_with fail
    refine (cG.out _ hQ5.out).mono ?_
    rintro e w6 ⟨v6, rfl, hO6, hb⟩
    have hP6 := Lib.hid ((hP5.out.below hb).more hb.size)
    clear hP5
    have hL6 := Lib.hid ((hL5.out.below hb).more hb.size)
    clear hL5
    have hQ6 := Lib.hid ((hQ5.out.below hb).more hb.size)
    clear hQ5
    obtain ⟨AG, cG, hv, hlcG, hcmG⟩ := hO6.form
    subst hv
    have hG6 := Lib.hid hO6.lst
    have hB6 := Lib.hid (hB5.out.trans (hb.mono hB5.out.size))
    clear hb hO6 hB5
    go_wp2_with fail
    refine (cA.out _ hP6.out).mono ?_
    rintro e w7 ⟨v7, rfl, hO7, hb⟩
    have hP7 := Lib.hid ((hP6.out.below hb).more hb.size)
    clear hP6
    have hL7 := Lib.hid ((hL6.out.below hb).more hb.size)
    clear hL6
    have hQ7 := Lib.hid ((hQ6.out.below hb).more hb.size)
    clear hQ6
    have hG7 := Lib.hid ((hG6.out.below hb).more hb.size)
    clear hG6
    obtain ⟨AU, cU, hv, hlcU, hcmU⟩ := hO7.form
    subst hv
    have hU7 := Lib.hid hO7.lst
    have hB7 := Lib.hid (hB6.out.trans (hb.mono hB6.out.size))
    clear hb hO7 hB6
    have hLh := Lib.hid hL7.out
    have hUh := Lib.hid hU7.out
    obtain ⟨nl, hnl⟩ : ∃ nl, ls.length = nl := ⟨_, rfl⟩
    obtain ⟨nu, hnu⟩ : ∃ nu, us.length = nu := ⟨_, rfl⟩
    obtain ⟨nq, hnq⟩ : ∃ nq, qs.length = nq := ⟨_, rfl⟩
    obtain ⟨ng, hng⟩ : ∃ ng, gs.length = ng := ⟨_, rfl⟩
    have hll := hNl.out
    have hul := hNl2.out
    have hql := hQl.out
    have hgl := hGl.out
    rw [hng, hnq] at hgl
    rw [hnq, hnl] at hql
    rw [hnl] at hLh hll ⊢
    rw [hnu] at hUh hul ⊢
    rw [hnq, hng]
    have hg2 : ((ng : Int) == (nq : Int)) = true := by simp; omega
    have hg3 : ((nq : Int) == (nl : Int)) = true := by simp; omega
    have hNlh := Lib.hid hnl
    have hNuh := Lib.hid hnu
    clear hlm hqm hQl hGl hNl hNl2 hLen hnl hnu hnq hng
    go_wp2_with fail
    go_loopg [16, 73] nl (fun gn a v wr => ∃ (k j : Nat), k ≤ nl ∧ gn = nl - k ∧ v = .int .i64 k ∧ a = .int .i64 j ∧ j ≤ nu ∧ (ls.drop k).Sublist (us.drop j) ∧ wr = w7)
    case atStart => exact ⟨0, 0, Nat.zero_le _, rfl, rfl, rfl, Nat.zero_le _, hSb.out, rfl⟩
    case round =>
      obtain ⟨k, j, hk, hgn, rfl, rfl, hj, hs, rfl⟩ := hrel
      have hgk : gk = nl - k := hgn
      clear hgn
      by_cases hlt : k < nl
      · obtain ⟨g, off, d, rfl, hg, hd, c0⟩ := hLh.out.at_ hlt
        have hdr : ls.drop k = d :: ls.drop (k + 1) := by
          rw [List.drop_eq_getElem_cons (by rw [hNlh.out]; exact hlt), (List.getElem?_eq_some_iff.1 hd).2]
        rw [hdr] at hs
        have hS := Lib.hid hs
        have hk0 : (0 : Int) ≤ (k : Int) := by omega
        have hk1 : (k : Int) < (nl : Int) := by omega
        clear hs hdr hd
        go_wp2_with fail
        obtain ⟨wo, rfl⟩ : ∃ wo : World, wo = wr := ⟨_, rfl⟩
        obtain ⟨go, rfl⟩ : ∃ go : Nat, go = gk := ⟨_, rfl⟩
        go_loopg [16] (nu - j) (fun gn a wr => ∃ j : Nat, j ≤ nu ∧ gn = nu - j ∧ a = .int .i64 j ∧ (d :: ls.drop (k + 1)).Sublist (us.drop j) ∧ wr = wo)
        case atStart => exact ⟨j, hj, rfl, rfl, hS.out, rfl⟩
        case round =>
          obtain ⟨i, hi, hgn, rfl, hs, rfl⟩ := hrel
          have hgi : gk = nu - i := hgn
          clear hgn
          have hin : i < nu := by
            have h1 := hs.length_le
            simp only [List.length_cons, List.length_drop, hNuh.out] at h1
            omega
          obtain ⟨g2, off2, x, rfl, hg2', hx, c1⟩ := hUh.out.at_ hin
          have hdr : us.drop i = x :: us.drop (i + 1) := by
            rw [List.drop_eq_getElem_cons (by rw [hNuh.out]; exact hin), (List.getElem?_eq_some_iff.1 hx).2]
          rw [hdr] at hs
          have hi0 : (0 : Int) ≤ (i : Int) := by omega
          have hi1 : (i : Int) < (nu : Int) := by omega
          by_cases hxd : x < d
          · have hS2 := Lib.hid (sub_skip hs hxd)
            clear hs hdr hx
            go_wp2_with fail
            go_roundg (nu - (i + 1))
            case measure => omega
            case rel => exact ⟨i + 1, by omega, rfl, by go_num, hS2.out, rfl⟩
          · have hsrt : (x :: us.drop (i + 1)).Pairwise (· < ·) := by rw [← hdr]; exact List.Pairwise.sublist (List.drop_sublist _ _) hUp.out
            obtain rfl : x = d := sub_here hs hxd hsrt
            have hS2 := Lib.hid (show (ls.drop (k + 1)).Sublist (us.drop i) from by rw [hdr]; exact (List.sublist_cons_self _ _).trans hs)
            have hne : ((i : Int) == (nu : Int)) = false := by simp; omega
            have hxx : (x != x) = false := by simp
            clear hs hdr hx hsrt
            go_wp2_with fail
            go_roundg (nl - (k + 1))
            case measure => omega
            case rel => exact ⟨k + 1, i, by omega, rfl, by go_num, rfl, by omega, hS2.out, rfl⟩
      · obtain rfl : k = nl := by omega
        go_wp2_with fail
        go_ret
        exact ⟨rfl, hB7.out⟩

set_option maxRecDepth 100000 in
theorem lifted (os : Os) (started : os.Started) (H : Type) (enc : TypeId × Value → H) :
    ReturnsInHanded {} Try.checked os 5 .any (Rows.fnNeedsSpec.pre6 enc Try.prog Try.f5 Rows.fnNeedsRow.domain false) (Rows.fnNeedsSpec.post enc Try.prog Try.f5 false true false false) := by
  refine returnsInHanded_of_change (C := Try.checked) own started (by kernel_rfl) Try.func5
    (ChangeSpec.witness6 (enc := enc) (C := Try.checked) false ⟨#[], #[.slice none 0 0], []⟩ 8 (by kernel_rfl) (by kernel_rfl) (by kernel_rfl) (by kernel_rfl)) ?_
  intro W base args ds gs before hval0 hW hcnd _
  have hval : ∀ (j : Nat) t v, Try.f5.params[j]? = some t → args[j]? = some v → Value.okWide Try.prog W .any base t v := hval0
  have hW' := hW
  obtain ⟨p, q, hA0, hV, rfl, hfz, hnd⟩ := hW
  have hA : DataW.TrodAll enc Try.prog W 0 (fun _ => true) true Try.f5.params.toList args.toList ds p := hA0
  rw [Try.params5] at hA hval
  obtain ⟨v0, vs0, d0, ds0, p0, q0, hargs, rfl, rfl, h0, r0⟩ := trodAll_cons hA
  obtain ⟨rfl, rfl, rfl⟩ := trodAll_nil r0
  obtain rfl : args = #[v0] := by cases args; simp_all
  obtain ⟨rfl, rfl⟩ := trodVars_none hV
  have lt0 : ∀ x ∈ p0, x.block < W.heap.size := by
    obtain ⟨m, hm⟩ := h0
    exact DataW.trod_lt m _ _ _ hm
  clear hA0 hval0
  refine (walk enc W base v0 d0 p0 (hval 0 22 v0 rfl rfl) h0 lt0).mono fun e W' ⟨he, bel⟩ => ?_
  subst he
  exact ⟨_, rfl, _, _, _, [], _, [], hW', trodAll_mk1 (shut_bool Try.underlying4 _), (trodAll_cons_mk (Below.trod laidOut (by kernel_rfl) (of_decide_eq_true (by kernel_rfl)) h0 bel lt0) trodAll_mk0), rfl, bel.frame _, fun h => by cases h⟩

theorem proved : Rows.FnNeedsSaid :=
  OpenClaim.holds_of_wide 5 Try.f5 rfl rfl rfl rfl rfl rfl rfl ⟨rfl, rfl, rfl, rfl, rfl⟩ rfl rfl rfl rfl rfl (by kernel_rfl) Try.func5 (by kernel_rfl)
    (of_decide_eq_true (by kernel_rfl)) (by unfold Func.isWrapper; first | (rw [if_pos (by decide +kernel)]; kernel_rfl) | (rw [if_neg (by decide +kernel)]; exact ⟨rfl, rfl⟩))
    (fun os started H enc _ => lifted os started H enc)
end Go.Proofs.Ytkibkmheomlafaa.fnNeeds
