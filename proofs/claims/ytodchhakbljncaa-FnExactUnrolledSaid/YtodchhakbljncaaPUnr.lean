/- For every list of statements of at most 2^20 the program's Unrolled returns what the model's returns, leaves its argument as it is, and hands back memory of its own; longer lists are passed over by the law itself. No condition. -/
import Derived.Test.YtodchhakbljncaaRows
import Derived.Test.YtodchhakbljncaaMark
import Derived.ProofKit
import Derived.OpenShut
import Derived.ShutString
import Derived.ChangeOld
import Derived.Below
namespace Go.Proofs.Ytodchhakbljncaa.fnExactUnrolled
open Go.ChangeShapes Go.WideShapes Go.ChangeAt Go.RowKit 
set_option linter.unusedVariables false

theorem own : ownKnob Try.prog.godebug = none := by kernel_rfl
theorem laidOut : laidOutB Try.prog = true := by kernel_rfl

theorem getD_len (ps : List St) : ((unrolled ps).getD []).length ≤ 12 := by
  cases h : unrolled ps with
  | none => simp
  | some os => exact (unrolled_ok h).2.1

theorem own_wr {w : World} {base : Nat} {A : Option Addr} {n c : Nat} {os : List St} (h : Own w base (.slice A n c) os) : Wr w A n := by
  intro hn
  rcases h.2 with ⟨hv, h0⟩ | ⟨g, cap, cur, hv, hg, hh, h1, h2, h3, h4⟩
  · injection hv with _ e2 _
    omega
  · injection hv with e1 e2 _
    exact ⟨g, cur, e1, hh, by rw [h3]; omega⟩

theorem own_kept {w w' : World} {base : Nat} {v : Value} {os : List St} {A : Option Addr} (h : Own w base v os) (ho : Only w w' A) (hA : ∀ k, v.ownBlock = some k → A.map (·.block) ≠ some k) : Own w' base v os := by
  refine World.ownsRow.kept h ho ?_
  cases hv : v.ownBlock with
  | none => exact .inl rfl
  | some k => exact .inr fun e => hA k hv e.symm

theorem own_of {A : Option Addr} {n c k : Nat} (h : A.map (·.block) = some k) : (Value.slice A n c).ownBlock = some k := by
  cases A with
  | none => cases h
  | some a => exact h

theorem lst_only {w w' : World} {B : Nat} {A A2 : Option Addr} {n : Nat} {ps : List St} (h : Lst w B A n ps) (hB : B ≤ w.heap.size) (ho : Only w w' A2) (hA : ∀ k, A2.map (·.block) = some k → B ≤ k) : Lst w' B A n ps :=
  h.keep fun p hp => World.cell?_of_block (ho.block p.block (by omega) (fun e => by have := hA _ e.symm; omega))

set_option maxRecDepth 100000 in
set_option maxHeartbeats 1000000 in
theorem walk {H : Type} (enc : TypeId × Value → H) (W : World) (base : Nat) (v : Value) (d : DataW H) (p : List MemPlace) (hv : Value.okWide Try.prog W .any base 46 v)
    (h : DataW.Trod enc Try.prog W 0 (fun _ => true) true 46 v d p) (_ : ∀ x ∈ p, x.block < W.heap.size) :
    Calls Try.prog 6 #[v] W fun e w' => e = .returned (.bool true) ∧ Below W.heap.size W w' := by
  obtain ⟨A, n, c, ps, rfl, hn, hc, hlst⟩ := open_stmts hv h
  clear hv h
  have hH := Lib.hid hlst
  have hL := Lib.hid hlst.1
  have hnm := Lib.hid (Nat.le_trans hn hc)
  clear hlst hn hc
  by_cases hbig : n ≤ 1048576
  · have hS := Lib.hid (show leftOf n = 1048576 - (n : Int) from if_pos hbig)
    have hlen := getD_len ps
    have cS := Lib.hid (fun A c wx (hx : Lst wx wx.heap.size A n ps) h1 h2 => specUnrolled_any A n c ps wx hx h1 h2 hbig)
    have cI := Lib.hid (fun A c wx (hx : Lst wx wx.heap.size A n ps) h1 h2 => Unrolled_any A n c ps wx hx h1 h2)
    unfold Unrd at cS cI
    generalize (unrolled ps).getD [] = os at hlen cS cI
    generalize (unrolled ps).isSome = bb at cS cI
    have hom : os.length ≤ maxLen := by unfold maxLen; omega
    have hOm := Lib.hid hom
    clear hom
    go_enter Try.func6, Try.ntmps6
    go_wp2_with fail
    refine (szStmtS_any A n c _ hnm.out).mono ?_
    rw [hS.out]
    rintro e w' ⟨rfl, rfl⟩
    go_wp2_with fail
    refine (toStmtS_any A n c ps _ hH.out hbig).mono ?_
    rintro e w1 ⟨g1, cs1, rfl, _, hh1, hf1, hB1⟩
    have l1 := Lib.hid (hh1.lst hf1 hL.out)
    clear hh1 hf1
    go_wp2_with fail
    refine (cS.out _ n _ l1.out (Nat.le_refl _) hnm.out).mono ?_
    rintro e w2 ⟨vS, rfl, hoS, hb2⟩
    have hB2 := hB1.trans (hb2.mono hB1.size)
    have hz2 := hb2.size
    have hs2 := hB2.size
    obtain ⟨AS, kS, rfl, _, _⟩ := Own.form hoS
    have oS2 := Lib.hid hoS
    have hub := Lib.hid (fun k hk => (World.ownsRow.lt hoS k hk).2)
    clear hb2 l1 hoS
    go_wp2_with fail
    refine (toStmtS_any A n c ps _ ((hH.out.below hB2).more hB2.size) hbig).mono ?_
    rintro e w3 ⟨g3, cs3, rfl, hg3, hh3, hf3, hb3⟩
    have hB3 := hB2.trans (hb3.mono hB2.size)
    have hz3 := hb3.size
    have hs3 := hB3.size
    have l3 := Lib.hid (hh3.lst hf3 hL.out)
    have oS3 := Lib.hid (oS2.out.below hb3)
    have hg3' := hh3.lt
    have hH3 := Lib.hid hh3
    have hF3 := Lib.hid hf3
    clear hh3 hf3 hb3 oS2
    go_wp2_with fail
    refine (cI.out _ n _ l3.out (Nat.le_refl _) hnm.out).mono ?_
    rintro e w4 ⟨vI, rfl, hoI, hb4⟩
    have hB4 := hB3.trans (hb4.mono hB3.size)
    have hz4 := hb4.size
    obtain ⟨AI, kI, rfl, _, _⟩ := Own.form hoI
    have oI4 := Lib.hid hoI
    have oS4 := Lib.hid (oS3.out.below hb4)
    have hH4 := Lib.hid (hH3.out.kept hb4)
    clear hb4 l3 hoI oS3 hH3
    go_wp2_with fail
    refine (eqStmtS_same AI AS os.length kI kS os _ oI4.out.lst oS4.out.lst hOm.out).mono ?_
    rintro e w5 ⟨rfl, hb5⟩
    have hB5 := hB4.trans (hb5.mono hB4.size)
    have hz5 := hb5.size
    have oI5 := Lib.hid (oI4.out.below hb5)
    have oS5 := Lib.hid (oS4.out.below hb5)
    have hH5 := Lib.hid (hH4.out.kept hb5)
    clear hb5 oI4 oS4 hH4
    go_wp2_with fail
    refine (toStmtS_any A n c ps _ ((hH.out.below hB5).more hB5.size) hbig).mono ?_
    rintro e w6 ⟨g6, cs6, rfl, _, hh6, hf6, hb6⟩
    have hB6 := hB5.trans (hb6.mono hB5.size)
    have hz6 := hb6.size
    have l6 := Lib.hid (hh6.lst hf6 hL.out)
    have oI6 := Lib.hid (oI5.out.below hb6)
    have oS6 := Lib.hid (oS5.out.below hb6)
    have hH6 := Lib.hid (hH5.out.kept hb6)
    clear hh6 hf6 hb6 oI5 oS5 hH5
    go_wp2_with fail
    refine (eqStmtS_same _ _ n n n ps _ (hH6.out.lst hF3.out hL.out) l6.out hnm.out).mono ?_
    rintro e w7 ⟨rfl, hb7⟩
    have hB7 := hB6.trans (hb7.mono hB6.size)
    have hz7 := hb7.size
    have oI7 := Lib.hid (oI6.out.below hb7)
    have oS7 := Lib.hid (oS6.out.below hb7)
    have hH7 := Lib.hid (hH6.out.kept hb7)
    clear hb7 oI6 oS6 hH6 l6
    go_wp2_with fail
    refine (markStmtS_any (some ⟨g3, 0, none⟩) n n 1 _ (fun _ => ⟨g3, cs3, rfl, hH7.out, by have := congrArg List.length hF3.out; rw [flat_length, hL.out, Array.length_toList] at this; omega⟩) (by omega) (by omega) (by omega)).mono ?_
    rintro e w8 ⟨rfl, ho8, _⟩
    have hg3n : ∀ k, (some (⟨g3, 0, none⟩ : Addr)).map (·.block) = some k → k = g3 := fun k hk => by injection hk with hk; exact hk.symm
    have hB8 : Below W.heap.size W w8 := hB7.grown ho8 hB7.size (fun k hk => by rw [hg3n k hk]; omega)
    have hz8 : w7.heap.size ≤ w8.heap.size := ho8.size
    have oI8 := Lib.hid (own_kept oI7.out ho8 (fun k hk hk' => by
      have h1 := (World.ownsRow.lt oI7.out k hk).1
      have h2 := hg3n k hk'
      omega))
    have oS8 := Lib.hid (own_kept oS7.out ho8 (fun k hk hk' => by
      have h1 := hub.out k hk
      have h2 := hg3n k hk'
      omega))
    clear ho8 hg3n oI7 oS7 hH7
    go_wp2_with fail
    refine (eqStmtS_same AI AS os.length kI kS os _ oI8.out.lst oS8.out.lst hOm.out).mono ?_
    rintro e w9 ⟨rfl, hb9⟩
    have hB9 := hB8.trans (hb9.mono hB8.size)
    have hz9 := hb9.size
    have oI9 := Lib.hid (oI8.out.below hb9)
    have oS9 := Lib.hid (oS8.out.below hb9)
    clear hb9 oI8 oS8
    go_wp2_with fail
    refine (markStmtS_any AI os.length kI 1 _ (own_wr oI9.out) (by omega) (by omega) (by omega)).mono ?_
    rintro e w10 ⟨rfl, ho10, lm⟩
    have hB10 : Below W.heap.size W w10 := hB9.grown ho10 hB9.size (fun k hk => by have := (World.ownsRow.lt oI9.out k (own_of hk)).1; omega)
    have hz10 : w9.heap.size ≤ w10.heap.size := ho10.size
    have oS10 := Lib.hid (own_kept oS9.out ho10 (fun k hk hk' => by
      have h1 := hub.out k hk
      have h2 := (World.ownsRow.lt oI9.out k (own_of hk')).1
      omega))
    have lm10 := Lib.hid lm
    clear ho10 oI9 oS9 lm
    go_wp2_with fail
    refine (heldStmtS_any AI os.length kI 1 _ lm10.out (by omega) (by omega) (by omega)).mono ?_
    rintro e w11 ⟨rfl, rfl⟩
    go_wp2_with fail
    refine (toStmtS_any A n c ps _ ((hH.out.below hB10).more hB10.size) hbig).mono ?_
    rintro e w12 ⟨g12, cs12, rfl, _, hh12, hf12, hb12⟩
    have hB12 := hB10.trans (hb12.mono hB10.size)
    have l12 := Lib.hid (hh12.lst hf12 hL.out)
    have oS12 := Lib.hid (oS10.out.below hb12)
    have lm12 := Lib.hid ((lm10.out.below hb12).more hb12.size)
    clear hh12 hf12 hb12 oS10 lm10
    go_wp2_with fail
    refine (cI.out _ n _ l12.out (Nat.le_refl _) hnm.out).mono ?_
    rintro e w13 ⟨vJ, rfl, hoJ, hb13⟩
    have hB13 := hB12.trans (hb13.mono hB12.size)
    obtain ⟨AJ, kJ, rfl, _, _⟩ := Own.form hoJ
    have oJ13 := Lib.hid hoJ
    have oS13 := Lib.hid (oS12.out.below hb13)
    have lm13 := Lib.hid ((lm12.out.below hb13).more hb13.size)
    clear hb13 l12 hoJ oS12 lm12
    go_wp2_with fail
    refine (eqStmtS_same AJ AS os.length kJ kS os _ oJ13.out.lst oS13.out.lst hOm.out).mono ?_
    rintro e w14 ⟨rfl, hb14⟩
    have hB14 := hB13.trans (hb14.mono hB13.size)
    have lm14 := Lib.hid ((lm13.out.below hb14).more hb14.size)
    clear hb14 oJ13 oS13 lm13
    go_wp2_with fail
    refine (heldStmtS_any AI os.length kI 1 _ lm14.out (by omega) (by omega) (by omega)).mono ?_
    rintro e w15 ⟨rfl, rfl⟩
    go_wp2_with fail
    go_ret
    exact ⟨rfl, hB14⟩
  · have hS := Lib.hid (show leftOf n = -1 from if_neg hbig)
    go_enter Try.func6, Try.ntmps6
    go_wp2_with fail
    refine (szStmtS_any A n c _ hnm.out).mono ?_
    rw [hS.out]
    rintro e w' ⟨rfl, rfl⟩
    go_wp2_with fail
    go_ret
    exact ⟨rfl, Below.refl _ _⟩

set_option maxRecDepth 100000 in
theorem lifted (os : Os) (started : os.Started) (H : Type) (enc : TypeId × Value → H) :
    ReturnsInHanded {} Try.checked os 6 .any (Rows.fnExactUnrolledSpec.pre6 enc Try.prog Try.f6 Rows.fnExactUnrolledRow.domain false) (Rows.fnExactUnrolledSpec.post enc Try.prog Try.f6 false true false false) := by
  refine returnsInHanded_of_change (C := Try.checked) own started (by kernel_rfl) Try.func6
    (ChangeSpec.witness6 (enc := enc) (C := Try.checked) false ⟨#[], #[.slice none 0 0], []⟩ 8 (by kernel_rfl) (by kernel_rfl) (by kernel_rfl) (by kernel_rfl)) ?_
  intro W base args ds gs before hval0 hW hcnd _
  have hval : ∀ (j : Nat) t v, Try.f6.params[j]? = some t → args[j]? = some v → Value.okWide Try.prog W .any base t v := hval0
  have hW' := hW
  obtain ⟨p, q, hA0, hV, rfl, hfz, hnd⟩ := hW
  have hA : DataW.TrodAll enc Try.prog W 0 (fun _ => true) true Try.f6.params.toList args.toList ds p := hA0
  rw [Try.params6] at hA hval
  obtain ⟨v0, vs0, d0, ds0, p0, q0, hargs, rfl, rfl, h0, r0⟩ := trodAll_cons hA
  obtain ⟨rfl, rfl, rfl⟩ := trodAll_nil r0
  obtain rfl : args = #[v0] := by cases args; simp_all
  obtain ⟨rfl, rfl⟩ := trodVars_none hV
  have lt0 : ∀ x ∈ p0, x.block < W.heap.size := by
    obtain ⟨m, hm⟩ := h0
    exact DataW.trod_lt m _ _ _ hm
  clear hA0 hval0
  refine (walk enc W base v0 d0 p0 (hval 0 46 v0 rfl rfl) h0 lt0).mono fun e W' ⟨he, bel⟩ => ?_
  subst he
  exact ⟨_, rfl, _, _, _, [], _, [], hW', trodAll_mk1 (shut_bool Try.underlying4 _), (trodAll_cons_mk (Below.trod laidOut (by kernel_rfl) (of_decide_eq_true (by kernel_rfl)) h0 bel lt0) trodAll_mk0), rfl, bel.frame _, fun h => by cases h⟩

theorem proved : Rows.FnExactUnrolledSaid :=
  OpenClaim.holds_of_wide 6 Try.f6 rfl rfl rfl rfl rfl rfl rfl ⟨rfl, rfl, rfl, rfl, rfl⟩ rfl rfl rfl rfl rfl (by kernel_rfl) Try.func6 (by kernel_rfl)
    (of_decide_eq_true (by kernel_rfl)) (by unfold Func.isWrapper; first | (rw [if_pos (by decide +kernel)]; kernel_rfl) | (rw [if_neg (by decide +kernel)]; exact ⟨rfl, rfl⟩))
    (fun os started H enc _ => lifted os started H enc)
end Go.Proofs.Ytodchhakbljncaa.fnExactUnrolled
