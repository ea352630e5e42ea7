/- For every text of at most 2^20 bytes the program's ReadTrace returns what the model's returns and hands back memory of its own; longer texts are passed over by the law itself. No condition. -/
import Derived.Test.YtpogohgepcakcaaRows
import Derived.Test.YtpogohgepcakcaaRdt
import Derived.ProofKit
import Derived.OpenShut
import Derived.ShutString
import Derived.ChangeOld
import Derived.Below
namespace Go.Proofs.Ytpogohgepcakcaa.fnExactReadTrace
open Go.ChangeShapes Go.WideShapes Go.ChangeAt Go.RowKit 
set_option linter.unusedVariables false
set_option maxRecDepth 100000

theorem own : ownKnob Try.prog.godebug = none := by kernel_rfl
theorem laidOut : laidOutB Try.prog = true := by kernel_rfl

theorem iown_wr {w : World} {base : Nat} {A : Option Addr} {n c : Nat} {os : List Int} (h : IOwn w base (.slice A n c) os) : IWr w A n := by
  intro hn
  rcases h.2 with ⟨hv, h0⟩ | ⟨g, cap, cur, hv, hg, hh, h1, h2, h3, h4⟩
  · injection hv with _ e2 _
    omega
  · injection hv with e1 e2 _
    exact ⟨g, cur, e1, hh, by omega⟩
theorem iown_kept {w w' : World} {base : Nat} {v : Value} {os : List Int} {A : Option Addr} (h : IOwn w base v os) (ho : Only w w' A) (hA : ∀ k, v.ownBlock = some k → A.map (·.block) ≠ some k) : IOwn w' base v os := by
  refine World.ownsRow.kept h ho ?_
  cases hv : v.ownBlock with
  | none => exact .inl rfl
  | some k => exact .inr fun e => hA k hv e.symm
theorem own_of {A : Option Addr} {n c k : Nat} (h : A.map (·.block) = some k) : (Value.slice A n c).ownBlock = some k := by
  cases A with
  | none => cases h
  | some a => exact h
theorem rdt_len (s : ByteArray) : ((rdt s).getD []).length ≤ 12 := by
  unfold rdt
  split
  · simp
  · split
    · rename_i h
      simp only [Bool.and_eq_true] at h
      have := inB_iff.1 h.1
      simp [figs_length]
      omega
    · simp

set_option maxHeartbeats 1000000 in
theorem walk {H : Type} (enc : TypeId × Value → H) (W : World) (base : Nat) (v1 : Value) (d1 : DataW H) (p1 : List MemPlace) (hv1 : Value.okWide Try.prog W .any base 9 v1)
    (h1 : DataW.Trod enc Try.prog W 0 (fun _ => true) true 9 v1 d1 p1) (_ : ∀ x ∈ p1, x.block < W.heap.size) :
    Calls Try.prog 11 #[v1] W fun e w' => e = .returned (.bool true) ∧ Below W.heap.size W w' := by
  obtain ⟨s, rfl⟩ := okWide_string Try.underlying9 hv1
  clear hv1 h1
  by_cases hb2 : 1048576 < s.size
  · go_enter Try.func11, Try.ntmps11
    go_wp2_with fail
    go_ret
    exact ⟨rfl, Below.refl _ _⟩
  · have cS := Lib.hid (fun wx => specReadTrace_any s wx (by omega))
    have cI := Lib.hid (fun wx => ReadTrace_any s wx (by omega))
    have hlen := rdt_len s
    unfold Rdd at cS cI
    generalize (rdt s).getD [] = os at hlen cS cI
    generalize (rdt s).isSome = bb at cS cI
    have hOm := Lib.hid (show os.length ≤ maxLen by unfold maxLen; omega)
    go_enter Try.func11, Try.ntmps11
    go_wp2_with fail
    refine (cS.out _).mono ?_
    rintro e w2 ⟨vS, rfl, hoS, hB2⟩
    obtain ⟨AS, kS, rfl, _, _⟩ := IOwn.form hoS
    have oS2 := Lib.hid hoS
    have hub := Lib.hid (fun k hk => (World.ownsRow.lt hoS k hk).2)
    have hz2 := hB2.size
    clear hoS
    go_wp2_with fail
    refine (cI.out _).mono ?_
    rintro e w4 ⟨vI, rfl, hoI, hb4⟩
    have hB4 := hB2.trans (hb4.mono hz2)
    have hz4 := hb4.size
    obtain ⟨AI, kI, rfl, _, _⟩ := IOwn.form hoI
    have oI4 := Lib.hid hoI
    have oS4 := Lib.hid (oS2.out.below hb4)
    clear hb4 hoI oS2
    go_wp2_with fail
    refine (eqIntS_any AI AS os.length os.length kI kS os os _ oI4.out.lst oS4.out.lst hOm.out hOm.out).mono ?_
    rw [decide_eq_true (rfl : os = os)]
    rintro e w5 ⟨rfl, q, rfl⟩
    have hz5 := hB4.size
    go_wp2_with fail
    refine (markIntS_any AI os.length kI 1 _ (iown_wr (show IOwn (w4.drewN q) _ _ _ from oI4.out)) (by omega) (by omega) (by omega)).mono ?_
    rintro e w10 ⟨rfl, ho10, lm⟩
    have hB10 : Below W.heap.size W w10 := (below_drewN hB4 q).grown ho10 hz5 (fun k hk => by have := (World.ownsRow.lt oI4.out k (own_of hk)).1; omega)
    have oS10 := Lib.hid (iown_kept (show IOwn (w4.drewN q) _ _ _ from oS4.out) ho10 (fun k hk hk' => by
      have h1 := hub.out k hk
      have h2 := (World.ownsRow.lt oI4.out k (own_of hk')).1
      omega))
    have lm10 := Lib.hid lm
    clear ho10 oI4 oS4 lm
    go_wp2_with fail
    refine (heldIntS_any AI os.length kI 1 _ lm10.out (by omega) (by omega) (by omega)).mono ?_
    rintro e w11 ⟨rfl, rfl⟩
    go_wp2_with fail
    refine (cI.out _).mono ?_
    rintro e w13 ⟨vJ, rfl, hoJ, hb13⟩
    have hB13 := hB10.trans (hb13.mono hB10.size)
    obtain ⟨AJ, kJ, rfl, _, _⟩ := IOwn.form hoJ
    have oJ13 := Lib.hid hoJ
    have oS13 := Lib.hid (oS10.out.below hb13)
    have lm13 := Lib.hid ((lm10.out.below hb13).more hb13.size)
    clear hb13 hoJ oS10 lm10
    go_wp2_with fail
    refine (eqIntS_any AJ AS os.length os.length kJ kS os os _ oJ13.out.lst oS13.out.lst hOm.out hOm.out).mono ?_
    rw [decide_eq_true (rfl : os = os)]
    rintro e w14 ⟨rfl, q2, rfl⟩
    go_wp2_with fail
    refine (heldIntS_any AI os.length kI 1 _ (show Ils (w13.drewN q2) _ _ _ _ from lm13.out) (by omega) (by omega) (by omega)).mono ?_
    rintro e w15 ⟨rfl, rfl⟩
    go_wp2_with fail
    go_ret
    exact ⟨rfl, below_drewN hB13 _⟩

set_option maxRecDepth 100000 in
theorem lifted (os : Os) (started : os.Started) (H : Type) (enc : TypeId × Value → H) :
    ReturnsInHanded {} Try.checked os 11 .any (Rows.fnExactReadTraceSpec.pre6 enc Try.prog Try.f11 Rows.fnExactReadTraceRow.domain false) (Rows.fnExactReadTraceSpec.post enc Try.prog Try.f11 false true false false) := by
  refine returnsInHanded_of_change (C := Try.checked) own started (by kernel_rfl) Try.func11
    (ChangeSpec.witness6 (enc := enc) (C := Try.checked) false ⟨#[], #[.string ByteArray.empty], []⟩ 8 (by kernel_rfl) (by kernel_rfl) (by kernel_rfl) (by kernel_rfl)) ?_
  intro W base args ds gs before hval0 hW hcnd _
  have hval : ∀ (j : Nat) t v, Try.f11.params[j]? = some t → args[j]? = some v → Value.okWide Try.prog W .any base t v := hval0
  have hW' := hW
  obtain ⟨p, q, hA0, hV, rfl, hfz, hnd⟩ := hW
  have hA : DataW.TrodAll enc Try.prog W 0 (fun _ => true) true Try.f11.params.toList args.toList ds p := hA0
  rw [Try.params11] at hA hval
  obtain ⟨v0, vs0, d0, ds0, p0, q0, hargs, rfl, rfl, h0, r0⟩ := trodAll_cons hA
  obtain ⟨rfl, rfl, rfl⟩ := trodAll_nil r0
  obtain rfl : args = #[v0] := by cases args; simp_all
  obtain ⟨rfl, rfl⟩ := trodVars_none hV
  have lt0 : ∀ x ∈ p0, x.block < W.heap.size := by
    obtain ⟨m, hm⟩ := h0
    exact DataW.trod_lt m _ _ _ hm
  clear hA0 hval0
  refine (walk enc W base v0 d0 p0 (hval 0 9 v0 rfl rfl) h0 lt0).mono fun e W' ⟨he, bel⟩ => ?_
  subst he
  exact ⟨_, rfl, _, _, _, [], _, [], hW', trodAll_mk1 (shut_bool Try.underlying4 _), (trodAll_cons_mk (Below.trod laidOut (by kernel_rfl) (of_decide_eq_true (by kernel_rfl)) h0 bel lt0) trodAll_mk0), rfl, bel.frame _, fun h => by cases h⟩

theorem proved : Rows.FnExactReadTraceSaid :=
  OpenClaim.holds_of_wide 11 Try.f11 rfl rfl rfl rfl rfl rfl rfl ⟨rfl, rfl, rfl, rfl, rfl⟩ rfl rfl rfl rfl rfl (by kernel_rfl) Try.func11 (by kernel_rfl)
    (of_decide_eq_true (by kernel_rfl)) (by unfold Func.isWrapper; first | (rw [if_pos (by decide +kernel)]; kernel_rfl) | (rw [if_neg (by decide +kernel)]; exact ⟨rfl, rfl⟩))
    (fun os started H enc _ => lifted os started H enc)
end Go.Proofs.Ytpogohgepcakcaa.fnExactReadTrace
