/- For every two lists of bytes: of a drawn row of draws the program writes the text that the model writes, and reads it back where there is one; of a drawn text it reads what the model reads, and writes it again. No condition. -/
import Derived.Test.YtpogohgepcakcaaRows
import Derived.Test.YtpogohgepcakcaaDrT
import Derived.ProofKit
import Derived.OpenShut
import Derived.ShutString
import Derived.ChangeOld
import Derived.Below
namespace Go.Proofs.Ytpogohgepcakcaa.fnTraceText
open Go.ChangeShapes Go.WideShapes Go.ChangeAt Go.RowKit 
set_option linter.unusedVariables false
set_option maxRecDepth 100000

theorem own : ownKnob Try.prog.godebug = none := by kernel_rfl
theorem laidOut : laidOutB Try.prog = true := by kernel_rfl

theorem empty_facts (ds : List Int) : ((txt ds).toList == []) = !okRow ds ∧ (txt ds).toList.isEmpty = !okRow ds := by
  cases h : okRow ds
  · rw [txt_no h]
    constructor
    · rw [ByteArray.toList_eq]; rfl
    · rw [ByteArray.toList_eq]; rfl
  · have h1 := txt_some h
    refine ⟨h1, ?_⟩
    cases h2 : (txt ds).toList with
    | nil => rw [h2] at h1; cases h1
    | cons _ _ => rfl

set_option maxHeartbeats 2000000 in
theorem walk {H : Type} (enc : TypeId × Value → H) (W : World) (base : Nat) (v0 : Value) (d0 : DataW H) (p0 : List MemPlace) (hv0 : Value.okWide Try.prog W .any base 22 v0)
    (h0 : DataW.Trod enc Try.prog W 0 (fun _ => true) true 22 v0 d0 p0) (_ : ∀ x ∈ p0, x.block < W.heap.size)
    (v1 : Value) (d1 : DataW H) (p1 : List MemPlace) (hv1 : Value.okWide Try.prog W .any base 22 v1)
    (h1 : DataW.Trod enc Try.prog W 0 (fun _ => true) true 22 v1 d1 p1) (_ : ∀ x ∈ p1, x.block < W.heap.size) :
    Calls Try.prog 6 #[v0, v1] W fun e w' => e = .returned (.bool true) ∧ Below W.heap.size W w' := by
  obtain ⟨A, n, c, rfl, hn, hc, hb⟩ := open_bytes hv0 h0
  obtain ⟨A2, n2, c2, rfl, hn2, hc2, hb2⟩ := open_bytes hv1 h1
  clear hv0 h0 hv1 h1
  have hcM := Lib.hid hc
  have hcM2 := Lib.hid hc2
  have hnn : n ≤ 9223372036854775807 := by unfold maxLen at hc; omega
  have hnn2 : n2 ≤ 9223372036854775807 := by unfold maxLen at hc2; omega
  clear hc hc2
  by_cases h1 : 1048576 < n
  · go_enter Try.func6, Try.ntmps6
    go_wp2_with fail
    go_ret
    exact ⟨rfl, Below.refl _ _⟩
  by_cases h2 : 1048576 < n2
  · go_enter Try.func6, Try.ntmps6
    go_wp2_with fail
    go_ret
    exact ⟨rfl, Below.refl _ _⟩
  go_enter Try.func6, Try.ntmps6
  go_wp2_with fail
  refine (DrawTraceText_any A n c _ hb hn hcM.out).mono ?_
  rintro e w1 ⟨u, ds, rfl, hI1, hd12, hB1⟩
  obtain ⟨A1, c1, hu, _, _⟩ := hI1.form
  subst hu
  have i1 := Lib.hid hI1.lst
  clear hI1 hb
  go_wp2_with fail
  refine (DrawReadTrace_any A2 n2 c2 _ ((hb2.keep hB1).more hB1.size) hn2 hcM2.out).mono ?_
  rintro e w2 ⟨s, rfl, hs, hb2'⟩
  have hB2 := hB1.trans (hb2'.mono hB1.size)
  have i2 := Lib.hid ((i1.out.below hb2').more hb2'.size)
  clear hB1 hb2' hb2 i1
  have cT := Lib.hid (fun (A : Option Addr) wx (hx : Ils wx wx.heap.size A ds.length ds) => TraceText_any A ds.length c1 ds wx hx (by unfold maxLen; omega))
  have cS := Lib.hid (fun (A : Option Addr) wx (hx : Ils wx wx.heap.size A ds.length ds) => specTraceText_any A ds.length c1 ds wx hx (by unfold maxLen; omega))
  have cR := Lib.hid (fun wx => ReadTrace_any s wx (by omega))
  have cQ := Lib.hid (fun wx => specReadTrace_any s wx (by omega))
  have hte := Lib.hid (fun es (h : rdt s = some es) => txt_rdt h)
  have hrl := Lib.hid (fun es (h : rdt s = some es) => (show es.length ≤ 12 from by
    unfold rdt at h
    split at h
    · injection h with h; subst h; simp
    · split at h
      · rename_i h2
        injection h with h
        subst h
        rw [Bool.and_eq_true] at h2
        have := inB_iff.1 h2.1
        rw [figs_length]; omega
      · cases h))
  have hsz := txt_size ds
  have cB := Lib.hid (fun wx => ReadTrace_any (txt ds) wx (by omega))
  obtain ⟨he1, he2⟩ := empty_facts ds
  have hyes := Lib.hid (fun h => rdt_txt_yes (ds := ds) h)
  have hno := Lib.hid (fun h => rdt_txt_no (ds := ds) h)
  have hdm := Lib.hid (show ds.length ≤ maxLen by unfold maxLen; omega)
  generalize hok : okRow ds = ok at he1 he2
  have hOk := Lib.hid hok
  clear hok
  generalize txt ds = T at cT cS cB he1 he2 hsz hyes hno
  go_wp2_with fail
  refine (cT.out _ _ i2.out).mono ?_
  rintro e w3 ⟨rfl, hb3⟩
  have hB3 := hB2.trans (hb3.mono hB2.size)
  have i3 := Lib.hid ((i2.out.below hb3).more hb3.size)
  clear hB2 hb3 i2
  go_wp2_with fail
  refine (cB.out _).mono ?_
  rintro e w4 ⟨v4, rfl, hI4, hb4⟩
  obtain ⟨A4, c4, hv4, _, _⟩ := hI4.form
  subst hv4
  have hB4 := hB3.trans (hb4.mono hB3.size)
  have i4 := Lib.hid ((i3.out.below hb4).more hb4.size)
  have l4 := Lib.hid hI4.lst
  clear hB3 hb4 i3 hI4
  go_wp2_with fail
  refine (cR.out _).mono ?_
  rintro e w5 ⟨v5, rfl, hI5, hb5⟩
  obtain ⟨A5, c5, hv5, _, _⟩ := hI5.form
  subst hv5
  have hB5 := hB4.trans (hb5.mono hB4.size)
  have i5 := Lib.hid ((i4.out.below hb5).more hb5.size)
  have l45 := Lib.hid ((l4.out.below hb5).more hb5.size)
  have l5 := Lib.hid hI5.lst
  clear hB4 hb5 i4 hI5 l4
  go_wp2_with fail
  refine (cQ.out _).mono ?_
  rintro e w6 ⟨v6, rfl, hI6, hb6⟩
  obtain ⟨A6, c6, hv6, _, _⟩ := hI6.form
  subst hv6
  have hB6 := hB5.trans (hb6.mono hB5.size)
  have i6 := Lib.hid ((i5.out.below hb6).more hb6.size)
  have l46 := Lib.hid ((l45.out.below hb6).more hb6.size)
  have l56 := Lib.hid ((l5.out.below hb6).more hb6.size)
  have l6 := Lib.hid hI6.lst
  clear hB5 hb6 i5 hI6 l45 l5
  go_wp2_with fail
  refine (cS.out _ _ i6.out).mono ?_
  rintro e w7 ⟨rfl, hb7⟩
  have hB7 := hB6.trans (hb7.mono hB6.size)
  have i7 := Lib.hid ((i6.out.below hb7).more hb7.size)
  have l47 := Lib.hid ((l46.out.below hb7).more hb7.size)
  have l57 := Lib.hid ((l56.out.below hb7).more hb7.size)
  have l67 := Lib.hid ((l6.out.below hb7).more hb7.size)
  clear hB6 hb7 i6 l46 l56 l6
  cases hr : rdt s with
  | none =>
    rw [hr] at l57 l67
    go_wp2_with fail
    refine (wcInts_any A5 A6 0 0 c5 c6 [] [] _ l57.out l67.out (by simp [maxLen]) (by simp [maxLen])).mono ?_
    rintro e w8 ⟨rfl, q, rfl⟩
    cases ok
    · have hT := hno.out hOk.out
      rw [hT] at l47
      go_wp2_with fail
      go_ret
      exact ⟨rfl, below_drewN hB7 _⟩
    · have hT := hyes.out hOk.out
      rw [hT] at l47
      go_wp2_with fail
      refine (wcInts_any A4 A1 ds.length ds.length c4 c1 ds ds (w7.drewN q) (by exact l47.out) (by exact i7.out) hdm.out hdm.out).mono ?_
      rw [decide_eq_true (rfl : ds = ds)]
      rintro e w9 ⟨rfl, q2, rfl⟩
      go_wp2_with fail
      go_ret
      exact ⟨rfl, below_drewN hB7 _⟩
  | some es =>
    have hel := hrl.out es hr
    have hts := hte.out es hr
    rw [hr] at l57 l67
    have hem := Lib.hid (show es.length ≤ maxLen by unfold maxLen; omega)
    go_wp2_with fail
    refine (wcInts_any A5 A6 es.length es.length c5 c6 es es _ l57.out l67.out hem.out hem.out).mono ?_
    rw [decide_eq_true (rfl : es = es)]
    rintro e w8 ⟨rfl, q, rfl⟩
    have hz8 := hB7.size
    go_wp2_with fail
    refine (TraceText_any A5 es.length c5 es (w7.drewN q) (by exact l57.out) hem.out).mono ?_
    rw [hts]
    rintro e w9 ⟨rfl, hb9⟩
    have hb9' : Below w7.heap.size w7 w9 := (below_drewN (Below.refl _ _) q).trans (by exact hb9)
    have hB9 := hB7.trans (hb9'.mono hz8)
    have i9 := Lib.hid ((i7.out.below hb9').more hb9'.size)
    have l49 := Lib.hid ((l47.out.below hb9').more hb9'.size)
    clear hb9 hb9' hB7
    cases ok
    · have hT := hno.out hOk.out
      rw [hT] at l49
      go_wp2_with fail
      go_ret
      exact ⟨rfl, hB9⟩
    · have hT := hyes.out hOk.out
      rw [hT] at l49
      go_wp2_with fail
      refine (wcInts_any A4 A1 ds.length ds.length c4 c1 ds ds _ l49.out i9.out hdm.out hdm.out).mono ?_
      rw [decide_eq_true (rfl : ds = ds)]
      rintro e w10 ⟨rfl, q2, rfl⟩
      go_wp2_with fail
      go_ret
      exact ⟨rfl, below_drewN hB9 _⟩

set_option maxRecDepth 100000 in
theorem lifted (os : Os) (started : os.Started) (H : Type) (enc : TypeId × Value → H) :
    ReturnsInHanded {} Try.checked os 6 .any (Rows.fnTraceTextSpec.pre6 enc Try.prog Try.f6 Rows.fnTraceTextRow.domain false) (Rows.fnTraceTextSpec.post enc Try.prog Try.f6 false true false false) := by
  refine returnsInHanded_of_change (C := Try.checked) own started (by kernel_rfl) Try.func6
    (ChangeSpec.witness6 (enc := enc) (C := Try.checked) false ⟨#[], #[.slice none 0 0, .slice none 0 0], []⟩ 8 (by kernel_rfl) (by kernel_rfl) (by kernel_rfl) (by kernel_rfl)) ?_
  intro W base args ds gs before hval0 hW hcnd _
  have hval : ∀ (j : Nat) t v, Try.f6.params[j]? = some t → args[j]? = some v → Value.okWide Try.prog W .any base t v := hval0
  have hW' := hW
  obtain ⟨p, q, hA0, hV, rfl, hfz, hnd⟩ := hW
  have hA : DataW.TrodAll enc Try.prog W 0 (fun _ => true) true Try.f6.params.toList args.toList ds p := hA0
  rw [Try.params6] at hA hval
  obtain ⟨v0, vs0, d0, ds0, p0, q0, hargs, rfl, rfl, h0, r0⟩ := trodAll_cons hA
  obtain ⟨v1, vs1, d1, ds1, p1, q1, rfl, rfl, rfl, h1, r1⟩ := trodAll_cons r0
  obtain ⟨rfl, rfl, rfl⟩ := trodAll_nil r1
  obtain rfl : args = #[v0, v1] := by cases args; simp_all
  obtain ⟨rfl, rfl⟩ := trodVars_none hV
  have lt0 : ∀ x ∈ p0, x.block < W.heap.size := by
    obtain ⟨m, hm⟩ := h0
    exact DataW.trod_lt m _ _ _ hm
  have lt1 : ∀ x ∈ p1, x.block < W.heap.size := by
    obtain ⟨m, hm⟩ := h1
    exact DataW.trod_lt m _ _ _ hm
  clear hA0 hval0
  refine (walk enc W base v0 d0 p0 (hval 0 22 v0 rfl rfl) h0 lt0 v1 d1 p1 (hval 1 22 v1 rfl rfl) h1 lt1).mono fun e W' ⟨he, bel⟩ => ?_
  subst he
  exact ⟨_, rfl, _, _, _, [], _, [], hW', trodAll_mk1 (shut_bool Try.underlying4 _), (trodAll_cons_mk (Below.trod laidOut (by kernel_rfl) (of_decide_eq_true (by kernel_rfl)) h0 bel lt0) (trodAll_cons_mk (Below.trod laidOut (by kernel_rfl) (of_decide_eq_true (by kernel_rfl)) h1 bel lt1) trodAll_mk0)), rfl, bel.frame _, fun h => by cases h⟩

theorem proved : Rows.FnTraceTextSaid :=
  OpenClaim.holds_of_wide 6 Try.f6 rfl rfl rfl rfl rfl rfl rfl ⟨rfl, rfl, rfl, rfl, rfl⟩ rfl rfl rfl rfl rfl (by kernel_rfl) Try.func6 (by kernel_rfl)
    (of_decide_eq_true (by kernel_rfl)) (by unfold Func.isWrapper; first | (rw [if_pos (by decide +kernel)]; kernel_rfl) | (rw [if_neg (by decide +kernel)]; exact ⟨rfl, rfl⟩))
    (fun os started H enc _ => lifted os started H enc)
end Go.Proofs.Ytpogohgepcakcaa.fnTraceText
