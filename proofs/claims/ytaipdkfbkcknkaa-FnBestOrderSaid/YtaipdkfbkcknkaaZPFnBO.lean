/- For every list of bytes: of the drawn factors the program's BestOrder, GreedyOrder, WidthOf and OrderOk return what the model's return; no order is better than the best one, and the greedy one is an order. No condition. -/
import Derived.Test.YtaipdkfbkcknkaaRows
import Derived.ProofKit
import Derived.OpenShut
import Derived.ShutString
import Derived.ChangeOld
import Derived.Below
import Derived.Test.YtaipdkfbkcknkaaZAW
import Derived.Test.YtaipdkfbkcknkaaZAB
import Derived.Test.YtaipdkfbkcknkaaZAA
namespace Go.Proofs.Ytaipdkfbkcknkaa.fnBestOrder
open Go.ChangeShapes Go.WideShapes Go.ChangeAt Go.RowKit
set_option linter.unusedVariables false
set_option maxRecDepth 100000
theorem own : ownKnob Try.prog.godebug = none := by kernel_rfl
theorem laidOut : laidOutB Try.prog = true := by kernel_rfl
set_option maxHeartbeats 4000000 in
theorem walk {H : Type} (enc : TypeId × Value → H) (W : World) (base : Nat) (v0 : Value) (d0 : DataW H) (p0 : List MemPlace) (hv0 : Value.okWide Try.prog W .any base 47 v0)
    (h0 : DataW.Trod enc Try.prog W 0 (fun _ => true) true 47 v0 d0 p0) (_ : ∀ x ∈ p0, x.block < W.heap.size) :
    Calls Try.prog 11 #[v0] W fun e w' => e = .returned (.bool true) ∧ Below W.heap.size W w' := by
  obtain ⟨A, n, c, rfl, hn, hc, hb⟩ := open_bytes hv0 h0
  clear hv0 h0
  have hcM := Lib.hid hc
  have hnn : n ≤ 9223372036854775807 := by unfold maxLen at hc; omega
  clear hc
  by_cases h1 : 1048576 < n
  · go_enter Try.func11, Try.ntmps11
    go_wp2_with fail
    go_ret
    exact ⟨rfl, Below.refl _ _⟩
  go_enter Try.func11, Try.ntmps11
  go_wp2_with fail
  refine (DrawBestOrder_any A n c _ hb hn hcM.out).mono ?_
  rintro e w1 ⟨v1, Fs, vs, rfl, hR, hl, hsm, hB⟩
  obtain ⟨AF, cF, rfl, _, _⟩ := hR.form
  have hF1 := Lib.hid (hR.flst0 rfl)
  have hB1 := Lib.hid hB
  obtain ⟨m, hm⟩ : ∃ m, Fs.length = m := ⟨_, rfl⟩
  rw [hm] at hF1 hl ⊢
  have hmM : m ≤ maxLen := by unfold maxLen; omega
  have cB := Lib.hid (fun wx (hx : FLst0 wx wx.heap.size AF m Fs) => BestOrder_any AF m cF Fs wx hx.1 hmM hsm)
  have cSB := Lib.hid (fun wx (hx : FLst0 wx wx.heap.size AF m Fs) => specBestOrder_any AF m cF Fs wx hx hmM hsm)
  have cG := Lib.hid (fun wx (hx : FLst0 wx wx.heap.size AF m Fs) => GreedyOrder_any AF m cF Fs wx hx.1 hmM hsm)
  have cSG := Lib.hid (fun wx (hx : FLst0 wx wx.heap.size AF m Fs) => specGreedyOrder_any AF m cF Fs wx hx hmM hsm)
  have cW := Lib.hid (fun (D : Option Addr) (nd cd : Nat) (os : List Int) wx (hx : FLst0 wx wx.heap.size AF m Fs) (hy : Ils wx wx.heap.size D nd os) (hnd : nd ≤ maxLen) => WidthOf_any AF D m cF nd cd Fs os wx hx.1 hmM hsm hy hnd)
  have cSW := Lib.hid (fun (D : Option Addr) (nd cd : Nat) (os : List Int) wx (hx : FLst0 wx wx.heap.size AF m Fs) (hy : Ils wx wx.heap.size D nd os) (hnd : nd ≤ cd) (hcd : cd ≤ maxLen) => specWidthOf_any AF D m cF nd cd Fs os wx hx hmM hsm hy hnd hcd)
  have hyes := Lib.hid (fun (h : listOk Fs = true) => best_widths h)
  have hno := Lib.hid (fun (h : listOk Fs = false) => best_none h)
  have hl1 := bestTo_len Fs
  have hl2 := greedyTo_len Fs
  unfold Lbd at cB cSB cG cSG
  generalize bestTo Fs = os at *
  generalize greedyTo Fs = gs at *
  generalize hkk : listOk Fs = bb at *
  clear hR hsm hB hb hm hkk
  go_wp2_with fail
  refine (cB.out _ hF1.out).mono ?_
  rintro e w2 ⟨v, rfl, ho, hb⟩
  have hF2 := Lib.hid ((hF1.out.below hb).more hb.size)
  have hB2 := Lib.hid (hB1.out.trans (hb.mono hB1.out.size))
  clear hF1 hB1
  obtain ⟨Da, da, rfl, hda, hdMa⟩ := ho.form
  have hIa2 := Lib.hid ho.lst
  clear ho
  clear hb
  go_wp2_with fail
  refine (cSB.out _ hF2.out).mono ?_
  rintro e w3 ⟨v, rfl, ho, hb⟩
  have hF3 := Lib.hid ((hF2.out.below hb).more hb.size)
  have hB3 := Lib.hid (hB2.out.trans (hb.mono hB2.out.size))
  have hIa3 := Lib.hid ((hIa2.out.below hb).more hb.size)
  clear hF2 hB2 hIa2
  obtain ⟨Db, db, rfl, hdb, hdMb⟩ := ho.form
  have hIb3 := Lib.hid ho.lst
  clear ho
  clear hb
  go_wp2_with fail
  refine (cG.out _ hF3.out).mono ?_
  rintro e w4 ⟨v, rfl, ho, hb⟩
  have hF4 := Lib.hid ((hF3.out.below hb).more hb.size)
  have hB4 := Lib.hid (hB3.out.trans (hb.mono hB3.out.size))
  have hIa4 := Lib.hid ((hIa3.out.below hb).more hb.size)
  have hIb4 := Lib.hid ((hIb3.out.below hb).more hb.size)
  clear hF3 hB3 hIa3 hIb3
  obtain ⟨Dg, dg, rfl, hdg, hdMg⟩ := ho.form
  have hIg4 := Lib.hid ho.lst
  clear ho
  clear hb
  go_wp2_with fail
  refine (cSG.out _ hF4.out).mono ?_
  rintro e w5 ⟨v, rfl, ho, hb⟩
  have hF5 := Lib.hid ((hF4.out.below hb).more hb.size)
  have hB5 := Lib.hid (hB4.out.trans (hb.mono hB4.out.size))
  have hIa5 := Lib.hid ((hIa4.out.below hb).more hb.size)
  have hIb5 := Lib.hid ((hIb4.out.below hb).more hb.size)
  have hIg5 := Lib.hid ((hIg4.out.below hb).more hb.size)
  clear hF4 hB4 hIa4 hIb4 hIg4
  obtain ⟨Dh, dh, rfl, hdh, hdMh⟩ := ho.form
  have hIh5 := Lib.hid ho.lst
  clear ho
  clear hb
  have hoM : os.length ≤ maxLen := by unfold maxLen; omega
  have hgM : gs.length ≤ maxLen := by unfold maxLen; omega
  cases bb
  · obtain ⟨rfl, rfl⟩ := hno.out rfl
    go_wp2_with fail
    refine (wcInts_any Da Db ([] : List Int).length ([] : List Int).length da db ([] : List Int) ([] : List Int) _ hIa5.out hIb5.out (by unfold maxLen; simp) (by unfold maxLen; simp)).mono ?_
    rintro e w6 ⟨rfl, kk6, rfl⟩
    have hb : Below w5.heap.size w5 (w5.drewN kk6) := below_drewN (Below.refl _ _) kk6
    have hF6 := Lib.hid ((hF5.out.below hb).more hb.size)
    have hB6 := Lib.hid (hB5.out.trans (hb.mono hB5.out.size))
    have hIa6 := Lib.hid ((hIa5.out.below hb).more hb.size)
    have hIb6 := Lib.hid ((hIb5.out.below hb).more hb.size)
    have hIg6 := Lib.hid ((hIg5.out.below hb).more hb.size)
    have hIh6 := Lib.hid ((hIh5.out.below hb).more hb.size)
    clear hF5 hB5 hIa5 hIb5 hIg5 hIh5
    generalize w5.drewN kk6 = w6 at *
    clear hb
    go_wp2_with fail
    refine (wcInts_any Dg Dh ([] : List Int).length ([] : List Int).length dg dh ([] : List Int) ([] : List Int) _ hIg6.out hIh6.out (by unfold maxLen; simp) (by unfold maxLen; simp)).mono ?_
    rintro e w7 ⟨rfl, kk7, rfl⟩
    have hb : Below w6.heap.size w6 (w6.drewN kk7) := below_drewN (Below.refl _ _) kk7
    have hF7 := Lib.hid ((hF6.out.below hb).more hb.size)
    have hB7 := Lib.hid (hB6.out.trans (hb.mono hB6.out.size))
    have hIa7 := Lib.hid ((hIa6.out.below hb).more hb.size)
    have hIb7 := Lib.hid ((hIb6.out.below hb).more hb.size)
    have hIg7 := Lib.hid ((hIg6.out.below hb).more hb.size)
    have hIh7 := Lib.hid ((hIh6.out.below hb).more hb.size)
    clear hF6 hB6 hIa6 hIb6 hIg6 hIh6
    generalize w6.drewN kk7 = w7 at *
    clear hb
    go_wp2_with fail
    go_ret
    exact ⟨rfl, hB7.out⟩
  · obtain ⟨e1, e2, e3, e4, e5⟩ := hyes.out rfl
    have he4 := Lib.hid e4
    have he5 := Lib.hid e5
    obtain ⟨a, ha⟩ : ∃ a, widthTo Fs os = a := ⟨_, rfl⟩
    obtain ⟨b, hb'⟩ : ∃ b, widthTo Fs gs = b := ⟨_, rfl⟩
    obtain ⟨c9, hc9⟩ : ∃ c, widthTo Fs [0, 1, 2, 3] = c := ⟨_, rfl⟩
    rw [ha, hb'] at e1
    rw [ha, hc9] at e2
    rw [ha] at e3
    have wa := Lib.hid ha
    have wb := Lib.hid hb'
    have wc := Lib.hid hc9
    have e3' : a ≥ 1 := e3
    clear ha hb' hc9 e4 e5
    go_wp2_with fail
    refine (wcInts_any Da Db os.length os.length da db os os _ hIa5.out hIb5.out (hoM) (hoM)).mono ?_
    rintro e w6 ⟨rfl, kk6, rfl⟩
    have hb : Below w5.heap.size w5 (w5.drewN kk6) := below_drewN (Below.refl _ _) kk6
    have hF6 := Lib.hid ((hF5.out.below hb).more hb.size)
    have hB6 := Lib.hid (hB5.out.trans (hb.mono hB5.out.size))
    have hIa6 := Lib.hid ((hIa5.out.below hb).more hb.size)
    have hIb6 := Lib.hid ((hIb5.out.below hb).more hb.size)
    have hIg6 := Lib.hid ((hIg5.out.below hb).more hb.size)
    have hIh6 := Lib.hid ((hIh5.out.below hb).more hb.size)
    clear hF5 hB5 hIa5 hIb5 hIg5 hIh5
    generalize w5.drewN kk6 = w6 at *
    clear hb
    go_wp2_with fail
    refine (wcInts_any Dg Dh gs.length gs.length dg dh gs gs _ hIg6.out hIh6.out (hgM) (hgM)).mono ?_
    rintro e w7 ⟨rfl, kk7, rfl⟩
    have hb : Below w6.heap.size w6 (w6.drewN kk7) := below_drewN (Below.refl _ _) kk7
    have hF7 := Lib.hid ((hF6.out.below hb).more hb.size)
    have hB7 := Lib.hid (hB6.out.trans (hb.mono hB6.out.size))
    have hIa7 := Lib.hid ((hIa6.out.below hb).more hb.size)
    have hIb7 := Lib.hid ((hIb6.out.below hb).more hb.size)
    have hIg7 := Lib.hid ((hIg6.out.below hb).more hb.size)
    have hIh7 := Lib.hid ((hIh6.out.below hb).more hb.size)
    clear hF6 hB6 hIa6 hIb6 hIg6 hIh6
    generalize w6.drewN kk7 = w7 at *
    clear hb
    go_wp2_with fail
    refine (cW.out Da os.length da os _ hF7.out hIa7.out hoM).mono ?_
    rw [wa.out]
    rintro e w8 ⟨rfl, hb⟩
    have hF8 := Lib.hid ((hF7.out.below hb).more hb.size)
    have hB8 := Lib.hid (hB7.out.trans (hb.mono hB7.out.size))
    have hIa8 := Lib.hid ((hIa7.out.below hb).more hb.size)
    have hIb8 := Lib.hid ((hIb7.out.below hb).more hb.size)
    have hIg8 := Lib.hid ((hIg7.out.below hb).more hb.size)
    have hIh8 := Lib.hid ((hIh7.out.below hb).more hb.size)
    clear hF7 hB7 hIa7 hIb7 hIg7 hIh7
    clear hb
    go_wp2_with fail
    refine (cW.out Dg gs.length dg gs _ hF8.out hIg8.out hgM).mono ?_
    rw [wb.out]
    rintro e w9 ⟨rfl, hb⟩
    have hF9 := Lib.hid ((hF8.out.below hb).more hb.size)
    have hB9 := Lib.hid (hB8.out.trans (hb.mono hB8.out.size))
    have hIa9 := Lib.hid ((hIa8.out.below hb).more hb.size)
    have hIb9 := Lib.hid ((hIb8.out.below hb).more hb.size)
    have hIg9 := Lib.hid ((hIg8.out.below hb).more hb.size)
    have hIh9 := Lib.hid ((hIh8.out.below hb).more hb.size)
    clear hF8 hB8 hIa8 hIb8 hIg8 hIh8
    clear hb
    have hb : Below w9.heap.size w9 (w9.alloc (.cells #[.int .i64 0, .int .i64 1, .int .i64 2, .int .i64 3] 3)) := (Below.refl _ _).alloc (Nat.le_refl _) _
    have hIz := Lib.hid (show Ils (w9.alloc (.cells #[.int .i64 0, .int .i64 1, .int .i64 2, .int .i64 3] 3)) (w9.alloc (.cells #[.int .i64 0, .int .i64 1, .int .i64 2, .int .i64 3] 3)).heap.size (some ⟨w9.heap.size, 0, none⟩) 4 [0, 1, 2, 3] from (IOwn.of_has (base := 0) (ds := [0, 1, 2, 3]) (Has.new w9 3 #[.int .i64 0, .int .i64 1, .int .i64 2, .int .i64 3]) rfl rfl (Nat.zero_le _) (by decide)).lst)
    have hF9z := Lib.hid ((hF9.out.below hb).more hb.size)
    have hB9z := Lib.hid (hB9.out.trans (hb.mono hB9.out.size))
    have hIa9z := Lib.hid ((hIa9.out.below hb).more hb.size)
    have hIb9z := Lib.hid ((hIb9.out.below hb).more hb.size)
    have hIg9z := Lib.hid ((hIg9.out.below hb).more hb.size)
    have hIh9z := Lib.hid ((hIh9.out.below hb).more hb.size)
    clear hb hF9 hB9 hIa9 hIb9 hIg9 hIh9
    go_wp2_with fail
    generalize (w9.alloc (.cells #[.int .i64 0, .int .i64 1, .int .i64 2, .int .i64 3] 3)) = w9z at *
    refine (cW.out (some ⟨w9.heap.size, 0, none⟩) 4 4 [0, 1, 2, 3] _ hF9z.out hIz.out (by decide)).mono ?_
    rw [wc.out]
    rintro e w10 ⟨rfl, hb⟩
    have hF10 := Lib.hid ((hF9z.out.below hb).more hb.size)
    have hB10 := Lib.hid (hB9z.out.trans (hb.mono hB9z.out.size))
    have hIa10 := Lib.hid ((hIa9z.out.below hb).more hb.size)
    have hIb10 := Lib.hid ((hIb9z.out.below hb).more hb.size)
    have hIg10 := Lib.hid ((hIg9z.out.below hb).more hb.size)
    have hIh10 := Lib.hid ((hIh9z.out.below hb).more hb.size)
    clear hb hIz hF9z hB9z hIa9z hIb9z hIg9z hIh9z
    go_wp2_with fail
    refine (cSW.out Da os.length da os _ hF10.out hIa10.out hda hdMa).mono ?_
    rw [wa.out]
    rintro e w11 ⟨rfl, hb⟩
    have hF11 := Lib.hid ((hF10.out.below hb).more hb.size)
    have hB11 := Lib.hid (hB10.out.trans (hb.mono hB10.out.size))
    have hIa11 := Lib.hid ((hIa10.out.below hb).more hb.size)
    have hIb11 := Lib.hid ((hIb10.out.below hb).more hb.size)
    have hIg11 := Lib.hid ((hIg10.out.below hb).more hb.size)
    have hIh11 := Lib.hid ((hIh10.out.below hb).more hb.size)
    clear hF10 hB10 hIa10 hIb10 hIg10 hIh10
    clear hb
    go_wp2_with fail
    refine (cSW.out Dg gs.length dg gs _ hF11.out hIg11.out hdg hdMg).mono ?_
    rw [wb.out]
    rintro e w12 ⟨rfl, hb⟩
    have hF12 := Lib.hid ((hF11.out.below hb).more hb.size)
    have hB12 := Lib.hid (hB11.out.trans (hb.mono hB11.out.size))
    have hIa12 := Lib.hid ((hIa11.out.below hb).more hb.size)
    have hIb12 := Lib.hid ((hIb11.out.below hb).more hb.size)
    have hIg12 := Lib.hid ((hIg11.out.below hb).more hb.size)
    have hIh12 := Lib.hid ((hIh11.out.below hb).more hb.size)
    clear hF11 hB11 hIa11 hIb11 hIg11 hIh11
    clear hb
    go_wp2_with fail
    refine (OrderOk_any Dg gs.length dg gs _ hIg12.out hgM).mono ?_
    rw [he4.out]
    rintro e w13 ⟨rfl, rfl⟩
    have e5 := he5.out
    rw [e5]
    go_wp2_with fail
    go_ret
    exact ⟨rfl, hB12.out⟩
set_option maxRecDepth 100000 in
theorem lifted (os : Os) (started : os.Started) (H : Type) (enc : TypeId × Value → H) :
    ReturnsInHanded {} Try.checked os 11 .any (Rows.fnBestOrderSpec.pre6 enc Try.prog Try.f11 Rows.fnBestOrderRow.domain false) (Rows.fnBestOrderSpec.post enc Try.prog Try.f11 false true false false) := by
  refine returnsInHanded_of_change (C := Try.checked) own started (by kernel_rfl) Try.func11
    (ChangeSpec.witness6 (enc := enc) (C := Try.checked) false ⟨#[], #[.slice none 0 0], []⟩ 8 (by kernel_rfl) (by kernel_rfl) (by kernel_rfl) (by kernel_rfl)) ?_
  intro W base args ds gs before hval0 hW hcnd _
  have hval : ∀ (j : Nat) t v, Try.f11.params[j]? = some t → args[j]? = some v → Value.okWide Try.prog W .any base t v := hval0
  have hW' := hW
  obtain ⟨p, q, hA0, hV, rfl, hfz, hnd⟩ := hW
  have hA : DataW.TrodAll enc Try.prog W 0 (fun _ => true) true Try.f11.params.toList args.toList ds p := hA0
  rw [Try.params11] at hA hval
  obtain ⟨v0, vs0, d0, ds0, p0, q0, hargs, rfl, rfl, h0, r0⟩ := trodAll_cons hA
  obtain ⟨rfl, rfl, rfl⟩ := trodAll_nil r0
  obtain rfl : args = #[v0] := by cases args; simp_all
  obtain ⟨rfl, rfl⟩ := trodVars_none hV
  have lt0 : ∀ x ∈ p0, x.block < W.heap.size := by
    obtain ⟨m, hm⟩ := h0
    exact DataW.trod_lt m _ _ _ hm
  clear hA0 hval0
  refine (walk enc W base v0 d0 p0 (hval 0 47 v0 rfl rfl) h0 lt0).mono fun e W' ⟨he, bel⟩ => ?_
  subst he
  exact ⟨_, rfl, _, _, _, [], _, [], hW', trodAll_mk1 (shut_bool Try.underlying4 _), (trodAll_cons_mk (Below.trod laidOut (by kernel_rfl) (of_decide_eq_true (by kernel_rfl)) h0 bel lt0) trodAll_mk0), rfl, bel.frame _, fun h => by cases h⟩
theorem proved : Rows.FnBestOrderSaid :=
  OpenClaim.holds_of_wide 11 Try.f11 rfl rfl rfl rfl rfl rfl rfl ⟨rfl, rfl, rfl, rfl, rfl⟩ rfl rfl rfl rfl rfl (by kernel_rfl) Try.func11 (by kernel_rfl)
    (of_decide_eq_true (by kernel_rfl)) (by unfold Func.isWrapper; first | (rw [if_pos (by decide +kernel)]; kernel_rfl) | (rw [if_neg (by decide +kernel)]; exact ⟨rfl, rfl⟩))
    (fun os started H enc _ => lifted os started H enc)
end Go.Proofs.Ytaipdkfbkcknkaa.fnBestOrder
