/- Values backward: the program's ValuesBack, StepBack, EventOf, WorthOf and ChanceOf. -/
import Derived.Test.YtcphclkaddhfmaaBg
import Derived.Test.YtcphclkaddhfmaaAb
import Derived.Test.YtcphclkaddhfmaaAg
namespace Go.Proofs.Ytcphclkaddhfmaa
set_option maxRecDepth 100000
set_option linter.unusedVariables false
open Go.RowKit

def hOf (ds : List Int) (st : Int) : Int := ds.getD st.toNat 0
def vbOk (ps : List St) (ds : List Int) : Bool := (unrolled ps).isSome && lstOk 9 ds
def vbOf (ps : List St) (ds : List Int) : List Int := match unrolled ps with
  | some os => if lstOk 9 ds = true then rowL (valAt (hOf ds) os 0) else []
  | none => []
def woOf (ps : List St) (ds : List Int) : Int := match unrolled ps with
  | some os => if lstOk 9 ds = true then valAt (hOf ds) os 0 0 else 0
  | none => 0
def evRow (v x : Int) : List Int := rowL fun st => if valueAt st v = x then 1 else 0
def evOf (v x : Int) : List Int := if (inB v 0 3 && inB x 0 2) = true then evRow v x else []
theorem pow27_le {a b : Nat} (h : a ≤ b) : (27 : Int) ^ a ≤ 27 ^ b := by
  obtain ⟨c, rfl⟩ := Nat.exists_eq_add_of_le h
  rw [Int.pow_add]
  have h1 : (0 : Int) < 27 ^ a := Int.pow_pos (by decide)
  have h2 : (0 : Int) < 27 ^ c := Int.pow_pos (by decide)
  have := Int.mul_le_mul_of_nonneg_left (show (1 : Int) ≤ 27 ^ c by omega) (Int.le_of_lt h1)
  omega
theorem hOf_bd {m : Int} {ds : List Int} (h0 : 0 ≤ m) (h : lstOk m ds = true) (st : Int) : 0 ≤ hOf ds st ∧ hOf ds st ≤ m := by
  unfold hOf
  rw [List.getD_eq_getElem?_getD]
  cases he : ds[st.toNat]? with
  | none => exact ⟨Int.le_refl _, h0⟩
  | some x => exact (lstOk_bd h).2 x (List.mem_of_getElem? he)
/-- Nothing behind the first statement is worth too much. -/
theorem rw_small {ds : List Int} {os : List St} {led : Nat → Int → Bool} {j : Nat} {st : Int} (h : lstOk 9 ds = true) (hm : os.length ≤ 12) (hok : ∀ s ∈ os, s.ok = true) (hst : 0 ≤ st ∧ st ≤ 80) (hj : 0 < j) : 0 ≤ Rw (hOf ds) os led j st ∧ Rw (hOf ds) os led j st ≤ 100000000000000000 := by
  have h1 := Rw_bd (led := led) (i := j) (h := hOf ds) (H := 9) (os := os) (fun st _ _ => hOf_bd (by decide) h st) (by decide) hok hst
  have h2 := pow27_le (show os.length - j ≤ 11 by omega)
  have h3 : (27 : Int) ^ 11 = 5559060566555523 := by decide
  omega

theorem build_set : ∃ fa, (∀ w : World, (Instr.build 71 #[(0, .bool true)]).run Try.prog w = .ok (.agg fa) w) ∧ SetA fa (fun st => decide (st = 0)) := by
  obtain ⟨hzero, _⟩ := zero_of_info (P := Try.prog) info_set
  have hzc : (List.toArray (List.replicate 81 (Value.bool false))).size = 81 := by simp
  have hzb : ∀ u ∈ (List.toArray (List.replicate 81 (Value.bool false))), u = .bool false := fun u hu => by simpa using hu
  generalize List.toArray (List.replicate 81 (Value.bool false)) = zc at hzero hzc hzb
  have hu := Try.underlying71
  have hne : zc ≠ #[] := by
    rintro rfl
    simp at hzc
  refine ⟨zc.setIfInBounds 0 (.bool true), fun w => ?_, by simpa using hzc, fun q hq => ?_⟩
  · simp [Instr.build, hzero, run_underlying hu, go_sem, Instr.fill, hne]
  · rw [Array.getElem?_setIfInBounds]
    by_cases h0 : 0 = q
    · subst h0
      rw [if_pos rfl, if_pos (by omega)]; rfl
    · rw [if_neg h0, Array.getElem?_eq_getElem (by omega), hzb _ (Array.getElem_mem _)]
      congr 2
      exact (decide_eq_false (by omega)).symm
theorem wpList_build {ops : Array Oper} {rest : List Oper} {op : Oper} {a : Act} {w : World} {Q : Exit → Act → World → Prop} (hgd : op.guard = none) (t : TypeId) (parts : Array (Nat × Operand)) (ho : op.op = .build t parts)
    (v : Value) (hr : (Instr.build t (parts.map fun p => (p.1, a.eval p.2))).run Try.prog w = .ok v w)
    (h : wpList Try.prog ops Q rest (a.put op.dst v) w) : wpList Try.prog ops Q (op :: rest) a w :=
  wpList_plain hgd fun K hK => by
    unfold Oper.wp execOp
    simp only [ho, Sem.run_bind, Sem.run_pure, Result.andThen_ok, hr]
    exact hK _ _ h

theorem ValuesBack_any (A Ad : Option Addr) (n c nd cd : Nat) (ps : List St) (ds : List Int) (w : World) (h : Lst w w.heap.size A n ps) (hn : n ≤ c) (hc : c ≤ maxLen) (hd : Ils w w.heap.size Ad nd ds) (hnd : nd ≤ maxLen) :
    Calls Try.prog 23 #[.slice A n c, .slice Ad nd cd] w (Lbd w (vbOf ps ds) (vbOk ps ds)) := by
  have hC := Lib.hid (Unrolled_any A n c ps w h hn hc)
  have hDs := Lib.hid hd
  have cL := Lib.hid (fun wx (hx : Ils wx wx.heap.size Ad nd ds) => listOk_any Ad nd cd ds 9 wx hx hnd)
  have hlen0 := hd.1
  clear h hc hd
  cases hu : unrolled ps with
  | none =>
    have hU := Lib.hid hu
    have hR := Lib.hid (show vbOf ps ds = [] by unfold vbOf; rw [hu])
    have hR2 := Lib.hid (show vbOk ps ds = false by unfold vbOk; rw [hu]; rfl)
    clear hu
    go_enter Try.func23, Try.ntmps23
    go_wp2_with fail
    refine (hC.out).mono ?_
    rw [hU.out]
    rintro e w1 ⟨v, rfl, hown, hb⟩
    clear hown
    go_wp2_with fail
    go_ret2
    exact ⟨_, by rw [hR2.out]; rfl, by rw [hR.out]; exact IOwn.nil _ _, hb⟩
  | some os =>
    obtain ⟨_, hlen, _, hNL, hOK⟩ := unrolled_parts hu
    have hU := Lib.hid hu
    cases hk : lstOk 9 ds
    · have hR := Lib.hid (show vbOf ps ds = [] by unfold vbOf; rw [hu, hk]; simp)
      have hR2 := Lib.hid (show vbOk ps ds = false by unfold vbOk; rw [hu, hk]; simp)
      rw [hk] at cL
      clear hu hNL hOK hk
      go_enter Try.func23, Try.ntmps23
      go_wp2_with fail
      refine (hC.out).mono ?_
      rw [hU.out]
      rintro e w1 ⟨v, rfl, hown', hb⟩
      have hown : Own w1 w.heap.size v os := hown'
      obtain ⟨A3, c3, hv, hlc, hcm⟩ := hown.form
      subst hv
      have hD1 := Lib.hid ((hDs.out.below hb).more hb.size)
      have hB1 := Lib.hid hb
      clear hown hown' hb
      go_wp2_with (first | (go_at_call 51; refine (cL.out _ hD1.out).mono ?_; rintro e w2 ⟨rfl, hb2⟩))
      go_ret2
      exact ⟨_, by rw [hR2.out]; rfl, by rw [hR.out]; exact IOwn.nil _ _, hB1.out.trans (hb2.mono hB1.out.size)⟩
    · have hR := Lib.hid (show vbOf ps ds = rowL (valAt (hOf ds) os 0) by unfold vbOf; rw [hu, hk]; simp)
      have hR2 := Lib.hid (show vbOk ps ds = true by unfold vbOk; rw [hu, hk]; simp)
      have hl81 := (lstOk_bd hk).1
      obtain rfl : 81 = nd := by omega
      have hOk := Lib.hid (show ∀ s ∈ os, s.ok = true from fun s hs => List.all_eq_true.1 hOK s hs)
      have hKk := Lib.hid hk
      rw [hk] at cL
      clear hu hNL hOK hk
      go_enter Try.func23, Try.ntmps23
      go_wp2_with fail
      refine (hC.out).mono ?_
      rw [hU.out]
      rintro e w1 ⟨v, rfl, hown', hb⟩
      have hown : Own w1 w.heap.size v os := hown'
      obtain ⟨A3, c3, hv, hlc, hcm⟩ := hown.form
      subst hv
      have hO := Lib.hid (show w1.ownsRow w.heap.size 49 7 (.slice A3 os.length c3) os.length (flat os) from hown)
      have hB1 := Lib.hid hb
      have hD1 := Lib.hid (fun wx (hbx : Below w.heap.size w wx) => (hDs.out.below hbx).more hbx.size)
      have cW := Lib.hid (fun fa wx (hfa : SetA fa (fun _ => true)) (hbx : Below w1.heap.size w1 wx) => worthAhead_any A3 Ad os.length c3 cd os ds fa (fun _ => true) wx (ownS_lst (owns_but hO.out (KeptBut.of_below hbx (fun _ => False)) (fun _ _ h => h))) hlen rfl hOk.out (hD1.out wx (hB1.out.trans (hbx.mono hB1.out.size))) hl81 hfa (fun led j st hst hj => rw_small hKk.out hlen hOk.out hst hj))
      clear hown hown' hb
      go_wp2_with (first
        | (go_at_call 51; refine (cL.out _ (hD1.out _ hB1.out)).mono ?_; rintro e w2 ⟨rfl, hb2⟩)
        | (go_at_call 60; refine (allStates_any _).mono ?_; rintro e w3 ⟨fa, rfl, hfa, hb3⟩; have hb3' := hb2.trans (hb3.mono hb2.size))
        | (go_at_call 52; refine (cW.out _ _ hfa hb3').mono ?_; rintro e w4 ⟨gr, cs, led, rfl, hgr, hcr, hra, hl0, hb4⟩))
      go_ret2
      have hz1 := hB1.out.size
      have hz3 := hb3'.size
      refine ⟨_, by rw [hR2.out]; rfl, ?_, (hB1.out.trans (hb3'.mono hz1)).trans (hb4.mono (by omega))⟩
      rw [hR.out]
      refine IOwn.of_has hcr ?_ (rowL_length _) (by omega) (by decide)
      refine (hra.congr fun st hst => ?_).list
      show (if os.length ≤ 0 then _ else if led 0 st = true then _ else _) = _
      rw [hl0 st hst]
      split
      · rename_i h0
        exact (valAt_end (h := hOf ds) h0 st).symm
      · rfl
theorem store_whole {w : World} {g : Nat} {t : TypeId} {old cs : Array Value} (h : Has w g t old) (hz : old.size = cs.size) : Has (w.setCells g 0 cs.toList) g t cs := by
  obtain ⟨cs', h1, h2, h3, _⟩ := has_setCells cs.toList 0 w old h (by simp [hz])
  have e : cs' = cs := by
    apply Array.ext_getElem?
    intro q
    by_cases hq : q < cs.size
    · have := h3 q cs[q] (by simp [hq])
      rw [Nat.zero_add] at this
      rw [this, Array.getElem?_eq_getElem hq]
    · rw [Array.getElem?_eq_none (by rw [h2, hz]; omega), Array.getElem?_eq_none (by omega)]
  rwa [e] at h1
theorem WorthOf_any (A Ad : Option Addr) (n c nd cd : Nat) (ps : List St) (ds : List Int) (w : World) (h : Lst w w.heap.size A n ps) (hn : n ≤ c) (hc : c ≤ maxLen) (hd : Ils w w.heap.size Ad nd ds) (hnd : nd ≤ maxLen) :
    Calls Try.prog 17 #[.slice A n c, .slice Ad nd cd] w (fun e w' => e = .returned (.tuple #[.int .i64 (woOf ps ds), .bool (vbOk ps ds)]) ∧ Below w.heap.size w w') := by
  have hC := Lib.hid (Unrolled_any A n c ps w h hn hc)
  have hDs := Lib.hid hd
  have cL := Lib.hid (fun wx (hx : Ils wx wx.heap.size Ad nd ds) => listOk_any Ad nd cd ds 9 wx hx hnd)
  have hlen0 := hd.1
  clear h hc hd
  cases hu : unrolled ps with
  | none =>
    have hU := Lib.hid hu
    have hR := Lib.hid (show woOf ps ds = 0 by unfold woOf; rw [hu])
    have hR2 := Lib.hid (show vbOk ps ds = false by unfold vbOk; rw [hu]; rfl)
    clear hu
    go_enter Try.func17, Try.ntmps17
    go_wp2_with fail
    refine (hC.out).mono ?_
    rw [hU.out]
    rintro e w1 ⟨v, rfl, hown, hb⟩
    clear hown
    go_wp2_with fail
    go_ret2
    exact ⟨by rw [hR2.out, hR.out]; rfl, hb⟩
  | some os =>
    obtain ⟨_, hlen, _, hNL, hOK⟩ := unrolled_parts hu
    have hU := Lib.hid hu
    cases hk : lstOk 9 ds
    · have hR := Lib.hid (show woOf ps ds = 0 by unfold woOf; rw [hu, hk]; simp)
      have hR2 := Lib.hid (show vbOk ps ds = false by unfold vbOk; rw [hu, hk]; simp)
      rw [hk] at cL
      clear hu hNL hOK hk
      go_enter Try.func17, Try.ntmps17
      go_wp2_with fail
      refine (hC.out).mono ?_
      rw [hU.out]
      rintro e w1 ⟨v, rfl, hown', hb⟩
      have hown : Own w1 w.heap.size v os := hown'
      obtain ⟨A3, c3, hv, hlc, hcm⟩ := hown.form
      subst hv
      have hD1 := Lib.hid ((hDs.out.below hb).more hb.size)
      have hB1 := Lib.hid hb
      clear hown hown' hb
      go_wp2_with (first | (go_at_call 51; refine (cL.out _ hD1.out).mono ?_; rintro e w2 ⟨rfl, hb2⟩))
      go_ret2
      exact ⟨by rw [hR2.out, hR.out]; rfl, hB1.out.trans (hb2.mono hB1.out.size)⟩
    · have hR := Lib.hid (show woOf ps ds = valAt (hOf ds) os 0 0 by unfold woOf; rw [hu, hk]; simp)
      have hR2 := Lib.hid (show vbOk ps ds = true by unfold vbOk; rw [hu, hk]; simp)
      have hl81 := (lstOk_bd hk).1
      obtain rfl : 81 = nd := by omega
      have hOk := Lib.hid (show ∀ s ∈ os, s.ok = true from fun s hs => List.all_eq_true.1 hOK s hs)
      have hKk := Lib.hid hk
      rw [hk] at cL
      clear hu hNL hOK hk
      go_enter Try.func17, Try.ntmps17
      go_wp2_with fail
      refine (hC.out).mono ?_
      rw [hU.out]
      rintro e w1 ⟨v, rfl, hown', hb⟩
      have hown : Own w1 w.heap.size v os := hown'
      obtain ⟨A3, c3, hv, hlc, hcm⟩ := hown.form
      subst hv
      have hO := Lib.hid (show w1.ownsRow w.heap.size 49 7 (.slice A3 os.length c3) os.length (flat os) from hown)
      have hB1 := Lib.hid hb
      have hD1 := Lib.hid (fun wx (hbx : Below w.heap.size w wx) => (hDs.out.below hbx).more hbx.size)
      have cW := Lib.hid (fun fa wx (hfa : SetA fa (fun st => decide (st = 0))) (hbx : Below w1.heap.size w1 wx) => worthAhead_any A3 Ad os.length c3 cd os ds fa (fun st => decide (st = 0)) wx (ownS_lst (owns_but hO.out (KeptBut.of_below hbx (fun _ => False)) (fun _ _ h => h))) hlen rfl hOk.out (hD1.out wx (hB1.out.trans (hbx.mono hB1.out.size))) hl81 hfa (fun led j st hst hj => rw_small hKk.out hlen hOk.out hst hj))
      clear hown hown' hb
      obtain ⟨fa, hbs, hfa⟩ := build_set
      obtain ⟨hzero, hsize⟩ := zero_of_info (P := Try.prog) info_set
      have hzc : (List.toArray (List.replicate 81 (Value.bool false))).size = 81 := by simp
      generalize List.toArray (List.replicate 81 (Value.bool false)) = zc at hzero hzc
      have hFa := Lib.hid hfa
      have hSz := Lib.hid (show (Try.prog.info? 71).map (·.size) = some fa.size from by rw [hsize, hfa.1])
      have hSl := Lib.hid (show (Try.prog.info? 71).map (·.size) = some fa.toList.length from by rw [hsize, Array.length_toList, hfa.1])
      have hbs' := Lib.hid hbs
      have hzf : zc.size = fa.size := by rw [hzc, hfa.1]
      clear hsize hfa hbs hzc
      go_wp2_with (first
        | (go_at_call 51; refine (cL.out _ (hD1.out _ hB1.out)).mono ?_; rintro e w2 ⟨rfl, hb2⟩; have hX := Has.new w2 71 zc; have hTh := Lib.hid (has_there (o := 0) (n := fa.size) hX (by omega)); have hXs := store_whole hX hzf; have hRg := Lib.hid (has_range (o := 0) (vs := fa.toList) hXs (fun j v hv => by rw [Nat.zero_add]; simpa using hv)); have hb3 := Lib.hid (below_setCells (B := w1.heap.size) (b := w2.heap.size) hb2.size fa.toList 0 _ (hb2.alloc hb2.size (.cells zc 71))); clear hX hXs)
        | (refine wpList_build rfl 71 #[(0, .const (.bool true))] rfl (.agg fa) (by have h9 := hbs'.out w2; simpa [Act.eval] using h9) ?_)
        | (refine wpList_store_mid rfl 71 (.tmp 8) (.tmp 21) rfl w2.heap.size 0 fa (by rfl) (by rfl) hTh.out hSz.out hFa.out.one ?_)
        | (refine wpList_load_mid rfl 71 (.tmp 8) rfl w2.heap.size 0 (by rfl) fa.toList _ hRg.out Try.underlying71 rfl hSl.out ?_)
        | (go_at_call 52; refine (cW.out _ _ hFa.out hb3.out).mono ?_; rintro e w4 ⟨gr, cs, led, rfl, hgr, hcr, hra, hl0, hb4⟩; have hc0 := (hcr.cell 0).trans (hra.2 0 (by decide))))
      go_ret2
      have hz1 := hB1.out.size
      have hz3 := hb3.out.size
      refine ⟨?_, (hB1.out.trans (hb3.out.mono hz1)).trans (hb4.mono (by omega))⟩
      rw [hR2.out, hR.out]
      have hv0 : Rw (fun st => ds.getD st.toNat 0) os led 0 0 = valAt (hOf ds) os 0 0 := by
        show (if os.length ≤ 0 then _ else if led 0 0 = true then _ else _) = _
        rw [hl0 0 (by decide)]
        split
        · rename_i h0
          exact (valAt_end (h := hOf ds) h0 0).symm
        · rfl
      rw [← hv0]
      rfl
end Go.Proofs.Ytcphclkaddhfmaa
