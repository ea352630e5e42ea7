/- Parts of the proof: FU. -/
import Derived.Test.YtaipdkfbkcknkaaZAF
namespace Go.Proofs.Ytaipdkfbkcknkaa
set_option maxRecDepth 100000
set_option linter.unusedVariables false
open Go.RowKit
theorem FcV.below {w w' : World} {base : Nat} {v1 v2 : Value} {F : Fac} (h : FcV w base v1 v2 F) (hb : Below w.heap.size w w') : FcV w' base v1 v2 F := ⟨h.1.below hb, h.2.1.below hb, h.2.2⟩
theorem FcV.none_ (w : World) (base : Nat) : FcV w base (.slice none 0 0) (.slice none 0 0) ⟨[], []⟩ := ⟨IOwn.nil _ _, IOwn.nil _ _, fun b h => by cases h⟩
theorem FcV.le {w : World} {base base' : Nat} {v1 v2 : Value} {F : Fac} (h : FcV w base v1 v2 F) (hb : base' ≤ base) : FcV w base' v1 v2 F := ⟨owns_le h.1 hb, owns_le h.2.1 hb, h.2.2⟩
theorem FcV.put2 {w : World} {base g : Nat} {v1 v2 : Value} {F : Fac} {cs : Array Value} (h : FcV w base v1 v2 F) (hg : Has w g 36 cs) (x y : Value) : FcV ((w.setCell ⟨g, 0, none⟩ x).setCell ⟨g, 1, none⟩ y) base v1 v2 F := by
  have hk := ((KeptBut.refl w (fun i => i = g)).put (p := ⟨g, 0, none⟩) (fun _ => rfl) x).put (p := ⟨g, 1, none⟩) (fun _ => rfl) y
  exact ⟨h.1.but hk (fun k hk e => iown_ne h.1 hg (by decide) k hk e), h.2.1.but hk (fun k hk e => iown_ne h.2.1 hg (by decide) k hk e), h.2.2⟩
theorem FcV.fac {w : World} {base n1 c1 n2 c2 : Nat} {A1 A2 : Option Addr} {F : Fac} (h : FcV w base (.slice A1 n1 c1) (.slice A2 n2 c2) F) : FacW w w.heap.size A1 n1 A2 n2 F := ⟨h.1.lst, h.2.1.lst⟩
def okOut (F : Fac) (v : Int) : Bool := (facOk 1000000000 F && decide (v ∈ F.vs)) && facOk 1000000000 (fOut F v (-1))
def outTo (F : Fac) (v : Int) : Fac := if okOut F v = true then fOut F v (-1) else ⟨[], []⟩
def okIn (F : Fac) (v x : Int) : Bool := (facOk 1000000000 F && decide (v ∈ F.vs)) && inB x 0 2
def inTo (F : Fac) (v x : Int) : Fac := if okIn F v x = true then fOut F v x else ⟨[], []⟩
theorem fOut_len {M : Int} {F : Fac} (h : facOk M F = true) (v x : Int) : (fOut F v x).vs.length ≤ 4 ∧ (fOut F v x).ns.length ≤ 81 := by
  obtain ⟨L, hL, hS, _⟩ := fac_set h
  have hb := bdf_bd (a := setOf F.vs) (b := bitN v) (by rw [hS]; omega)
  have h1 := over_len hb
  refine ⟨h1, ?_⟩
  unfold fOut
  rw [facBy_len]
  exact pow_four h1
theorem outTo_len (F : Fac) (v : Int) : (outTo F v).vs.length ≤ 4 ∧ (outTo F v).ns.length ≤ 81 := by
  unfold outTo
  split
  · rename_i h
    unfold okOut at h
    rw [Bool.and_eq_true, Bool.and_eq_true] at h
    exact fOut_len h.1.1 v (-1)
  · exact ⟨by decide, by decide⟩
set_option maxHeartbeats 1000000 in
theorem SumOut_any (A1 A2 : Option Addr) (n1 c1 n2 c2 : Nat) (F : Fac) (v : Int) (w : World) (h : FacW w w.heap.size A1 n1 A2 n2 F) (hn1 : n1 ≤ maxLen) (hn2 : n2 ≤ maxLen) :
    Calls Try.prog 49 #[.agg #[.slice A1 n1 c1, .slice A2 n2 c2], .int .i64 v] w (Fbd w (outTo F v) (okOut F v)) := by
  have hB0 : Below w.heap.size w (w.alloc (.cells #[.slice A1 n1 c1, .slice A2 n2 c2] 36)) := (Below.refl _ _).alloc (Nat.le_refl _) _
  have hbx := Lib.hid (Has.new w 36 #[.slice A1 n1 c1, .slice A2 n2 c2])
  have hF0 := Lib.hid (h.below hB0)
  have hB0h := Lib.hid hB0
  have cO := Lib.hid (fun wx hx => isOver_any A1 A2 n1 c1 n2 c2 F v wx hx hn1 hn2)
  have cI := Lib.hid (fun D1 l1 e1 D2 l2 e2 H wx hx h1 h2 => ifFactor_any D1 D2 l1 e1 l2 e2 H wx hx h1 h2)
  clear h hB0 hn1 hn2
  cases ho : (facOk 1000000000 F && decide (v ∈ F.vs))
  · have hK : okOut F v = false := by unfold okOut; rw [ho]; rfl
    have hT : outTo F v = ⟨[], []⟩ := by unfold outTo; rw [hK]; rfl
    rw [hK, hT]
    rw [ho] at cO
    clear ho hK hT
    go_enter Try.func49, Try.ntmps49
    go_wp2_with fail
    have hz0 : (w.alloc (.cells #[.slice A1 n1 c1, .slice A2 n2 c2] 36)).heap.size = w.heap.size + 1 := by simp
    have hr0 := Has.new (w.alloc (.cells #[.slice A1 n1 c1, .slice A2 n2 c2] 36)) 36 #[.slice none 0 0, .slice none 0 0]
    have hal0 : Below (w.alloc (.cells #[.slice A1 n1 c1, .slice A2 n2 c2] 36)).heap.size (w.alloc (.cells #[.slice A1 n1 c1, .slice A2 n2 c2] 36)) _ := (Below.refl _ _).alloc (Nat.le_refl _) (.cells #[.slice none 0 0, .slice none 0 0] 36)
    generalize w.alloc (.cells #[.slice A1 n1 c1, .slice A2 n2 c2] 36) = W0 at hbx hF0 hB0h hz0 hr0 hal0 ⊢
    rw [← hz0]
    generalize W0.alloc (.cells #[.slice none 0 0, .slice none 0 0] 36) = W1 at hr0 hal0 ⊢
    have hr := Lib.hid hr0
    have hB1 := Lib.hid hal0
    have hWW := hB0h.out.size
    clear hr0 hal0 hz0
    refine (cO.out _ (hF0.out.below hB1.out)).mono ?_
    rintro e w2 ⟨rfl, hb2⟩
    have hr2 := hr.out.kept hb2
    have hB2 := Lib.hid (hB1.out.trans (hb2.mono hB1.out.size))
    have cr := hr2.cell
    have fr := hr2.frozen
    clear hb2
    go_wp2_with fail
    refine bodyPost_ret (v := .tuple #[.agg #[.slice none 0 0, .slice none 0 0], .bool false]) (by simp [results, Try.results49, go_sem, cr]) rfl ⟨_, _, rfl, FcV.none_ _ _, ?_⟩
    exact ((hB0h.out.trans (hB2.out.mono hWW)).setCell (p := ⟨W0.heap.size, 0, none⟩) hWW _).setCell (p := ⟨W0.heap.size, 1, none⟩) hWW _
  · rw [ho] at cO
    have ho' := ho
    rw [Bool.and_eq_true] at ho'
    have hv := (fac_parts ho'.1).2.2.2.2 v (of_decide_eq_true ho'.2)
    have cS := Lib.hid (fun wx hx => summed_any A1 A2 n1 c1 n2 c2 F v 0 2 0 3 wx hx ho'.1 hv (by decide) rfl rfl)
    rw [fOut_all] at cS
    have hOk := Lib.hid ho
    clear ho ho'
    cases hf : facOk 1000000000 (fOut F v (-1))
    · have hK : okOut F v = false := by unfold okOut; rw [hf, Bool.and_false]
      have hT : outTo F v = ⟨[], []⟩ := by unfold outTo; rw [hK]; rfl
      rw [hK, hT]
      have hFf := Lib.hid hf
      clear hf hK hT
      go_enter Try.func49, Try.ntmps49
      go_wp2_with fail
      have hz0 : (w.alloc (.cells #[.slice A1 n1 c1, .slice A2 n2 c2] 36)).heap.size = w.heap.size + 1 := by simp
      have hr0 := Has.new (w.alloc (.cells #[.slice A1 n1 c1, .slice A2 n2 c2] 36)) 36 #[.slice none 0 0, .slice none 0 0]
      have hal0 : Below (w.alloc (.cells #[.slice A1 n1 c1, .slice A2 n2 c2] 36)).heap.size (w.alloc (.cells #[.slice A1 n1 c1, .slice A2 n2 c2] 36)) _ := (Below.refl _ _).alloc (Nat.le_refl _) (.cells #[.slice none 0 0, .slice none 0 0] 36)
      generalize w.alloc (.cells #[.slice A1 n1 c1, .slice A2 n2 c2] 36) = W0 at hbx hF0 hB0h hz0 hr0 hal0 ⊢
      rw [← hz0]
      generalize W0.alloc (.cells #[.slice none 0 0, .slice none 0 0] 36) = W1 at hr0 hal0 ⊢
      have hr := Lib.hid hr0
      have hB1 := Lib.hid hal0
      have hWW := hB0h.out.size
      clear hr0 hal0 hz0
      refine (cO.out _ (hF0.out.below hB1.out)).mono ?_
      rintro e w2 ⟨rfl, hb2⟩
      have hB2 := Lib.hid (hB1.out.trans (hb2.mono hB1.out.size))
      have hr2 := hr.out.kept hb2
      have cb := (hbx.out.kept hB2.out).cell
      have hF2 := Lib.hid (hF0.out.below hB2.out)
      clear hb2
      go_wp2_with fail
      refine (cS.out _ hF2.out).mono ?_
      rintro e w3 ⟨v1, v2, rfl, hV, hb3⟩
      obtain ⟨D1, e1, rfl, h5, h6⟩ := hV.1.form
      obtain ⟨D2, e2, rfl, h7, h8⟩ := hV.2.1.form
      have hB3 := Lib.hid (hB0h.out.trans ((hB2.out.trans (hb3.mono hB2.out.size)).mono hWW))
      have hr3 := hr2.kept hb3
      have hzz : w.heap.size ≤ w2.heap.size := Nat.le_trans hWW hB2.out.size
      have hI4 := cI.out D1 _ e1 D2 _ e2 _ _ hV.fac (by omega) (by omega)
      clear cb hb3
      go_wp2_with fail
      rw [hFf.out] at hI4
      rw [if_neg (by decide)] at hI4
      refine hI4.mono ?_
      rintro e w4 ⟨rfl, hb4⟩
      have hr4 := hr3.kept hb4
      have hB4 := Lib.hid (hB3.out.trans (hb4.mono hB3.out.size))
      have cr := hr4.cell
      have fr := hr4.frozen
      clear hb4
      go_wp2_with fail
      refine bodyPost_ret (v := .tuple #[.agg #[.slice none 0 0, .slice none 0 0], .bool false]) (by simp [results, Try.results49, go_sem, cr]) rfl ⟨_, _, rfl, FcV.none_ _ _, ?_⟩
      exact (hB4.out.setCell (p := ⟨W0.heap.size, 0, none⟩) hWW _).setCell (p := ⟨W0.heap.size, 1, none⟩) hWW _
    · have hK : okOut F v = true := by unfold okOut; rw [hf, hOk.out]; rfl
      have hT : outTo F v = fOut F v (-1) := by unfold outTo; rw [hK]; rfl
      rw [hK, hT]
      have hFf := Lib.hid hf
      clear hf hK hT
      go_enter Try.func49, Try.ntmps49
      go_wp2_with fail
      have hz0 : (w.alloc (.cells #[.slice A1 n1 c1, .slice A2 n2 c2] 36)).heap.size = w.heap.size + 1 := by simp
      have hr0 := Has.new (w.alloc (.cells #[.slice A1 n1 c1, .slice A2 n2 c2] 36)) 36 #[.slice none 0 0, .slice none 0 0]
      have hal0 : Below (w.alloc (.cells #[.slice A1 n1 c1, .slice A2 n2 c2] 36)).heap.size (w.alloc (.cells #[.slice A1 n1 c1, .slice A2 n2 c2] 36)) _ := (Below.refl _ _).alloc (Nat.le_refl _) (.cells #[.slice none 0 0, .slice none 0 0] 36)
      generalize w.alloc (.cells #[.slice A1 n1 c1, .slice A2 n2 c2] 36) = W0 at hbx hF0 hB0h hz0 hr0 hal0 ⊢
      rw [← hz0]
      generalize W0.alloc (.cells #[.slice none 0 0, .slice none 0 0] 36) = W1 at hr0 hal0 ⊢
      have hr := Lib.hid hr0
      have hB1 := Lib.hid hal0
      have hWW := hB0h.out.size
      clear hr0 hal0 hz0
      refine (cO.out _ (hF0.out.below hB1.out)).mono ?_
      rintro e w2 ⟨rfl, hb2⟩
      have hB2 := Lib.hid (hB1.out.trans (hb2.mono hB1.out.size))
      have hr2 := hr.out.kept hb2
      have cb := (hbx.out.kept hB2.out).cell
      have hF2 := Lib.hid (hF0.out.below hB2.out)
      clear hb2
      go_wp2_with fail
      refine (cS.out _ hF2.out).mono ?_
      rintro e w3 ⟨v1, v2, rfl, hV, hb3⟩
      obtain ⟨D1, e1, rfl, h5, h6⟩ := hV.1.form
      obtain ⟨D2, e2, rfl, h7, h8⟩ := hV.2.1.form
      have hB3 := Lib.hid (hB0h.out.trans ((hB2.out.trans (hb3.mono hB2.out.size)).mono hWW))
      have hr3 := hr2.kept hb3
      have hzz : w.heap.size ≤ w2.heap.size := Nat.le_trans hWW hB2.out.size
      have hI4 := cI.out D1 _ e1 D2 _ e2 _ _ hV.fac (by omega) (by omega)
      clear cb hb3
      go_wp2_with fail
      rw [hFf.out] at hI4
      rw [if_pos rfl] at hI4
      refine hI4.mono ?_
      rintro e w4 ⟨rfl, hb4⟩
      have hr4 := hr3.kept hb4
      have hB4 := Lib.hid (hB3.out.trans (hb4.mono hB3.out.size))
      have hV4 := Lib.hid (hV.below hb4)
      have cr := hr4.cell
      have fr := hr4.frozen
      have hp1 := (hr4.put 0 (.slice D1 (fOut F v (-1)).vs.length e1)).cell 0
      have hp2 := ((hr4.put 0 (.slice D1 (fOut F v (-1)).vs.length e1)).put 1 (.slice D2 (fOut F v (-1)).ns.length e2)).cell 1
      clear hb4 hV
      go_wp2_with fail
      refine bodyPost_ret (v := .tuple #[.agg #[.slice D1 (fOut F v (-1)).vs.length e1, .slice D2 (fOut F v (-1)).ns.length e2], .bool true]) (by simp [results, Try.results49, go_sem, hp1, hp2]) rfl ⟨_, _, rfl, ?_, ?_⟩
      · exact (hV4.out.le hzz).put2 hr4 _ _
      · exact (hB4.out.setCell (p := ⟨W0.heap.size, 0, none⟩) hWW _).setCell (p := ⟨W0.heap.size, 1, none⟩) hWW _
set_option maxHeartbeats 1000000 in
theorem SetIn_any (A1 A2 : Option Addr) (n1 c1 n2 c2 : Nat) (F : Fac) (v x : Int) (w : World) (h : FacW w w.heap.size A1 n1 A2 n2 F) (hn1 : n1 ≤ maxLen) (hn2 : n2 ≤ maxLen) :
    Calls Try.prog 51 #[.agg #[.slice A1 n1 c1, .slice A2 n2 c2], .int .i64 v, .int .i64 x] w (Fbd w (inTo F v x) (okIn F v x)) := by
  have hB0 : Below w.heap.size w (w.alloc (.cells #[.slice A1 n1 c1, .slice A2 n2 c2] 36)) := (Below.refl _ _).alloc (Nat.le_refl _) _
  have hbx := Lib.hid (Has.new w 36 #[.slice A1 n1 c1, .slice A2 n2 c2])
  have hF0 := Lib.hid (h.below hB0)
  have hB0h := Lib.hid hB0
  have cO := Lib.hid (fun wx hx => isOver_any A1 A2 n1 c1 n2 c2 F v wx hx hn1 hn2)
  have cV := Lib.hid (fun wx => valueOk_any x wx)
  clear h hB0 hn1 hn2
  cases ho : (facOk 1000000000 F && decide (v ∈ F.vs))
  · have hK : okIn F v x = false := by unfold okIn; rw [ho]; rfl
    have hT : inTo F v x = ⟨[], []⟩ := by unfold inTo; rw [hK]; rfl
    rw [hK, hT]
    rw [ho] at cO
    clear ho hK hT
    go_enter Try.func51, Try.ntmps51
    go_wp2_with fail
    have hz0 : (w.alloc (.cells #[.slice A1 n1 c1, .slice A2 n2 c2] 36)).heap.size = w.heap.size + 1 := by simp
    have hr0 := Has.new (w.alloc (.cells #[.slice A1 n1 c1, .slice A2 n2 c2] 36)) 36 #[.slice none 0 0, .slice none 0 0]
    have hal0 : Below (w.alloc (.cells #[.slice A1 n1 c1, .slice A2 n2 c2] 36)).heap.size (w.alloc (.cells #[.slice A1 n1 c1, .slice A2 n2 c2] 36)) _ := (Below.refl _ _).alloc (Nat.le_refl _) (.cells #[.slice none 0 0, .slice none 0 0] 36)
    generalize w.alloc (.cells #[.slice A1 n1 c1, .slice A2 n2 c2] 36) = W0 at hbx hF0 hB0h hz0 hr0 hal0 ⊢
    rw [← hz0]
    generalize W0.alloc (.cells #[.slice none 0 0, .slice none 0 0] 36) = W1 at hr0 hal0 ⊢
    have hr := Lib.hid hr0
    have hB1 := Lib.hid hal0
    have hWW := hB0h.out.size
    clear hr0 hal0 hz0
    refine (cO.out _ (hF0.out.below hB1.out)).mono ?_
    rintro e w2 ⟨rfl, hb2⟩
    have hr2 := hr.out.kept hb2
    have hB2 := Lib.hid (hB1.out.trans (hb2.mono hB1.out.size))
    have hF2 := Lib.hid (hF0.out.below hB2.out)
    have cb := (hbx.out.kept hB2.out).cell
    have cr := hr2.cell
    have fr := hr2.frozen
    clear hb2
    go_wp2_with fail
    refine bodyPost_ret (v := .tuple #[.agg #[.slice none 0 0, .slice none 0 0], .bool false]) (by simp [results, Try.results51, go_sem, cr]) rfl ⟨_, _, rfl, FcV.none_ _ _, ?_⟩
    exact ((hB0h.out.trans (hB2.out.mono hWW)).setCell (p := ⟨W0.heap.size, 0, none⟩) hWW _).setCell (p := ⟨W0.heap.size, 1, none⟩) hWW _
  · rw [ho] at cO
    have ho' := ho
    rw [Bool.and_eq_true] at ho'
    have hv := (fac_parts ho'.1).2.2.2.2 v (of_decide_eq_true ho'.2)
    have hOk := Lib.hid ho
    cases hx : inB x 0 2
    · have hK : okIn F v x = false := by unfold okIn; rw [hx, Bool.and_false]
      have hT : inTo F v x = ⟨[], []⟩ := by unfold inTo; rw [hK]; rfl
      rw [hK, hT]
      rw [hx] at cV
      clear hx hK hT ho ho'
      go_enter Try.func51, Try.ntmps51
      go_wp2_with fail
      have hz0 : (w.alloc (.cells #[.slice A1 n1 c1, .slice A2 n2 c2] 36)).heap.size = w.heap.size + 1 := by simp
      have hr0 := Has.new (w.alloc (.cells #[.slice A1 n1 c1, .slice A2 n2 c2] 36)) 36 #[.slice none 0 0, .slice none 0 0]
      have hal0 : Below (w.alloc (.cells #[.slice A1 n1 c1, .slice A2 n2 c2] 36)).heap.size (w.alloc (.cells #[.slice A1 n1 c1, .slice A2 n2 c2] 36)) _ := (Below.refl _ _).alloc (Nat.le_refl _) (.cells #[.slice none 0 0, .slice none 0 0] 36)
      generalize w.alloc (.cells #[.slice A1 n1 c1, .slice A2 n2 c2] 36) = W0 at hbx hF0 hB0h hz0 hr0 hal0 ⊢
      rw [← hz0]
      generalize W0.alloc (.cells #[.slice none 0 0, .slice none 0 0] 36) = W1 at hr0 hal0 ⊢
      have hr := Lib.hid hr0
      have hB1 := Lib.hid hal0
      have hWW := hB0h.out.size
      clear hr0 hal0 hz0
      refine (cO.out _ (hF0.out.below hB1.out)).mono ?_
      rintro e w2 ⟨rfl, hb2⟩
      have hr2 := hr.out.kept hb2
      have hB2 := Lib.hid (hB1.out.trans (hb2.mono hB1.out.size))
      have hF2 := Lib.hid (hF0.out.below hB2.out)
      have cb := (hbx.out.kept hB2.out).cell
      have cr := hr2.cell
      have fr := hr2.frozen
      clear hb2
      go_wp2_with fail
      refine (cV.out _).mono ?_
      rintro e w' ⟨rfl, rfl⟩
      go_wp2_with fail
      refine bodyPost_ret (v := .tuple #[.agg #[.slice none 0 0, .slice none 0 0], .bool false]) (by simp [results, Try.results51, go_sem, cr]) rfl ⟨_, _, rfl, FcV.none_ _ _, ?_⟩
      exact ((hB0h.out.trans (hB2.out.mono hWW)).setCell (p := ⟨W0.heap.size, 0, none⟩) hWW _).setCell (p := ⟨W0.heap.size, 1, none⟩) hWW _
    · have hK : okIn F v x = true := by unfold okIn; rw [hx, hOk.out]; rfl
      have hT : inTo F v x = fOut F v x := by unfold inTo; rw [hK]; rfl
      rw [hK, hT]
      rw [hx] at cV
      have hxb := inB_iff.1 hx
      obtain ⟨k, rfl, hk2⟩ : ∃ k : Nat, x = (k : Int) ∧ k ≤ 2 := ⟨x.toNat, by omega, by omega⟩
      have cS := Lib.hid (fun wx hx => summed_any A1 A2 n1 c1 n2 c2 F v k k k 1 wx hx ho'.1 hv (by omega) rfl (by omega))
      rw [fOut_one F v hk2] at cS
      clear hx hK hT ho ho' hxb
      go_enter Try.func51, Try.ntmps51
      go_wp2_with fail
      have hz0 : (w.alloc (.cells #[.slice A1 n1 c1, .slice A2 n2 c2] 36)).heap.size = w.heap.size + 1 := by simp
      have hr0 := Has.new (w.alloc (.cells #[.slice A1 n1 c1, .slice A2 n2 c2] 36)) 36 #[.slice none 0 0, .slice none 0 0]
      have hal0 : Below (w.alloc (.cells #[.slice A1 n1 c1, .slice A2 n2 c2] 36)).heap.size (w.alloc (.cells #[.slice A1 n1 c1, .slice A2 n2 c2] 36)) _ := (Below.refl _ _).alloc (Nat.le_refl _) (.cells #[.slice none 0 0, .slice none 0 0] 36)
      generalize w.alloc (.cells #[.slice A1 n1 c1, .slice A2 n2 c2] 36) = W0 at hbx hF0 hB0h hz0 hr0 hal0 ⊢
      rw [← hz0]
      generalize W0.alloc (.cells #[.slice none 0 0, .slice none 0 0] 36) = W1 at hr0 hal0 ⊢
      have hr := Lib.hid hr0
      have hB1 := Lib.hid hal0
      have hWW := hB0h.out.size
      clear hr0 hal0 hz0
      refine (cO.out _ (hF0.out.below hB1.out)).mono ?_
      rintro e w2 ⟨rfl, hb2⟩
      have hr2 := hr.out.kept hb2
      have hB2 := Lib.hid (hB1.out.trans (hb2.mono hB1.out.size))
      have hF2 := Lib.hid (hF0.out.below hB2.out)
      have cb := (hbx.out.kept hB2.out).cell
      have cr := hr2.cell
      have fr := hr2.frozen
      clear hb2
      go_wp2_with fail
      refine (cV.out _).mono ?_
      rintro e w' ⟨rfl, rfl⟩
      go_wp2_with fail
      clear cr fr
      refine (cS.out _ hF2.out).mono ?_
      rintro e w3 ⟨v1, v2, rfl, hV, hb3⟩
      obtain ⟨D1, e1, rfl, h5, h6⟩ := hV.1.form
      obtain ⟨D2, e2, rfl, h7, h8⟩ := hV.2.1.form
      have hB3 := Lib.hid (hB0h.out.trans ((hB2.out.trans (hb3.mono hB2.out.size)).mono hWW))
      have hr3 := hr2.kept hb3
      have hzz : w.heap.size ≤ w2.heap.size := Nat.le_trans hWW hB2.out.size
      have cr := hr3.cell
      have fr := hr3.frozen
      have hp1 := (hr3.put 0 (.slice D1 (fOut F v (k : Int)).vs.length e1)).cell 0
      have hp2 := ((hr3.put 0 (.slice D1 (fOut F v (k : Int)).vs.length e1)).put 1 (.slice D2 (fOut F v (k : Int)).ns.length e2)).cell 1
      clear cb hb3
      go_wp2_with fail
      refine bodyPost_ret (v := .tuple #[.agg #[.slice D1 (fOut F v (k : Int)).vs.length e1, .slice D2 (fOut F v (k : Int)).ns.length e2], .bool true]) (by simp [results, Try.results51, go_sem, hp1, hp2]) rfl ⟨_, _, rfl, ?_, ?_⟩
      · exact (hV.le hzz).put2 hr3 _ _
      · exact (hB3.out.setCell (p := ⟨W0.heap.size, 0, none⟩) hWW _).setCell (p := ⟨W0.heap.size, 1, none⟩) hWW _
end Go.Proofs.Ytaipdkfbkcknkaa
