/- Parts of the proof: Gc. -/
import Derived.Test.YtaipdkfbkcknkaaZAN
namespace Go.Proofs.Ytaipdkfbkcknkaa
set_option maxRecDepth 100000
set_option linter.unusedVariables false
open Go.RowKit
set_option maxHeartbeats 1000000 in
theorem specSumOut_any (A1 A2 : Option Addr) (n1 c1 n2 c2 : Nat) (F : Fac) (v : Int) (w : World) (h : FacW w w.heap.size A1 n1 A2 n2 F) (hn1 : n1 ≤ maxLen) (hn2 : n2 ≤ maxLen) :
    Calls Try.prog 50 #[.agg #[.slice A1 n1 c1, .slice A2 n2 c2], .int .i64 v] w (Fbd w (outTo F v) (okOut F v)) := by
  have hB0 : Below w.heap.size w (w.alloc (.cells #[.slice A1 n1 c1, .slice A2 n2 c2] 36)) := (Below.refl _ _).alloc (Nat.le_refl _) _
  have hbx := Lib.hid (Has.new w 36 #[.slice A1 n1 c1, .slice A2 n2 c2])
  have hF0 := Lib.hid (h.below hB0)
  have hB0h := Lib.hid hB0
  have cO := Lib.hid (fun wx hx => specFactorOk_any A1 A2 n1 c1 n2 c2 F wx hx hn1 hn2)
  have cV := Lib.hid (fun wx hx => l8Has_any A1 n1 c1 F.vs v wx hx hn1)
  clear h hB0 hn1 hn2
  cases ho : facOk 1000000000 F
  · have hK : okOut F v = false := by unfold okOut; rw [ho]; rfl
    have hT : outTo F v = ⟨[], []⟩ := by unfold outTo; rw [hK]; rfl
    rw [hK, hT]
    rw [ho] at cO
    clear ho hK hT
    go_enter Try.func50, Try.ntmps50
    go_wp2_with fail
    have hz0 : (w.alloc (.cells #[.slice A1 n1 c1, .slice A2 n2 c2] 36)).heap.size = w.heap.size + 1 := by simp
    have hr0 := Has.new (w.alloc (.cells #[.slice A1 n1 c1, .slice A2 n2 c2] 36)) 36 #[.slice none 0 0, .slice none 0 0]
    have hal0 : Below (w.alloc (.cells #[.slice A1 n1 c1, .slice A2 n2 c2] 36)).heap.size (w.alloc (.cells #[.slice A1 n1 c1, .slice A2 n2 c2] 36)) _ := (Below.refl _ _).alloc (Nat.le_refl _) (.cells #[.slice none 0 0, .slice none 0 0] 36)
    generalize w.alloc (.cells #[.slice A1 n1 c1, .slice A2 n2 c2] 36) = W0 at hbx hF0 hB0h hz0 hr0 hal0 ⊢
    rw [← hz0]
    generalize W0.alloc (.cells #[.slice none 0 0, .slice none 0 0] 36) = W1 at hr0 hal0 ⊢
    have hr := Lib.hid hr0
    have hB1 := Lib.hid hal0
    have hWW := hB0h.out.size
    clear hr0 hal0 hz0
    refine (cO.out _ (hF0.out.below hB1.out)).mono ?_
    rintro e w2 ⟨rfl, hb2⟩
    have hr2 := hr.out.kept hb2
    have hB2 := Lib.hid (hB1.out.trans (hb2.mono hB1.out.size))
    have hF2 := Lib.hid (hF0.out.below hB2.out)
    have cb := (hbx.out.kept hB2.out).cell
    have cr := hr2.cell
    have fr := hr2.frozen
    clear hb2
    go_wp2_with fail
    refine bodyPost_ret (v := .tuple #[.agg #[.slice none 0 0, .slice none 0 0], .bool false]) (by simp [results, Try.results50, go_sem, cr]) rfl ⟨_, _, rfl, FcV.none_ _ _, ?_⟩
    exact ((hB0h.out.trans (hB2.out.mono hWW)).setCell (p := ⟨W0.heap.size, 0, none⟩) hWW _).setCell (p := ⟨W0.heap.size, 1, none⟩) hWW _
  · rw [ho] at cO
    cases hd : decide (v ∈ F.vs)
    · have hK : okOut F v = false := by unfold okOut; rw [ho, hd]; rfl
      have hT : outTo F v = ⟨[], []⟩ := by unfold outTo; rw [hK]; rfl
      rw [hK, hT]
      rw [hd] at cV
      clear ho hd hK hT
      go_enter Try.func50, Try.ntmps50
      go_wp2_with fail
      have hz0 : (w.alloc (.cells #[.slice A1 n1 c1, .slice A2 n2 c2] 36)).heap.size = w.heap.size + 1 := by simp
      have hr0 := Has.new (w.alloc (.cells #[.slice A1 n1 c1, .slice A2 n2 c2] 36)) 36 #[.slice none 0 0, .slice none 0 0]
      have hal0 : Below (w.alloc (.cells #[.slice A1 n1 c1, .slice A2 n2 c2] 36)).heap.size (w.alloc (.cells #[.slice A1 n1 c1, .slice A2 n2 c2] 36)) _ := (Below.refl _ _).alloc (Nat.le_refl _) (.cells #[.slice none 0 0, .slice none 0 0] 36)
      generalize w.alloc (.cells #[.slice A1 n1 c1, .slice A2 n2 c2] 36) = W0 at hbx hF0 hB0h hz0 hr0 hal0 ⊢
      rw [← hz0]
      generalize W0.alloc (.cells #[.slice none 0 0, .slice none 0 0] 36) = W1 at hr0 hal0 ⊢
      have hr := Lib.hid hr0
      have hB1 := Lib.hid hal0
      have hWW := hB0h.out.size
      clear hr0 hal0 hz0
      refine (cO.out _ (hF0.out.below hB1.out)).mono ?_
      rintro e w2 ⟨rfl, hb2⟩
      have hr2 := hr.out.kept hb2
      have hB2 := Lib.hid (hB1.out.trans (hb2.mono hB1.out.size))
      have hF2 := Lib.hid (hF0.out.below hB2.out)
      have cb := (hbx.out.kept hB2.out).cell
      have cr := hr2.cell
      have fr := hr2.frozen
      clear hb2
      go_wp2_with fail
      refine (cV.out _ hF2.out.1).mono ?_
      rintro e w' ⟨rfl, rfl⟩
      go_wp2_with fail
      refine bodyPost_ret (v := .tuple #[.agg #[.slice none 0 0, .slice none 0 0], .bool false]) (by simp [results, Try.results50, go_sem, cr]) rfl ⟨_, _, rfl, FcV.none_ _ _, ?_⟩
      exact ((hB0h.out.trans (hB2.out.mono hWW)).setCell (p := ⟨W0.heap.size, 0, none⟩) hWW _).setCell (p := ⟨W0.heap.size, 1, none⟩) hWW _
    · rw [hd] at cV
      have hv := (fac_parts ho).2.2.2.2 v (of_decide_eq_true hd)
      have cS := Lib.hid (fun wx hx => l8Without_any A1 A2 n1 c1 n2 c2 F v (-1) wx hx ho hv)
      have cI := Lib.hid (fun D1 l1 e1 D2 l2 e2 base wx hU => l8Told_own D1 D2 l1 e1 l2 e2 base (fOut F v (-1)) wx hU)
      obtain ⟨b, hb⟩ : ∃ b, facOk 1000000000 (fOut F v (-1)) = b := ⟨_, rfl⟩
      have hK : okOut F v = b := by unfold okOut; rw [ho, hd, hb]; rfl
      have hT : (if b = true then fOut F v (-1) else (⟨[], []⟩ : Fac)) = outTo F v := by unfold outTo; rw [hK]
      rw [hb, hT] at cI
      rw [hK]
      generalize outTo F v = R at *
      clear ho hd hb hT hK
      go_enter Try.func50, Try.ntmps50
      go_wp2_with fail
      have hz0 : (w.alloc (.cells #[.slice A1 n1 c1, .slice A2 n2 c2] 36)).heap.size = w.heap.size + 1 := by simp
      have hr0 := Has.new (w.alloc (.cells #[.slice A1 n1 c1, .slice A2 n2 c2] 36)) 36 #[.slice none 0 0, .slice none 0 0]
      have hal0 : Below (w.alloc (.cells #[.slice A1 n1 c1, .slice A2 n2 c2] 36)).heap.size (w.alloc (.cells #[.slice A1 n1 c1, .slice A2 n2 c2] 36)) _ := (Below.refl _ _).alloc (Nat.le_refl _) (.cells #[.slice none 0 0, .slice none 0 0] 36)
      generalize w.alloc (.cells #[.slice A1 n1 c1, .slice A2 n2 c2] 36) = W0 at hbx hF0 hB0h hz0 hr0 hal0 ⊢
      rw [← hz0]
      generalize W0.alloc (.cells #[.slice none 0 0, .slice none 0 0] 36) = W1 at hr0 hal0 ⊢
      have hr := Lib.hid hr0
      have hB1 := Lib.hid hal0
      have hWW := hB0h.out.size
      clear hr0 hal0 hz0
      refine (cO.out _ (hF0.out.below hB1.out)).mono ?_
      rintro e w2 ⟨rfl, hb2⟩
      have hr2 := hr.out.kept hb2
      have hB2 := Lib.hid (hB1.out.trans (hb2.mono hB1.out.size))
      have hF2 := Lib.hid (hF0.out.below hB2.out)
      have cb := (hbx.out.kept hB2.out).cell
      have cr := hr2.cell
      have fr := hr2.frozen
      clear hb2
      go_wp2_with fail
      refine (cV.out _ hF2.out.1).mono ?_
      rintro e w' ⟨rfl, rfl⟩
      go_wp2_with fail
      clear cr fr
      refine (cS.out _ hF2.out).mono ?_
      rintro e w4 ⟨v1, v2, rfl, hV, hb4⟩
      obtain ⟨D1, e1, rfl, h5, h6⟩ := hV.1.form
      obtain ⟨D2, e2, rfl, h7, h8⟩ := hV.2.1.form
      have hB4 := Lib.hid (hB0h.out.trans ((hB2.out.trans (hb4.mono hB2.out.size)).mono hWW))
      have hr4 := Lib.hid (hr2.kept hb4)
      have hzz : w.heap.size ≤ w2.heap.size := Nat.le_trans hWW hB2.out.size
      clear cb hb4
      go_wp2_with fail
      refine (cI.out D1 _ e1 D2 _ e2 _ _ hV).mono ?_
      rintro e w5 ⟨u1, u2, rfl, hU, hb5⟩
      obtain ⟨U1, q1, rfl, _, _⟩ := hU.1.form
      obtain ⟨U2, q2, rfl, _, _⟩ := hU.2.1.form
      have hB5 := hB4.out.trans (hb5.mono hB4.out.size)
      have hr5 := hr4.out.kept hb5
      have cr := hr5.cell
      have fr := hr5.frozen
      have hp1 := (hr5.put 0 (.slice U1 R.vs.length q1)).cell 0
      have hp2 := ((hr5.put 0 (.slice U1 R.vs.length q1)).put 1 (.slice U2 R.ns.length q2)).cell 1
      clear hV hb5
      go_wp2_with fail
      refine bodyPost_ret (v := .tuple #[.agg #[.slice U1 R.vs.length q1, .slice U2 R.ns.length q2], .bool b]) (by simp [results, Try.results50, go_sem, hp1, hp2]) rfl ⟨_, _, rfl, ?_, ?_⟩
      · exact (hU.le hzz).put2 hr5 _ _
      · exact (hB5.setCell (p := ⟨W0.heap.size, 0, none⟩) hWW _).setCell (p := ⟨W0.heap.size, 1, none⟩) hWW _
set_option maxHeartbeats 1000000 in
theorem specSetIn_any (A1 A2 : Option Addr) (n1 c1 n2 c2 : Nat) (F : Fac) (v x : Int) (w : World) (h : FacW w w.heap.size A1 n1 A2 n2 F) (hn1 : n1 ≤ maxLen) (hn2 : n2 ≤ maxLen) :
    Calls Try.prog 52 #[.agg #[.slice A1 n1 c1, .slice A2 n2 c2], .int .i64 v, .int .i64 x] w (Fbd w (inTo F v x) (okIn F v x)) := by
  have hB0 : Below w.heap.size w (w.alloc (.cells #[.slice A1 n1 c1, .slice A2 n2 c2] 36)) := (Below.refl _ _).alloc (Nat.le_refl _) _
  have hbx := Lib.hid (Has.new w 36 #[.slice A1 n1 c1, .slice A2 n2 c2])
  have hF0 := Lib.hid (h.below hB0)
  have hB0h := Lib.hid hB0
  have cO := Lib.hid (fun wx hx => specFactorOk_any A1 A2 n1 c1 n2 c2 F wx hx hn1 hn2)
  have cV := Lib.hid (fun wx hx => l8Has_any A1 n1 c1 F.vs v wx hx hn1)
  have cX := Lib.hid (fun wx => l1In_any x 0 2 wx)
  clear h hB0 hn1 hn2
  cases ho : facOk 1000000000 F
  · have hK : okIn F v x = false := by unfold okIn; rw [ho]; rfl
    have hT : inTo F v x = ⟨[], []⟩ := by unfold inTo; rw [hK]; rfl
    rw [hK, hT]
    rw [ho] at cO
    clear ho hK hT
    go_enter Try.func52, Try.ntmps52
    go_wp2_with fail
    have hz0 : (w.alloc (.cells #[.slice A1 n1 c1, .slice A2 n2 c2] 36)).heap.size = w.heap.size + 1 := by simp
    have hr0 := Has.new (w.alloc (.cells #[.slice A1 n1 c1, .slice A2 n2 c2] 36)) 36 #[.slice none 0 0, .slice none 0 0]
    have hal0 : Below (w.alloc (.cells #[.slice A1 n1 c1, .slice A2 n2 c2] 36)).heap.size (w.alloc (.cells #[.slice A1 n1 c1, .slice A2 n2 c2] 36)) _ := (Below.refl _ _).alloc (Nat.le_refl _) (.cells #[.slice none 0 0, .slice none 0 0] 36)
    generalize w.alloc (.cells #[.slice A1 n1 c1, .slice A2 n2 c2] 36) = W0 at hbx hF0 hB0h hz0 hr0 hal0 ⊢
    rw [← hz0]
    generalize W0.alloc (.cells #[.slice none 0 0, .slice none 0 0] 36) = W1 at hr0 hal0 ⊢
    have hr := Lib.hid hr0
    have hB1 := Lib.hid hal0
    have hWW := hB0h.out.size
    clear hr0 hal0 hz0
    refine (cO.out _ (hF0.out.below hB1.out)).mono ?_
    rintro e w2 ⟨rfl, hb2⟩
    have hr2 := hr.out.kept hb2
    have hB2 := Lib.hid (hB1.out.trans (hb2.mono hB1.out.size))
    have hF2 := Lib.hid (hF0.out.below hB2.out)
    have cb := (hbx.out.kept hB2.out).cell
    have cr := hr2.cell
    have fr := hr2.frozen
    clear hb2
    go_wp2_with fail
    refine bodyPost_ret (v := .tuple #[.agg #[.slice none 0 0, .slice none 0 0], .bool false]) (by simp [results, Try.results52, go_sem, cr]) rfl ⟨_, _, rfl, FcV.none_ _ _, ?_⟩
    exact ((hB0h.out.trans (hB2.out.mono hWW)).setCell (p := ⟨W0.heap.size, 0, none⟩) hWW _).setCell (p := ⟨W0.heap.size, 1, none⟩) hWW _
  · rw [ho] at cO
    cases hd : decide (v ∈ F.vs)
    · have hK : okIn F v x = false := by unfold okIn; rw [ho, hd]; rfl
      have hT : inTo F v x = ⟨[], []⟩ := by unfold inTo; rw [hK]; rfl
      rw [hK, hT]
      rw [hd] at cV
      clear ho hd hK hT
      go_enter Try.func52, Try.ntmps52
      go_wp2_with fail
      have hz0 : (w.alloc (.cells #[.slice A1 n1 c1, .slice A2 n2 c2] 36)).heap.size = w.heap.size + 1 := by simp
      have hr0 := Has.new (w.alloc (.cells #[.slice A1 n1 c1, .slice A2 n2 c2] 36)) 36 #[.slice none 0 0, .slice none 0 0]
      have hal0 : Below (w.alloc (.cells #[.slice A1 n1 c1, .slice A2 n2 c2] 36)).heap.size (w.alloc (.cells #[.slice A1 n1 c1, .slice A2 n2 c2] 36)) _ := (Below.refl _ _).alloc (Nat.le_refl _) (.cells #[.slice none 0 0, .slice none 0 0] 36)
      generalize w.alloc (.cells #[.slice A1 n1 c1, .slice A2 n2 c2] 36) = W0 at hbx hF0 hB0h hz0 hr0 hal0 ⊢
      rw [← hz0]
      generalize W0.alloc (.cells #[.slice none 0 0, .slice none 0 0] 36) = W1 at hr0 hal0 ⊢
      have hr := Lib.hid hr0
      have hB1 := Lib.hid hal0
      have hWW := hB0h.out.size
      clear hr0 hal0 hz0
      refine (cO.out _ (hF0.out.below hB1.out)).mono ?_
      rintro e w2 ⟨rfl, hb2⟩
      have hr2 := hr.out.kept hb2
      have hB2 := Lib.hid (hB1.out.trans (hb2.mono hB1.out.size))
      have hF2 := Lib.hid (hF0.out.below hB2.out)
      have cb := (hbx.out.kept hB2.out).cell
      have cr := hr2.cell
      have fr := hr2.frozen
      clear hb2
      go_wp2_with fail
      refine (cV.out _ hF2.out.1).mono ?_
      rintro e w' ⟨rfl, rfl⟩
      go_wp2_with fail
      refine bodyPost_ret (v := .tuple #[.agg #[.slice none 0 0, .slice none 0 0], .bool false]) (by simp [results, Try.results52, go_sem, cr]) rfl ⟨_, _, rfl, FcV.none_ _ _, ?_⟩
      exact ((hB0h.out.trans (hB2.out.mono hWW)).setCell (p := ⟨W0.heap.size, 0, none⟩) hWW _).setCell (p := ⟨W0.heap.size, 1, none⟩) hWW _
    · rw [hd] at cV
      have hv := (fac_parts ho).2.2.2.2 v (of_decide_eq_true hd)
      cases hx : inB x 0 2
      · have hK : okIn F v x = false := by unfold okIn; rw [hx, Bool.and_false]
        have hT : inTo F v x = ⟨[], []⟩ := by unfold inTo; rw [hK]; rfl
        rw [hK, hT]
        rw [hx] at cX
        clear ho hd hK hT hx
        go_enter Try.func52, Try.ntmps52
        go_wp2_with fail
        have hz0 : (w.alloc (.cells #[.slice A1 n1 c1, .slice A2 n2 c2] 36)).heap.size = w.heap.size + 1 := by simp
        have hr0 := Has.new (w.alloc (.cells #[.slice A1 n1 c1, .slice A2 n2 c2] 36)) 36 #[.slice none 0 0, .slice none 0 0]
        have hal0 : Below (w.alloc (.cells #[.slice A1 n1 c1, .slice A2 n2 c2] 36)).heap.size (w.alloc (.cells #[.slice A1 n1 c1, .slice A2 n2 c2] 36)) _ := (Below.refl _ _).alloc (Nat.le_refl _) (.cells #[.slice none 0 0, .slice none 0 0] 36)
        generalize w.alloc (.cells #[.slice A1 n1 c1, .slice A2 n2 c2] 36) = W0 at hbx hF0 hB0h hz0 hr0 hal0 ⊢
        rw [← hz0]
        generalize W0.alloc (.cells #[.slice none 0 0, .slice none 0 0] 36) = W1 at hr0 hal0 ⊢
        have hr := Lib.hid hr0
        have hB1 := Lib.hid hal0
        have hWW := hB0h.out.size
        clear hr0 hal0 hz0
        refine (cO.out _ (hF0.out.below hB1.out)).mono ?_
        rintro e w2 ⟨rfl, hb2⟩
        have hr2 := hr.out.kept hb2
        have hB2 := Lib.hid (hB1.out.trans (hb2.mono hB1.out.size))
        have hF2 := Lib.hid (hF0.out.below hB2.out)
        have cb := (hbx.out.kept hB2.out).cell
        have cr := hr2.cell
        have fr := hr2.frozen
        clear hb2
        go_wp2_with fail
        refine (cV.out _ hF2.out.1).mono ?_
        rintro e w' ⟨rfl, rfl⟩
        go_wp2_with fail
        refine (cX.out _).mono ?_
        rintro e w' ⟨rfl, rfl⟩
        go_wp2_with fail
        refine bodyPost_ret (v := .tuple #[.agg #[.slice none 0 0, .slice none 0 0], .bool false]) (by simp [results, Try.results52, go_sem, cr]) rfl ⟨_, _, rfl, FcV.none_ _ _, ?_⟩
        exact ((hB0h.out.trans (hB2.out.mono hWW)).setCell (p := ⟨W0.heap.size, 0, none⟩) hWW _).setCell (p := ⟨W0.heap.size, 1, none⟩) hWW _
      · have cS := Lib.hid (fun wx hx => l8Without_any A1 A2 n1 c1 n2 c2 F v x wx hx ho hv)
        have hK : okIn F v x = true := by unfold okIn; rw [ho, hd, hx]; rfl
        have hT : inTo F v x = fOut F v x := by unfold inTo; rw [hK]; rfl
        rw [hK, hT]
        rw [hx] at cX
        generalize fOut F v x = R at *
        clear ho hd hT hK hx
        go_enter Try.func52, Try.ntmps52
        go_wp2_with fail
        have hz0 : (w.alloc (.cells #[.slice A1 n1 c1, .slice A2 n2 c2] 36)).heap.size = w.heap.size + 1 := by simp
        have hr0 := Has.new (w.alloc (.cells #[.slice A1 n1 c1, .slice A2 n2 c2] 36)) 36 #[.slice none 0 0, .slice none 0 0]
        have hal0 : Below (w.alloc (.cells #[.slice A1 n1 c1, .slice A2 n2 c2] 36)).heap.size (w.alloc (.cells #[.slice A1 n1 c1, .slice A2 n2 c2] 36)) _ := (Below.refl _ _).alloc (Nat.le_refl _) (.cells #[.slice none 0 0, .slice none 0 0] 36)
        generalize w.alloc (.cells #[.slice A1 n1 c1, .slice A2 n2 c2] 36) = W0 at hbx hF0 hB0h hz0 hr0 hal0 ⊢
        rw [← hz0]
        generalize W0.alloc (.cells #[.slice none 0 0, .slice none 0 0] 36) = W1 at hr0 hal0 ⊢
        have hr := Lib.hid hr0
        have hB1 := Lib.hid hal0
        have hWW := hB0h.out.size
        clear hr0 hal0 hz0
        refine (cO.out _ (hF0.out.below hB1.out)).mono ?_
        rintro e w2 ⟨rfl, hb2⟩
        have hr2 := hr.out.kept hb2
        have hB2 := Lib.hid (hB1.out.trans (hb2.mono hB1.out.size))
        have hF2 := Lib.hid (hF0.out.below hB2.out)
        have cb := (hbx.out.kept hB2.out).cell
        have cr := hr2.cell
        have fr := hr2.frozen
        clear hb2
        go_wp2_with fail
        refine (cV.out _ hF2.out.1).mono ?_
        rintro e w' ⟨rfl, rfl⟩
        go_wp2_with fail
        refine (cX.out _).mono ?_
        rintro e w' ⟨rfl, rfl⟩
        go_wp2_with fail
        clear cr fr
        refine (cS.out _ hF2.out).mono ?_
        rintro e w4 ⟨v1, v2, rfl, hV, hb4⟩
        obtain ⟨D1, e1, rfl, h5, h6⟩ := hV.1.form
        obtain ⟨D2, e2, rfl, h7, h8⟩ := hV.2.1.form
        have hB4 := hB0h.out.trans ((hB2.out.trans (hb4.mono hB2.out.size)).mono hWW)
        have hr4 := hr2.kept hb4
        have hzz : w.heap.size ≤ w2.heap.size := Nat.le_trans hWW hB2.out.size
        have cr := hr4.cell
        have fr := hr4.frozen
        have hp1 := (hr4.put 0 (.slice D1 R.vs.length e1)).cell 0
        have hp2 := ((hr4.put 0 (.slice D1 R.vs.length e1)).put 1 (.slice D2 R.ns.length e2)).cell 1
        clear cb hb4
        go_wp2_with fail
        refine bodyPost_ret (v := .tuple #[.agg #[.slice D1 R.vs.length e1, .slice D2 R.ns.length e2], .bool true]) (by simp [results, Try.results52, go_sem, hp1, hp2]) rfl ⟨_, _, rfl, ?_, ?_⟩
        · exact (hV.le hzz).put2 hr4 _ _
        · exact (hB4.setCell (p := ⟨W0.heap.size, 0, none⟩) hWW _).setCell (p := ⟨W0.heap.size, 1, none⟩) hWW _
end Go.Proofs.Ytaipdkfbkcknkaa
