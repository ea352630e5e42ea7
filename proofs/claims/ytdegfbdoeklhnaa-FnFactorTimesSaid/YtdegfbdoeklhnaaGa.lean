/- Factors: the model's FactorTimes. -/
import Derived.Test.YtdegfbdoeklhnaaFY
namespace Go.Proofs.Ytdegfbdoeklhnaa
set_option maxRecDepth 100000
set_option linter.unusedVariables false
open Go.RowKit

theorem l8Told_own (D1 D2 : Option Addr) (l1 e1 l2 e2 base : Nat) (X : Fac) (w : World) (h : FcV w base (.slice D1 l1 e1) (.slice D2 l2 e2) X) :
    Calls Try.prog 65 #[.agg #[.slice D1 l1 e1, .slice D2 l2 e2]] w fun e w' => ∃ u1 u2, e = .returned (.tuple #[.agg #[u1, u2], .bool (facOk 1000000000 X)]) ∧ FcV w' base u1 u2 (if facOk 1000000000 X = true then X else ⟨[], []⟩) ∧ Below w.heap.size w w' := by
  obtain ⟨A1, c1, h1, h2, h3⟩ := h.1.form
  obtain ⟨A2, c2, h4, h5, h6⟩ := h.2.1.form
  injection h1 with _ h1 _
  injection h4 with _ h4 _
  refine (l8Told_any D1 D2 l1 e1 l2 e2 X w h.fac (by omega) (by omega)).mono ?_
  rintro e w' ⟨rfl, hb⟩
  cases hk : facOk 1000000000 X
  · rw [if_neg (by decide), if_neg (by decide)]
    exact ⟨_, _, rfl, FcV.none_ _ _, hb⟩
  · rw [if_pos rfl, if_pos rfl]
    exact ⟨_, _, rfl, h.below hb, hb⟩
set_option maxHeartbeats 2000000 in
theorem specFactorTimes_any (A1 A2 B1 B2 : Option Addr) (n1 c1 n2 c2 m1 k1 m2 k2 : Nat) (F H : Fac) (w : World) (h : FacW w w.heap.size A1 n1 A2 n2 F) (g : FacW w w.heap.size B1 m1 B2 m2 H) (hn1 : n1 ≤ maxLen) (hn2 : n2 ≤ maxLen) (hm1 : m1 ≤ maxLen) (hm2 : m2 ≤ maxLen) :
    Calls Try.prog 22 #[.agg #[.slice A1 n1 c1, .slice A2 n2 c2], .agg #[.slice B1 m1 k1, .slice B2 m2 k2]] w (Fbd w (timesTo F H) (okTimes F H)) := by
  have hB0 : Below w.heap.size w ((w.alloc (.cells #[.slice A1 n1 c1, .slice A2 n2 c2] 27)).alloc (.cells #[.slice B1 m1 k1, .slice B2 m2 k2] 27)) := ((Below.refl _ _).alloc (Nat.le_refl _) _).alloc (by simp) _
  have hf := Lib.hid ((Has.new w 27 #[.slice A1 n1 c1, .slice A2 n2 c2]).alloc (.cells #[.slice B1 m1 k1, .slice B2 m2 k2] 27))
  have hg := Lib.hid (Has.newAt (w := w.alloc (.cells #[.slice A1 n1 c1, .slice A2 n2 c2] 27)) (n := w.heap.size + 1) (t := 27) (cs := #[.slice B1 m1 k1, .slice B2 m2 k2]) (by simp))
  have hF0 := Lib.hid (h.below hB0)
  have hG0 := Lib.hid (g.below hB0)
  have hB0h := Lib.hid hB0
  have cO := Lib.hid (fun wx hx => specFactorOk_any A1 A2 n1 c1 n2 c2 F wx hx hn1 hn2)
  have cP := Lib.hid (fun wx hx => specFactorOk_any B1 B2 m1 k1 m2 k2 H wx hx hm1 hm2)
  clear h g hB0
  cases ho : facOk 1000000000 F
  · have hK : okTimes F H = false := by unfold okTimes; rw [ho]; rfl
    have hT : timesTo F H = ⟨[], []⟩ := by unfold timesTo; rw [hK]; rfl
    rw [hK, hT]
    rw [ho] at cO
    clear hK hT ho
    go_enter Try.func22, Try.ntmps22
    go_wp2_with fail
    have hz0 : ((w.alloc (.cells #[.slice A1 n1 c1, .slice A2 n2 c2] 27)).alloc (.cells #[.slice B1 m1 k1, .slice B2 m2 k2] 27)).heap.size = w.heap.size + 1 + 1 := by simp
    generalize (w.alloc (.cells #[.slice A1 n1 c1, .slice A2 n2 c2] 27)).alloc (.cells #[.slice B1 m1 k1, .slice B2 m2 k2] 27) = W0 at hf hg hF0 hG0 hB0h hz0 ⊢
    have hr0 := Has.new W0 27 #[.slice none 0 0, .slice none 0 0]
    have hal0 : Below W0.heap.size W0 _ := (Below.refl _ _).alloc (Nat.le_refl _) (.cells #[.slice none 0 0, .slice none 0 0] 27)
    generalize W0.alloc (.cells #[.slice none 0 0, .slice none 0 0] 27) = W1 at hr0 hal0 ⊢
    rw [← hz0]
    have hr := Lib.hid hr0
    have hB1 := Lib.hid hal0
    have hWW := hB0h.out.size
    clear hr0 hal0 hz0
    refine (cO.out _ (hF0.out.below hB1.out)).mono ?_
    rintro e w2 ⟨rfl, hb2⟩
    have hr2 := hr.out.kept hb2
    have hBN := Lib.hid (hB1.out.trans (hb2.mono hB1.out.size))
    have cr := hr2.cell
    have fr := hr2.frozen
    clear hb2
    go_wp2_with fail
    refine bodyPost_ret (v := .tuple #[.agg #[.slice none 0 0, .slice none 0 0], .bool false]) (by simp [results, Try.results22, go_sem, cr]) rfl ⟨_, _, rfl, FcV.none_ _ _, ?_⟩
    exact ((hB0h.out.trans (hBN.out.mono hWW)).setCell (p := ⟨W0.heap.size, 0, none⟩) hWW _).setCell (p := ⟨W0.heap.size, 1, none⟩) hWW _
  · rw [ho] at cO
    cases hp : facOk 1000000000 H
    · have hK : okTimes F H = false := by unfold okTimes; rw [hp, Bool.and_false]; rfl
      have hT : timesTo F H = ⟨[], []⟩ := by unfold timesTo; rw [hK]; rfl
      rw [hK, hT]
      rw [hp] at cP
      clear hK hT ho hp
      go_enter Try.func22, Try.ntmps22
      go_wp2_with fail
      have hz0 : ((w.alloc (.cells #[.slice A1 n1 c1, .slice A2 n2 c2] 27)).alloc (.cells #[.slice B1 m1 k1, .slice B2 m2 k2] 27)).heap.size = w.heap.size + 1 + 1 := by simp
      generalize (w.alloc (.cells #[.slice A1 n1 c1, .slice A2 n2 c2] 27)).alloc (.cells #[.slice B1 m1 k1, .slice B2 m2 k2] 27) = W0 at hf hg hF0 hG0 hB0h hz0 ⊢
      have hr0 := Has.new W0 27 #[.slice none 0 0, .slice none 0 0]
      have hal0 : Below W0.heap.size W0 _ := (Below.refl _ _).alloc (Nat.le_refl _) (.cells #[.slice none 0 0, .slice none 0 0] 27)
      generalize W0.alloc (.cells #[.slice none 0 0, .slice none 0 0] 27) = W1 at hr0 hal0 ⊢
      rw [← hz0]
      have hr := Lib.hid hr0
      have hB1 := Lib.hid hal0
      have hWW := hB0h.out.size
      clear hr0 hal0 hz0
      refine (cO.out _ (hF0.out.below hB1.out)).mono ?_
      rintro e w2 ⟨rfl, hb2⟩
      have hr2 := hr.out.kept hb2
      have hB2 := Lib.hid (hB1.out.trans (hb2.mono hB1.out.size))
      have cb := (hg.out.kept hB2.out).cell
      clear hb2
      go_wp2_with fail
      refine (cP.out _ (hG0.out.below hB2.out)).mono ?_
      rintro e w3 ⟨rfl, hb3⟩
      have hr3 := hr2.kept hb3
      have hBN := Lib.hid (hB2.out.trans (hb3.mono hB2.out.size))
      have cr := hr3.cell
      have fr := hr3.frozen
      clear hb3 cb
      go_wp2_with fail
      refine bodyPost_ret (v := .tuple #[.agg #[.slice none 0 0, .slice none 0 0], .bool false]) (by simp [results, Try.results22, go_sem, cr]) rfl ⟨_, _, rfl, FcV.none_ _ _, ?_⟩
      exact ((hB0h.out.trans (hBN.out.mono hWW)).setCell (p := ⟨W0.heap.size, 0, none⟩) hWW _).setCell (p := ⟨W0.heap.size, 1, none⟩) hWW _
    · rw [hp] at cP
      have cT := Lib.hid (fun wx hx hy => l8Times_any A1 A2 B1 B2 n1 c1 n2 c2 m1 k1 m2 k2 F H wx hx hy ho hp)
      have cI := Lib.hid (fun D1 l1 e1 D2 l2 e2 base wx hU => l8Told_own D1 D2 l1 e1 l2 e2 base (fTimes F H) wx hU)
      obtain ⟨b, hb⟩ : ∃ b, facOk 1000000000 (fTimes F H) = b := ⟨_, rfl⟩
      have hK : okTimes F H = b := by unfold okTimes; rw [ho, hp, hb]; rfl
      have hT : (if b = true then fTimes F H else (⟨[], []⟩ : Fac)) = timesTo F H := by unfold timesTo; rw [hK]
      rw [hb, hT] at cI
      rw [hK]
      generalize timesTo F H = R at *
      clear ho hp hb hT hK
      go_enter Try.func22, Try.ntmps22
      go_wp2_with fail
      have hz0 : ((w.alloc (.cells #[.slice A1 n1 c1, .slice A2 n2 c2] 27)).alloc (.cells #[.slice B1 m1 k1, .slice B2 m2 k2] 27)).heap.size = w.heap.size + 1 + 1 := by simp
      generalize (w.alloc (.cells #[.slice A1 n1 c1, .slice A2 n2 c2] 27)).alloc (.cells #[.slice B1 m1 k1, .slice B2 m2 k2] 27) = W0 at hf hg hF0 hG0 hB0h hz0 ⊢
      have hr0 := Has.new W0 27 #[.slice none 0 0, .slice none 0 0]
      have hal0 : Below W0.heap.size W0 _ := (Below.refl _ _).alloc (Nat.le_refl _) (.cells #[.slice none 0 0, .slice none 0 0] 27)
      generalize W0.alloc (.cells #[.slice none 0 0, .slice none 0 0] 27) = W1 at hr0 hal0 ⊢
      rw [← hz0]
      have hr := Lib.hid hr0
      have hB1 := Lib.hid hal0
      have hWW := hB0h.out.size
      clear hr0 hal0 hz0
      refine (cO.out _ (hF0.out.below hB1.out)).mono ?_
      rintro e w2 ⟨rfl, hb2⟩
      have hr2 := hr.out.kept hb2
      have hB2 := Lib.hid (hB1.out.trans (hb2.mono hB1.out.size))
      have cb := (hg.out.kept hB2.out).cell
      clear hb2
      go_wp2_with fail
      refine (cP.out _ (hG0.out.below hB2.out)).mono ?_
      rintro e w3 ⟨rfl, hb3⟩
      have hr3 := Lib.hid (hr2.kept hb3)
      have hB3 := Lib.hid (hB2.out.trans (hb3.mono hB2.out.size))
      have hF3 := Lib.hid (hF0.out.below hB3.out)
      have hG3 := Lib.hid (hG0.out.below hB3.out)
      have ca := (hf.out.kept hB3.out).cell
      have cb3 := (hg.out.kept hB3.out).cell
      clear hb3 cb
      go_wp2_with fail
      refine (cT.out _ hF3.out hG3.out).mono ?_
      rintro e w4 ⟨v1, v2, rfl, hV, hb4⟩
      obtain ⟨D1, e1, rfl, h5, h6⟩ := hV.1.form
      obtain ⟨D2, e2, rfl, h7, h8⟩ := hV.2.1.form
      have hB4 := Lib.hid (hB0h.out.trans ((hB3.out.trans (hb4.mono hB3.out.size)).mono hWW))
      have hr4 := Lib.hid (hr3.out.kept hb4)
      have hzz : w.heap.size ≤ w3.heap.size := Nat.le_trans hWW hB3.out.size
      clear ca cb3 hb4
      go_wp2_with fail
      refine (cI.out D1 _ e1 D2 _ e2 _ _ hV).mono ?_
      rintro e w5 ⟨u1, u2, rfl, hU, hb5⟩
      obtain ⟨U1, q1, rfl, _, _⟩ := hU.1.form
      obtain ⟨U2, q2, rfl, _, _⟩ := hU.2.1.form
      have hB5 := hB4.out.trans (hb5.mono hB4.out.size)
      have hr5 := hr4.out.kept hb5
      have cr := hr5.cell
      have fr := hr5.frozen
      have hp1 := (hr5.put 0 (.slice U1 R.vs.length q1)).cell 0
      have hp2 := ((hr5.put 0 (.slice U1 R.vs.length q1)).put 1 (.slice U2 R.ns.length q2)).cell 1
      clear hV hb5
      go_wp2_with fail
      refine bodyPost_ret (v := .tuple #[.agg #[.slice U1 R.vs.length q1, .slice U2 R.ns.length q2], .bool b]) (by simp [results, Try.results22, go_sem, hp1, hp2]) rfl ⟨_, _, rfl, ?_, ?_⟩
      · exact (hU.le hzz).put2 hr5 _ _
      · exact (hB5.setCell (p := ⟨W0.heap.size, 0, none⟩) hWW _).setCell (p := ⟨W0.heap.size, 1, none⟩) hWW _
end Go.Proofs.Ytdegfbdoeklhnaa
