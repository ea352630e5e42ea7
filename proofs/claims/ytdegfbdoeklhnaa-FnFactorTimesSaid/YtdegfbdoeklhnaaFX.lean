/- Factors: the program's FactorTimes. -/
import Derived.Test.YtdegfbdoeklhnaaFU
import Derived.Test.YtdegfbdoeklhnaaRa
namespace Go.Proofs.Ytdegfbdoeklhnaa
set_option maxRecDepth 100000
set_option linter.unusedVariables false
open Go.RowKit

def okTimes (F H : Fac) : Bool := (facOk 1000000000 F && facOk 1000000000 H) && facOk 1000000000 (fTimes F H)
def timesTo (F H : Fac) : Fac := if okTimes F H = true then fTimes F H else ⟨[], []⟩
theorem fTimes_len {M N : Int} {F H : Fac} (h : facOk M F = true) (h2 : facOk N H = true) : (fTimes F H).vs.length ≤ 4 ∧ (fTimes F H).ns.length ≤ 81 := by
  obtain ⟨L, hL, hS, _⟩ := fac_set h
  obtain ⟨L2, hL2, hS2, _⟩ := fac_set h2
  have hb := bor_bd (a := setOf F.vs) (b := setOf H.vs) (by rw [hS]; omega) (by rw [hS2]; omega)
  have h1 := over_len hb
  refine ⟨h1, ?_⟩
  unfold fTimes
  rw [facBy_len]
  exact pow_four h1
theorem timesTo_len (F H : Fac) : (timesTo F H).vs.length ≤ 4 ∧ (timesTo F H).ns.length ≤ 81 := by
  unfold timesTo
  split
  · rename_i h
    unfold okTimes at h
    rw [Bool.and_eq_true, Bool.and_eq_true] at h
    exact fTimes_len h.1.1 h.1.2
  · exact ⟨by decide, by decide⟩
theorem ifFactor_own (D1 D2 : Option Addr) (l1 e1 l2 e2 base : Nat) (X : Fac) (w : World) (h : FcV w base (.slice D1 l1 e1) (.slice D2 l2 e2) X) :
    Calls Try.prog 67 #[.agg #[.slice D1 l1 e1, .slice D2 l2 e2]] w fun e w' => ∃ u1 u2, e = .returned (.tuple #[.agg #[u1, u2], .bool (facOk 1000000000 X)]) ∧ FcV w' base u1 u2 (if facOk 1000000000 X = true then X else ⟨[], []⟩) ∧ Below w.heap.size w w' := by
  obtain ⟨A1, c1, h1, h2, h3⟩ := h.1.form
  obtain ⟨A2, c2, h4, h5, h6⟩ := h.2.1.form
  injection h1 with _ h1 _
  injection h4 with _ h4 _
  refine (ifFactor_any D1 D2 l1 e1 l2 e2 X w h.fac (by omega) (by omega)).mono ?_
  rintro e w' ⟨rfl, hb⟩
  cases hk : facOk 1000000000 X
  · rw [if_neg (by decide), if_neg (by decide)]
    exact ⟨_, _, rfl, FcV.none_ _ _, hb⟩
  · rw [if_pos rfl, if_pos rfl]
    exact ⟨_, _, rfl, h.below hb, hb⟩
theorem two_list {w : World} {g n1 c1 n2 c2 m1 d1 m2 d2 : Nat} {A1 A2 B1 B2 : Option Addr} {F H : Fac} (hF : FacW w w.heap.size A1 n1 A2 n2 F) (hH : FacW w w.heap.size B1 m1 B2 m2 H) (hg : Has w g 27 #[.slice A1 n1 c1, .slice A2 n2 c2, .slice B1 m1 d1, .slice B2 m2 d2]) :
    FLst w w.heap.size (some ⟨g, 0, none⟩) 2 [F, H] := ⟨rfl, fun _ => ⟨g, 0, rfl, hg.lt, fun k X hk => by
  have hk2 : k < 2 := (List.getElem?_eq_some_iff.1 hk).1
  obtain rfl | rfl : k = 0 ∨ k = 1 := by omega
  · injection hk with hk
    subst hk
    exact ⟨A1, n1, c1, A2, n2, c2, hg.cell 0, hg.cell 1, hF⟩
  · injection hk with hk
    subst hk
    exact ⟨B1, m1, d1, B2, m2, d2, hg.cell 2, hg.cell 3, hH⟩⟩⟩
set_option maxHeartbeats 2000000 in
theorem FactorTimes_any (A1 A2 B1 B2 : Option Addr) (n1 c1 n2 c2 m1 k1 m2 k2 : Nat) (F H : Fac) (w : World) (h : FacW w w.heap.size A1 n1 A2 n2 F) (g : FacW w w.heap.size B1 m1 B2 m2 H) (hn1 : n1 ≤ maxLen) (hn2 : n2 ≤ maxLen) (hm1 : m1 ≤ maxLen) (hm2 : m2 ≤ maxLen) :
    Calls Try.prog 23 #[.agg #[.slice A1 n1 c1, .slice A2 n2 c2], .agg #[.slice B1 m1 k1, .slice B2 m2 k2]] w (Fbd w (timesTo F H) (okTimes F H)) := by
  have hB0 : Below w.heap.size w ((w.alloc (.cells #[.slice A1 n1 c1, .slice A2 n2 c2] 27)).alloc (.cells #[.slice B1 m1 k1, .slice B2 m2 k2] 27)) := ((Below.refl _ _).alloc (Nat.le_refl _) _).alloc (by simp) _
  have hf := Lib.hid ((Has.new w 27 #[.slice A1 n1 c1, .slice A2 n2 c2]).alloc (.cells #[.slice B1 m1 k1, .slice B2 m2 k2] 27))
  have hg := Lib.hid (Has.newAt (w := w.alloc (.cells #[.slice A1 n1 c1, .slice A2 n2 c2] 27)) (n := w.heap.size + 1) (t := 27) (cs := #[.slice B1 m1 k1, .slice B2 m2 k2]) (by simp))
  have hF0 := Lib.hid (h.below hB0)
  have hG0 := Lib.hid (g.below hB0)
  have hB0h := Lib.hid hB0
  have cO := Lib.hid (fun wx hx => FactorOk_any A1 A2 n1 c1 n2 c2 F wx hx hn1 hn2)
  have cP := Lib.hid (fun wx hx => FactorOk_any B1 B2 m1 k1 m2 k2 H wx hx hm1 hm2)
  have cI := Lib.hid (fun D1 l1 e1 D2 l2 e2 H wx hx h1 h2 => ifFactor_any D1 D2 l1 e1 l2 e2 H wx hx h1 h2)
  clear h g hB0
  cases ho : facOk 1000000000 F
  · have hK : okTimes F H = false := by unfold okTimes; rw [ho]; rfl
    have hT : timesTo F H = ⟨[], []⟩ := by unfold timesTo; rw [hK]; rfl
    rw [hK, hT]
    rw [ho] at cO
    clear hK hT ho
    go_enter Try.func23, Try.ntmps23
    go_wp2_with fail
    have hz0 : ((w.alloc (.cells #[.slice A1 n1 c1, .slice A2 n2 c2] 27)).alloc (.cells #[.slice B1 m1 k1, .slice B2 m2 k2] 27)).heap.size = w.heap.size + 1 + 1 := by simp
    generalize (w.alloc (.cells #[.slice A1 n1 c1, .slice A2 n2 c2] 27)).alloc (.cells #[.slice B1 m1 k1, .slice B2 m2 k2] 27) = W0 at hf hg hF0 hG0 hB0h hz0 ⊢
    have hr0 := Has.new W0 27 #[.slice none 0 0, .slice none 0 0]
    have hal0 : Below W0.heap.size W0 _ := (Below.refl _ _).alloc (Nat.le_refl _) (.cells #[.slice none 0 0, .slice none 0 0] 27)
    generalize W0.alloc (.cells #[.slice none 0 0, .slice none 0 0] 27) = W1 at hr0 hal0 ⊢
    rw [← hz0]
    have hr := Lib.hid hr0
    have hB1 := Lib.hid hal0
    have hWW := hB0h.out.size
    clear hr0 hal0 hz0
    refine (cO.out _ (hF0.out.below hB1.out)).mono ?_
    rintro e w2 ⟨rfl, hb2⟩
    have hr2 := hr.out.kept hb2
    have hBN := Lib.hid (hB1.out.trans (hb2.mono hB1.out.size))
    have cr := hr2.cell
    have fr := hr2.frozen
    clear hb2
    go_wp2_with fail
    refine bodyPost_ret (v := .tuple #[.agg #[.slice none 0 0, .slice none 0 0], .bool false]) (by simp [results, Try.results23, go_sem, cr]) rfl ⟨_, _, rfl, FcV.none_ _ _, ?_⟩
    exact ((hB0h.out.trans (hBN.out.mono hWW)).setCell (p := ⟨W0.heap.size, 0, none⟩) hWW _).setCell (p := ⟨W0.heap.size, 1, none⟩) hWW _
  · rw [ho] at cO
    cases hp : facOk 1000000000 H
    · have hK : okTimes F H = false := by unfold okTimes; rw [hp, Bool.and_false]; rfl
      have hT : timesTo F H = ⟨[], []⟩ := by unfold timesTo; rw [hK]; rfl
      rw [hK, hT]
      rw [hp] at cP
      clear hK hT ho hp
      go_enter Try.func23, Try.ntmps23
      go_wp2_with fail
      have hz0 : ((w.alloc (.cells #[.slice A1 n1 c1, .slice A2 n2 c2] 27)).alloc (.cells #[.slice B1 m1 k1, .slice B2 m2 k2] 27)).heap.size = w.heap.size + 1 + 1 := by simp
      generalize (w.alloc (.cells #[.slice A1 n1 c1, .slice A2 n2 c2] 27)).alloc (.cells #[.slice B1 m1 k1, .slice B2 m2 k2] 27) = W0 at hf hg hF0 hG0 hB0h hz0 ⊢
      have hr0 := Has.new W0 27 #[.slice none 0 0, .slice none 0 0]
      have hal0 : Below W0.heap.size W0 _ := (Below.refl _ _).alloc (Nat.le_refl _) (.cells #[.slice none 0 0, .slice none 0 0] 27)
      generalize W0.alloc (.cells #[.slice none 0 0, .slice none 0 0] 27) = W1 at hr0 hal0 ⊢
      rw [← hz0]
      have hr := Lib.hid hr0
      have hB1 := Lib.hid hal0
      have hWW := hB0h.out.size
      clear hr0 hal0 hz0
      refine (cO.out _ (hF0.out.below hB1.out)).mono ?_
      rintro e w2 ⟨rfl, hb2⟩
      have hr2 := hr.out.kept hb2
      have hB2 := Lib.hid (hB1.out.trans (hb2.mono hB1.out.size))
      have cb := (hg.out.kept hB2.out).cell
      clear hb2
      go_wp2_with fail
      refine (cP.out _ (hG0.out.below hB2.out)).mono ?_
      rintro e w3 ⟨rfl, hb3⟩
      have hr3 := hr2.kept hb3
      have hBN := Lib.hid (hB2.out.trans (hb3.mono hB2.out.size))
      have cr := hr3.cell
      have fr := hr3.frozen
      clear hb3 cb
      go_wp2_with fail
      refine bodyPost_ret (v := .tuple #[.agg #[.slice none 0 0, .slice none 0 0], .bool false]) (by simp [results, Try.results23, go_sem, cr]) rfl ⟨_, _, rfl, FcV.none_ _ _, ?_⟩
      exact ((hB0h.out.trans (hBN.out.mono hWW)).setCell (p := ⟨W0.heap.size, 0, none⟩) hWW _).setCell (p := ⟨W0.heap.size, 1, none⟩) hWW _
    · rw [hp] at cP
      obtain ⟨p1, p2, p3, p4, p5⟩ := fac_parts ho
      obtain ⟨q1, q2, q3, q4, q5⟩ := fac_parts hp
      have hsF : 0 ≤ setOf F.vs ∧ setOf F.vs ≤ 15 := by have := setOf_bd p5 F.vs.length; rwa [List.take_of_length_le (Nat.le_refl _)] at this
      have hsH : 0 ≤ setOf H.vs ∧ setOf H.vs ≤ 15 := by have := setOf_bd q5 H.vs.length; rwa [List.take_of_length_le (Nat.le_refl _)] at this
      have hor := bits_or hsF hsH
      have hLb := bor_bd (a := setOf F.vs) (b := setOf H.vs) hsF.2 hsH.2
      have cV := Lib.hid (fun wx hx => varsOf_any A1 A2 n1 c1 n2 c2 F wx hx hn1 p5)
      have cW := Lib.hid (fun wx hx => varsOf_any B1 B2 m1 k1 m2 k2 H wx hx hm1 q5)
      have cT := Lib.hid (fun wx g9 hx => timesOver_any (some ⟨g9, 0, none⟩) 2 2 [F, H] (bor (setOf F.vs) (setOf H.vs)) 1000000000 wx hx (by decide) hLb (by decide) (fun X hX => by
        rcases List.mem_cons.1 hX with rfl | hX
        · exact ho
        · rcases List.mem_cons.1 hX with rfl | hX
          · exact hp
          · cases hX) (fun k hk => by obtain rfl | rfl | rfl : k = 0 ∨ k = 1 ∨ k = 2 := by omega
                                      all_goals decide))
      rw [← fTimes_prod] at cT
      have hFL := Lib.hid (fun wx g9 (hx : FacW wx wx.heap.size A1 n1 A2 n2 F) (hy : FacW wx wx.heap.size B1 m1 B2 m2 H) (hg9 : Has wx g9 27 #[.slice A1 n1 c1, .slice A2 n2 c2, .slice B1 m1 k1, .slice B2 m2 k2]) => two_list hx hy hg9)
      have cI := Lib.hid (fun D1 l1 e1 D2 l2 e2 base wx hU => ifFactor_own D1 D2 l1 e1 l2 e2 base (fTimes F H) wx hU)
      obtain ⟨b, hb⟩ : ∃ b, facOk 1000000000 (fTimes F H) = b := ⟨_, rfl⟩
      have hK : okTimes F H = b := by unfold okTimes; rw [ho, hp, hb]; rfl
      have hT : (if b = true then fTimes F H else (⟨[], []⟩ : Fac)) = timesTo F H := by unfold timesTo; rw [hK]
      rw [hb, hT] at cI
      rw [hK]
      generalize timesTo F H = R at *
      generalize bor (setOf F.vs) (setOf H.vs) = L at *
      have hh : True := trivial
      clear hLb ho hp p1 p2 p3 p4 p5 q1 q2 q3 q4 q5 hb hT hK
      go_enter Try.func23, Try.ntmps23
      go_wp2_with fail
      have hz0 : ((w.alloc (.cells #[.slice A1 n1 c1, .slice A2 n2 c2] 27)).alloc (.cells #[.slice B1 m1 k1, .slice B2 m2 k2] 27)).heap.size = w.heap.size + 1 + 1 := by simp
      generalize (w.alloc (.cells #[.slice A1 n1 c1, .slice A2 n2 c2] 27)).alloc (.cells #[.slice B1 m1 k1, .slice B2 m2 k2] 27) = W0 at hf hg hF0 hG0 hB0h hz0 ⊢
      have hr0 := Has.new W0 27 #[.slice none 0 0, .slice none 0 0]
      have hal0 : Below W0.heap.size W0 _ := (Below.refl _ _).alloc (Nat.le_refl _) (.cells #[.slice none 0 0, .slice none 0 0] 27)
      generalize W0.alloc (.cells #[.slice none 0 0, .slice none 0 0] 27) = W1 at hr0 hal0 ⊢
      rw [← hz0]
      have hr := Lib.hid hr0
      have hB1 := Lib.hid hal0
      have hWW := hB0h.out.size
      clear hr0 hal0 hz0
      refine (cO.out _ (hF0.out.below hB1.out)).mono ?_
      rintro e w2 ⟨rfl, hb2⟩
      have hr2 := hr.out.kept hb2
      have hB2 := Lib.hid (hB1.out.trans (hb2.mono hB1.out.size))
      have cb := (hg.out.kept hB2.out).cell
      clear hb2
      go_wp2_with fail
      refine (cP.out _ (hG0.out.below hB2.out)).mono ?_
      rintro e w3 ⟨rfl, hb3⟩
      have hr3 := Lib.hid (hr2.kept hb3)
      have hB3 := Lib.hid (hB2.out.trans (hb3.mono hB2.out.size))
      clear hb3 cb
      go_wp2_with fail
      have hfx := Lib.hid (hf.out.kept hB3.out)
      have hgx := Lib.hid (hg.out.kept hB3.out)
      have hFz := Lib.hid (hF0.out.below hB3.out)
      have hHz := Lib.hid (hG0.out.below hB3.out)
      have cI3 := Lib.hid (fun D1 l1 e1 D2 l2 e2 wx hU => cI.out D1 l1 e1 D2 l2 e2 w3.heap.size wx hU)
      refine wp_region_any (by kernel_rfl) ?_
      change wpAny _ _ _ _ _ _ _ (World.drew _)
      refine wpAny_tail (n := 12) (c := 1) (I := fun listed aq wx => listed.size = 14 ∧ ∃ v15 v16 v17 v18 v19 v20 v21 v22 v23 v24 v25 v26 : Value, aq = { tmps := #[.agg #[.slice A1 n1 c1, .slice A2 n2 c2], .agg #[.slice B1 m1 k1, .slice B2 m2 k2], .pointer (some ⟨w.heap.size, 0, none⟩), .pointer (some ⟨w.heap.size + 1, 0, none⟩), .pointer (some ⟨W0.heap.size, 0, none⟩), .bool false, .agg #[.slice A1 n1 c1, .slice A2 n2 c2], .bool true, .bool false, .bool false, .agg #[.slice B1 m1 k1, .slice B2 m2 k2], .bool true, .bool false, .bool false, undef, v15, v16, v17, v18, v19, v20, v21, v22, v23, v24, v25, v26], defers := [] } ∧ (listed.getD 0 false = true → v15 = .agg #[.slice A1 n1 c1, .slice A2 n2 c2]) ∧ (listed.getD 1 false = true → v16 = .agg #[.slice B1 m1 k1, .slice B2 m2 k2]) ∧ (listed.getD 2 false = true → (∃ g9, v17 = .slice (some ⟨g9, 0, none⟩) 2 2 ∧ Has wx g9 27 #[.slice A1 n1 c1, .slice A2 n2 c2, .slice B1 m1 k1, .slice B2 m2 k2])) ∧ (listed.getD 3 false = true → v18 = .agg #[.slice A1 n1 c1, .slice A2 n2 c2]) ∧ (listed.getD 4 false = true → v19 = .int .i64 (setOf F.vs)) ∧ (listed.getD 5 false = true → v20 = .agg #[.slice B1 m1 k1, .slice B2 m2 k2]) ∧ (listed.getD 6 false = true → v21 = .int .i64 (setOf H.vs)) ∧ (listed.getD 7 false = true → v22 = .int .i64 L) ∧ (listed.getD 8 false = true → (∃ (U1 : Option Addr) (l1 q1 : Nat) (U2 : Option Addr) (l2 q2 : Nat), v23 = .agg #[.slice U1 l1 q1, .slice U2 l2 q2] ∧ FcV wx w3.heap.size (.slice U1 l1 q1) (.slice U2 l2 q2) (fTimes F H))) ∧ (listed.getD 9 false = true → (∃ (U1 : Option Addr) (l1 q1 : Nat) (U2 : Option Addr) (l2 q2 : Nat), v24 = .tuple #[.agg #[.slice U1 l1 q1, .slice U2 l2 q2], .bool b] ∧ FcV wx w3.heap.size (.slice U1 l1 q1) (.slice U2 l2 q2) R)) ∧ (listed.getD 10 false = true → (∃ (U1 : Option Addr) (l1 q1 : Nat) (U2 : Option Addr) (l2 q2 : Nat), v25 = .agg #[.slice U1 l1 q1, .slice U2 l2 q2] ∧ FcV wx w3.heap.size (.slice U1 l1 q1) (.slice U2 l2 q2) R)) ∧ (listed.getD 11 false = true → v26 = .bool b) ∧ Below w3.heap.size w3 wx) rfl (by kernel_rfl) (by kernel_rfl) (by kernel_rfl) ?hs ?hl _ _ _ ?st rfl (by decide) _ (by decide)
      case st =>
        refine ⟨rfl, undef, undef, undef, undef, undef, undef, undef, undef, undef, undef, undef, undef, rfl, ?_, ?_, ?_, ?_, ?_, ?_, ?_, ?_, ?_, ?_, ?_, ?_, (Below.refl _ _).drew⟩ <;> (intro e; exact absurd e (by decide))
      case hs =>
        rintro listed aq wx ⟨hz, v15, v16, v17, v18, v19, v20, v21, v22, v23, v24, v25, v26, rfl, hII⟩ i hin hi
        obtain ⟨h0, o, ho, hd⟩ := mem_ready.1 hi
        have K0 := Lib.hid hII.1
        have K1 := Lib.hid hII.2.1
        have K2 := Lib.hid hII.2.2.1
        have K3 := Lib.hid hII.2.2.2.1
        have K4 := Lib.hid hII.2.2.2.2.1
        have K5 := Lib.hid hII.2.2.2.2.2.1
        have K6 := Lib.hid hII.2.2.2.2.2.2.1
        have K7 := Lib.hid hII.2.2.2.2.2.2.2.1
        have K8 := Lib.hid hII.2.2.2.2.2.2.2.2.1
        have K9 := Lib.hid hII.2.2.2.2.2.2.2.2.2.1
        have K10 := Lib.hid hII.2.2.2.2.2.2.2.2.2.2.1
        have K11 := Lib.hid hII.2.2.2.2.2.2.2.2.2.2.2.1
        have hB : Below w3.heap.size w3 wx := hII.2.2.2.2.2.2.2.2.2.2.2.2
        have hne := Lib.hid (fun k (hk : i ≠ k) => @listed_ne listed i k hk)
        have hx := hfx.out.kept hB
        have hy := hgx.out.kept hB
        have hFx : FacW wx wx.heap.size A1 n1 A2 n2 F := hFz.out.below hB
        have hHx : FacW wx wx.heap.size B1 m1 B2 m2 H := hHz.out.below hB
        clear hII hi h0
        rcases (by omega : i = 0 ∨ i = 1 ∨ i = 2 ∨ i = 3 ∨ i = 4 ∨ i = 5 ∨ i = 6 ∨ i = 7 ∨ i = 8 ∨ i = 9 ∨ i = 10 ∨ i = 11) with rfl | rfl | rfl | rfl | rfl | rfl | rfl | rfl | rfl | rfl | rfl | rfl
        · cases ho
          have hxc := hx.cell
          refine wpOp_step rfl (fun K hK => ?_)
          go_simp
          refine hK _ _ ⟨by simpa using hz, .agg #[.slice A1 n1 c1, .slice A2 n2 c2], v16, v17, v18, v19, v20, v21, v22, v23, v24, v25, v26, rfl, ?_⟩
          exact ⟨fun _ => rfl, fun e => K1.out (hne.out 1 (by decide) e), fun e => K2.out (hne.out 2 (by decide) e), fun e => K3.out (hne.out 3 (by decide) e), fun e => K4.out (hne.out 4 (by decide) e), fun e => K5.out (hne.out 5 (by decide) e), fun e => K6.out (hne.out 6 (by decide) e), fun e => K7.out (hne.out 7 (by decide) e), fun e => K8.out (hne.out 8 (by decide) e), fun e => K9.out (hne.out 9 (by decide) e), fun e => K10.out (hne.out 10 (by decide) e), fun e => K11.out (hne.out 11 (by decide) e), hB⟩
        · cases ho
          have hyc := hy.cell
          refine wpOp_step rfl (fun K hK => ?_)
          go_simp
          refine hK _ _ ⟨by simpa using hz, v15, .agg #[.slice B1 m1 k1, .slice B2 m2 k2], v17, v18, v19, v20, v21, v22, v23, v24, v25, v26, rfl, ?_⟩
          exact ⟨fun e => K0.out (hne.out 0 (by decide) e), fun _ => rfl, fun e => K2.out (hne.out 2 (by decide) e), fun e => K3.out (hne.out 3 (by decide) e), fun e => K4.out (hne.out 4 (by decide) e), fun e => K5.out (hne.out 5 (by decide) e), fun e => K6.out (hne.out 6 (by decide) e), fun e => K7.out (hne.out 7 (by decide) e), fun e => K8.out (hne.out 8 (by decide) e), fun e => K9.out (hne.out 9 (by decide) e), fun e => K10.out (hne.out 10 (by decide) e), fun e => K11.out (hne.out 11 (by decide) e), hB⟩
        · cases ho
          have d0 := hd ⟨0, .data⟩ (by simp) rfl
          have d1 := hd ⟨1, .data⟩ (by simp) rfl
          obtain rfl := K0.out d0
          obtain rfl := K1.out d1
          refine wpOp_step rfl (fun K hK => ?_)
          go_simp
          refine hK _ _ ⟨by simpa using hz, .agg #[.slice A1 n1 c1, .slice A2 n2 c2], .agg #[.slice B1 m1 k1, .slice B2 m2 k2], .slice (some ⟨wx.heap.size, 0, none⟩) 2 2, v18, v19, v20, v21, v22, v23, v24, v25, v26, rfl, ?_⟩
          exact ⟨fun e => K0.out (hne.out 0 (by decide) e), fun e => K1.out (hne.out 1 (by decide) e), fun _ => ⟨_, rfl, Has.new _ _ _⟩, fun e => K3.out (hne.out 3 (by decide) e), fun e => K4.out (hne.out 4 (by decide) e), fun e => K5.out (hne.out 5 (by decide) e), fun e => K6.out (hne.out 6 (by decide) e), fun e => K7.out (hne.out 7 (by decide) e), fun e => (by obtain ⟨y1, y2, y3, y4, y5, y6, y7, y8⟩ := K8.out (hne.out 8 (by decide) e); exact ⟨y1, y2, y3, y4, y5, y6, y7, y8.below ((Below.refl _ _).alloc (Nat.le_refl _) _)⟩), fun e => (by obtain ⟨y1, y2, y3, y4, y5, y6, y7, y8⟩ := K9.out (hne.out 9 (by decide) e); exact ⟨y1, y2, y3, y4, y5, y6, y7, y8.below ((Below.refl _ _).alloc (Nat.le_refl _) _)⟩), fun e => (by obtain ⟨y1, y2, y3, y4, y5, y6, y7, y8⟩ := K10.out (hne.out 10 (by decide) e); exact ⟨y1, y2, y3, y4, y5, y6, y7, y8.below ((Below.refl _ _).alloc (Nat.le_refl _) _)⟩), fun e => K11.out (hne.out 11 (by decide) e), hB.alloc hB.size _⟩
        · cases ho
          have hxc := hx.cell
          refine wpOp_step rfl (fun K hK => ?_)
          go_simp
          refine hK _ _ ⟨by simpa using hz, v15, v16, v17, .agg #[.slice A1 n1 c1, .slice A2 n2 c2], v19, v20, v21, v22, v23, v24, v25, v26, rfl, ?_⟩
          exact ⟨fun e => K0.out (hne.out 0 (by decide) e), fun e => K1.out (hne.out 1 (by decide) e), fun e => K2.out (hne.out 2 (by decide) e), fun _ => rfl, fun e => K4.out (hne.out 4 (by decide) e), fun e => K5.out (hne.out 5 (by decide) e), fun e => K6.out (hne.out 6 (by decide) e), fun e => K7.out (hne.out 7 (by decide) e), fun e => K8.out (hne.out 8 (by decide) e), fun e => K9.out (hne.out 9 (by decide) e), fun e => K10.out (hne.out 10 (by decide) e), fun e => K11.out (hne.out 11 (by decide) e), hB⟩
        · cases ho
          have d3 := hd ⟨3, .data⟩ (by simp) rfl
          obtain rfl := K3.out d3
          refine wpOp_step rfl (fun K hK => ?_)
          go_simp
          go_at_call 69
          refine (cV.out _ hFx).mono ?_
          rintro e w4 ⟨rfl, hb3⟩
          refine hK _ _ ⟨by simpa using hz, v15, v16, v17, .agg #[.slice A1 n1 c1, .slice A2 n2 c2], .int .i64 (setOf F.vs), v20, v21, v22, v23, v24, v25, v26, rfl, ?_⟩
          exact ⟨fun e => K0.out (hne.out 0 (by decide) e), fun e => K1.out (hne.out 1 (by decide) e), fun e => (by obtain ⟨y1, y2, y3⟩ := K2.out (hne.out 2 (by decide) e); exact ⟨y1, y2, y3.kept hb3⟩), fun e => K3.out (hne.out 3 (by decide) e), fun _ => rfl, fun e => K5.out (hne.out 5 (by decide) e), fun e => K6.out (hne.out 6 (by decide) e), fun e => K7.out (hne.out 7 (by decide) e), fun e => (by obtain ⟨y1, y2, y3, y4, y5, y6, y7, y8⟩ := K8.out (hne.out 8 (by decide) e); exact ⟨y1, y2, y3, y4, y5, y6, y7, y8.below hb3⟩), fun e => (by obtain ⟨y1, y2, y3, y4, y5, y6, y7, y8⟩ := K9.out (hne.out 9 (by decide) e); exact ⟨y1, y2, y3, y4, y5, y6, y7, y8.below hb3⟩), fun e => (by obtain ⟨y1, y2, y3, y4, y5, y6, y7, y8⟩ := K10.out (hne.out 10 (by decide) e); exact ⟨y1, y2, y3, y4, y5, y6, y7, y8.below hb3⟩), fun e => K11.out (hne.out 11 (by decide) e), hB.trans (hb3.mono hB.size)⟩
        · cases ho
          have hyc := hy.cell
          refine wpOp_step rfl (fun K hK => ?_)
          go_simp
          refine hK _ _ ⟨by simpa using hz, v15, v16, v17, v18, v19, .agg #[.slice B1 m1 k1, .slice B2 m2 k2], v21, v22, v23, v24, v25, v26, rfl, ?_⟩
          exact ⟨fun e => K0.out (hne.out 0 (by decide) e), fun e => K1.out (hne.out 1 (by decide) e), fun e => K2.out (hne.out 2 (by decide) e), fun e => K3.out (hne.out 3 (by decide) e), fun e => K4.out (hne.out 4 (by decide) e), fun _ => rfl, fun e => K6.out (hne.out 6 (by decide) e), fun e => K7.out (hne.out 7 (by decide) e), fun e => K8.out (hne.out 8 (by decide) e), fun e => K9.out (hne.out 9 (by decide) e), fun e => K10.out (hne.out 10 (by decide) e), fun e => K11.out (hne.out 11 (by decide) e), hB⟩
        · cases ho
          have d5 := hd ⟨5, .data⟩ (by simp) rfl
          obtain rfl := K5.out d5
          refine wpOp_step rfl (fun K hK => ?_)
          go_simp
          go_at_call 69
          refine (cW.out _ hHx).mono ?_
          rintro e w4 ⟨rfl, hb3⟩
          refine hK _ _ ⟨by simpa using hz, v15, v16, v17, v18, v19, .agg #[.slice B1 m1 k1, .slice B2 m2 k2], .int .i64 (setOf H.vs), v22, v23, v24, v25, v26, rfl, ?_⟩
          exact ⟨fun e => K0.out (hne.out 0 (by decide) e), fun e => K1.out (hne.out 1 (by decide) e), fun e => (by obtain ⟨y1, y2, y3⟩ := K2.out (hne.out 2 (by decide) e); exact ⟨y1, y2, y3.kept hb3⟩), fun e => K3.out (hne.out 3 (by decide) e), fun e => K4.out (hne.out 4 (by decide) e), fun e => K5.out (hne.out 5 (by decide) e), fun _ => rfl, fun e => K7.out (hne.out 7 (by decide) e), fun e => (by obtain ⟨y1, y2, y3, y4, y5, y6, y7, y8⟩ := K8.out (hne.out 8 (by decide) e); exact ⟨y1, y2, y3, y4, y5, y6, y7, y8.below hb3⟩), fun e => (by obtain ⟨y1, y2, y3, y4, y5, y6, y7, y8⟩ := K9.out (hne.out 9 (by decide) e); exact ⟨y1, y2, y3, y4, y5, y6, y7, y8.below hb3⟩), fun e => (by obtain ⟨y1, y2, y3, y4, y5, y6, y7, y8⟩ := K10.out (hne.out 10 (by decide) e); exact ⟨y1, y2, y3, y4, y5, y6, y7, y8.below hb3⟩), fun e => K11.out (hne.out 11 (by decide) e), hB.trans (hb3.mono hB.size)⟩
        · cases ho
          have d4 := hd ⟨4, .data⟩ (by simp) rfl
          have d6 := hd ⟨6, .data⟩ (by simp) rfl
          obtain rfl := K4.out d4
          obtain rfl := K6.out d6
          refine wpOp_step rfl (fun K hK => ?_)
          go_simp
          refine hK _ _ ⟨by simpa using hz, v15, v16, v17, v18, .int .i64 (setOf F.vs), v20, .int .i64 (setOf H.vs), .int .i64 L, v23, v24, v25, v26, rfl, ?_⟩
          exact ⟨fun e => K0.out (hne.out 0 (by decide) e), fun e => K1.out (hne.out 1 (by decide) e), fun e => K2.out (hne.out 2 (by decide) e), fun e => K3.out (hne.out 3 (by decide) e), fun e => K4.out (hne.out 4 (by decide) e), fun e => K5.out (hne.out 5 (by decide) e), fun e => K6.out (hne.out 6 (by decide) e), fun _ => rfl, fun e => K8.out (hne.out 8 (by decide) e), fun e => K9.out (hne.out 9 (by decide) e), fun e => K10.out (hne.out 10 (by decide) e), fun e => K11.out (hne.out 11 (by decide) e), hB⟩
        · cases ho
          have d2 := hd ⟨2, .data⟩ (by simp) rfl
          have d7 := hd ⟨7, .data⟩ (by simp) rfl
          obtain ⟨g9, rfl, hg9⟩ := K2.out d2
          obtain rfl := K7.out d7
          refine wpOp_step rfl (fun K hK => ?_)
          go_simp
          go_at_call 68
          refine (cT.out _ _ (hFL.out _ _ hFx hHx hg9)).mono ?_
          rintro e w4 ⟨u1, u2, rfl, hU, hb3⟩
          obtain ⟨U1, q1, rfl, _, _⟩ := hU.1.form
          obtain ⟨U2, q2, rfl, _, _⟩ := hU.2.1.form
          refine hK _ _ ⟨by simpa using hz, v15, v16, .slice (some ⟨g9, 0, none⟩) 2 2, v18, v19, v20, v21, .int .i64 L, .agg #[.slice U1 _ q1, .slice U2 _ q2], v24, v25, v26, rfl, ?_⟩
          exact ⟨fun e => K0.out (hne.out 0 (by decide) e), fun e => K1.out (hne.out 1 (by decide) e), fun e => (by obtain ⟨y1, y2, y3⟩ := K2.out (hne.out 2 (by decide) e); exact ⟨y1, y2, y3.kept hb3⟩), fun e => K3.out (hne.out 3 (by decide) e), fun e => K4.out (hne.out 4 (by decide) e), fun e => K5.out (hne.out 5 (by decide) e), fun e => K6.out (hne.out 6 (by decide) e), fun e => K7.out (hne.out 7 (by decide) e), fun _ => ⟨_, _, _, _, _, _, rfl, hU.le hB.size⟩, fun e => (by obtain ⟨y1, y2, y3, y4, y5, y6, y7, y8⟩ := K9.out (hne.out 9 (by decide) e); exact ⟨y1, y2, y3, y4, y5, y6, y7, y8.below hb3⟩), fun e => (by obtain ⟨y1, y2, y3, y4, y5, y6, y7, y8⟩ := K10.out (hne.out 10 (by decide) e); exact ⟨y1, y2, y3, y4, y5, y6, y7, y8.below hb3⟩), fun e => K11.out (hne.out 11 (by decide) e), hB.trans (hb3.mono hB.size)⟩
        · cases ho
          have d8 := hd ⟨8, .data⟩ (by simp) rfl
          obtain ⟨U1, l1, q1, U2, l2, q2, rfl, hU⟩ := K8.out d8
          refine wpOp_step rfl (fun K hK => ?_)
          go_simp
          go_at_call 67
          refine (cI3.out _ _ _ _ _ _ _ hU).mono ?_
          rintro e w4 ⟨u1, u2, rfl, hX, hb3⟩
          obtain ⟨X1, r1, rfl, _, _⟩ := hX.1.form
          obtain ⟨X2, r2, rfl, _, _⟩ := hX.2.1.form
          refine hK _ _ ⟨by simpa using hz, v15, v16, v17, v18, v19, v20, v21, v22, .agg #[.slice U1 l1 q1, .slice U2 l2 q2], .tuple #[.agg #[.slice X1 _ r1, .slice X2 _ r2], .bool b], v25, v26, rfl, ?_⟩
          exact ⟨fun e => K0.out (hne.out 0 (by decide) e), fun e => K1.out (hne.out 1 (by decide) e), fun e => (by obtain ⟨y1, y2, y3⟩ := K2.out (hne.out 2 (by decide) e); exact ⟨y1, y2, y3.kept hb3⟩), fun e => K3.out (hne.out 3 (by decide) e), fun e => K4.out (hne.out 4 (by decide) e), fun e => K5.out (hne.out 5 (by decide) e), fun e => K6.out (hne.out 6 (by decide) e), fun e => K7.out (hne.out 7 (by decide) e), fun e => (by obtain ⟨y1, y2, y3, y4, y5, y6, y7, y8⟩ := K8.out (hne.out 8 (by decide) e); exact ⟨y1, y2, y3, y4, y5, y6, y7, y8.below hb3⟩), fun _ => ⟨_, _, _, _, _, _, rfl, hX⟩, fun e => (by obtain ⟨y1, y2, y3, y4, y5, y6, y7, y8⟩ := K10.out (hne.out 10 (by decide) e); exact ⟨y1, y2, y3, y4, y5, y6, y7, y8.below hb3⟩), fun e => K11.out (hne.out 11 (by decide) e), hB.trans (hb3.mono hB.size)⟩
        · cases ho
          have d9 := hd ⟨9, .data⟩ (by simp) rfl
          obtain ⟨U1, l1, q1, U2, l2, q2, rfl, hU⟩ := K9.out d9
          refine wpOp_step rfl (fun K hK => ?_)
          go_simp
          refine hK _ _ ⟨by simpa using hz, v15, v16, v17, v18, v19, v20, v21, v22, v23, .tuple #[.agg #[.slice U1 l1 q1, .slice U2 l2 q2], .bool b], .agg #[.slice U1 l1 q1, .slice U2 l2 q2], v26, rfl, ?_⟩
          exact ⟨fun e => K0.out (hne.out 0 (by decide) e), fun e => K1.out (hne.out 1 (by decide) e), fun e => K2.out (hne.out 2 (by decide) e), fun e => K3.out (hne.out 3 (by decide) e), fun e => K4.out (hne.out 4 (by decide) e), fun e => K5.out (hne.out 5 (by decide) e), fun e => K6.out (hne.out 6 (by decide) e), fun e => K7.out (hne.out 7 (by decide) e), fun e => K8.out (hne.out 8 (by decide) e), fun e => K9.out (hne.out 9 (by decide) e), fun _ => ⟨_, _, _, _, _, _, rfl, hU⟩, fun e => K11.out (hne.out 11 (by decide) e), hB⟩
        · cases ho
          have d9 := hd ⟨9, .data⟩ (by simp) rfl
          obtain ⟨U1, l1, q1, U2, l2, q2, rfl, hU⟩ := K9.out d9
          refine wpOp_step rfl (fun K hK => ?_)
          go_simp
          refine hK _ _ ⟨by simpa using hz, v15, v16, v17, v18, v19, v20, v21, v22, v23, .tuple #[.agg #[.slice U1 l1 q1, .slice U2 l2 q2], .bool b], v25, .bool b, rfl, ?_⟩
          exact ⟨fun e => K0.out (hne.out 0 (by decide) e), fun e => K1.out (hne.out 1 (by decide) e), fun e => K2.out (hne.out 2 (by decide) e), fun e => K3.out (hne.out 3 (by decide) e), fun e => K4.out (hne.out 4 (by decide) e), fun e => K5.out (hne.out 5 (by decide) e), fun e => K6.out (hne.out 6 (by decide) e), fun e => K7.out (hne.out 7 (by decide) e), fun e => K8.out (hne.out 8 (by decide) e), fun e => K9.out (hne.out 9 (by decide) e), fun e => K10.out (hne.out 10 (by decide) e), fun _ => rfl, hB⟩
      case hl =>
        rintro listed aq wx ⟨hz, v15, v16, v17, v18, v19, v20, v21, v22, v23, v24, v25, v26, rfl, hII⟩ hall
        have K0 := Lib.hid hII.1
        have K1 := Lib.hid hII.2.1
        have K2 := Lib.hid hII.2.2.1
        have K3 := Lib.hid hII.2.2.2.1
        have K4 := Lib.hid hII.2.2.2.2.1
        have K5 := Lib.hid hII.2.2.2.2.2.1
        have K6 := Lib.hid hII.2.2.2.2.2.2.1
        have K7 := Lib.hid hII.2.2.2.2.2.2.2.1
        have K8 := Lib.hid hII.2.2.2.2.2.2.2.2.1
        have K9 := Lib.hid hII.2.2.2.2.2.2.2.2.2.1
        have K10 := Lib.hid hII.2.2.2.2.2.2.2.2.2.2.1
        have K11 := Lib.hid hII.2.2.2.2.2.2.2.2.2.2.2.1
        have hB : Below w3.heap.size w3 wx := hII.2.2.2.2.2.2.2.2.2.2.2.2
        have hx := hfx.out.kept hB
        have hy := hgx.out.kept hB
        have hFx : FacW wx wx.heap.size A1 n1 A2 n2 F := hFz.out.below hB
        have hHx : FacW wx wx.heap.size B1 m1 B2 m2 H := hHz.out.below hB
        clear hII
        obtain rfl := K0.out (hall 0 (by decide))
        obtain rfl := K1.out (hall 1 (by decide))
        obtain ⟨g9, rfl, hg9⟩ := K2.out (hall 2 (by decide))
        obtain rfl := K3.out (hall 3 (by decide))
        obtain rfl := K4.out (hall 4 (by decide))
        obtain rfl := K5.out (hall 5 (by decide))
        obtain rfl := K6.out (hall 6 (by decide))
        obtain rfl := K7.out (hall 7 (by decide))
        obtain ⟨U1, l1, q1, U2, l2, q2, rfl, hU⟩ := K8.out (hall 8 (by decide))
        obtain ⟨U1, l1, q1, U2, l2, q2, rfl, hU⟩ := K9.out (hall 9 (by decide))
        obtain ⟨U1, l1, q1, U2, l2, q2, rfl, hU⟩ := K10.out (hall 10 (by decide))
        obtain rfl := K11.out (hall 11 (by decide))
        clear hall K0 K1 K2 K3 K4 K5 K6 K7 K8 K9 K10 K11
        have hrx := hr3.out.kept hB
        have hrc := hrx.cell
        have hrf := hrx.frozen
        unfold wpSeq
        refine wpOp_step rfl (fun K0 hK0 => ?_)
        go_simp
        refine hK0 _ _ ?_
        clear hK0
        unfold wpSeq
        refine wpOp_step rfl (fun K1 hK1 => ?_)
        go_simp
        refine hK1 _ _ ?_
        clear hK1
        unfold wpSeq
        have hp1 := (hrx.put 0 (.slice U1 l1 q1)).cell 0
        have hp2 := ((hrx.put 0 (.slice U1 l1 q1)).put 1 (.slice U2 l2 q2)).cell 1
        have hzz : w.heap.size ≤ w3.heap.size := Nat.le_trans hWW hB3.out.size
        have hB4 := hB0h.out.trans ((hB3.out.trans (hB.mono hB3.out.size)).mono hWW)
        go_wp2_with fail
        refine bodyPost_ret (v := .tuple #[.agg #[.slice U1 l1 q1, .slice U2 l2 q2], .bool b]) (by simp [results, Try.results23, go_sem, hp1, hp2]) rfl ⟨_, _, rfl, ?_, ?_⟩
        · exact (hU.le hzz).put2 hrx _ _
        · exact (hB4.setCell (p := ⟨W0.heap.size, 0, none⟩) hWW _).setCell (p := ⟨W0.heap.size, 1, none⟩) hWW _
end Go.Proofs.Ytdegfbdoeklhnaa
