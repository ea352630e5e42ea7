/- Parts of the proof: Fl. -/
import Derived.Test.YtdpeaabdpolmoaaZAE
import Derived.Test.YtdpeaabdpolmoaaZAA
namespace Go.Proofs.Ytdpeaabdpolmoaa
set_option maxRecDepth 100000
set_option linter.unusedVariables false
open Go.RowKit
theorem Ils.but {w w' : World} {B n : Nat} {A : Option Addr} {ds : List Int} {S : Nat → Prop} (h : Ils w B A n ds) (hk : KeptBut w w' S) (hB : B ≤ w.heap.size) (hn : ∀ a, A = some a → ¬ S a.block) : Ils w' w'.heap.size A n ds := by
  refine ⟨h.1, fun h0 => ?_⟩
  obtain ⟨g, off, e, hg, hc⟩ := h.2 h0
  have hgw : g < w.heap.size := Nat.lt_of_lt_of_le hg hB
  refine ⟨g, off, e, Nat.lt_of_lt_of_le hgw hk.size, fun k d hd => (World.cell?_of_block ?_).trans (hc k d hd)⟩
  exact hk.block g hgw (hn _ e)
theorem szIntS_yes (A : Option Addr) (n c : Nat) (left : Int) (w : World) (hn : n ≤ maxLen) (h0 : (n : Int) ≤ left) (hl : left ≤ 1048576) :
    Calls Try.prog 108 #[.slice A n c, .int .i64 left] w fun e w' => e = .returned (.int .i64 (left - n)) ∧ w = w' := by
  have hn9 : n ≤ 9223372036854775807 := by unfold maxLen at hn; omega
  have hw : IntKind.i64.wrap (left - (n : Int)) = left - n := by rw [IntKind.wrap_i64]; omega
  have hw2 : wrap64 (left - (n : Int)) = left - n := by unfold wrap64; omega
  have h1 : ¬ (left - (n : Int) < 0) := by omega
  go_enter Try.func108, Try.ntmps108
  go_wp2_with fail
  go_ret
  exact ⟨rfl, rfl⟩
theorem szIntS_no (A : Option Addr) (n c : Nat) (left : Int) (w : World) (hn : n ≤ maxLen) (hl0 : 0 ≤ left) (h0 : left < (n : Int)) (hl : left ≤ 1048576) :
    Calls Try.prog 108 #[.slice A n c, .int .i64 left] w fun e w' => e = .returned (.int .i64 (-1)) ∧ w = w' := by
  have hn9 : n ≤ 9223372036854775807 := by unfold maxLen at hn; omega
  have hw : IntKind.i64.wrap (left - (n : Int)) = left - n := by rw [IntKind.wrap_i64]; omega
  have hw2 : wrap64 (left - (n : Int)) = left - n := by unfold wrap64; omega
  have h1 : left - (n : Int) < 0 := by omega
  go_enter Try.func108, Try.ntmps108
  go_wp2_with fail
  go_ret
  exact ⟨rfl, rfl⟩
theorem szFactor_yes (A1 A2 : Option Addr) (n1 c1 n2 c2 : Nat) (left : Int) (w : World) (h1 : n1 ≤ maxLen) (h2 : n2 ≤ maxLen) (h0 : (n1 : Int) + n2 ≤ left) (hl : left ≤ 1048576) :
    Calls Try.prog 50 #[.agg #[.slice A1 n1 c1, .slice A2 n2 c2], .int .i64 left] w fun e w' => e = .returned (.int .i64 (left - n1 - n2)) ∧ Below w.heap.size w w' := by
  have hB0 : Below w.heap.size w (w.alloc (.cells #[.slice A1 n1 c1, .slice A2 n2 c2] 61)) := (Below.refl _ _).alloc (Nat.le_refl _) _
  have hH := Lib.hid (Has.new w 61 #[.slice A1 n1 c1, .slice A2 n2 c2])
  have hB := Lib.hid hB0
  have hc := hH.out.cell
  clear hB0
  go_enter Try.func50, Try.ntmps50
  go_wp2_with fail
  refine (szIntS_yes A1 n1 c1 left _ h1 (by omega) hl).mono ?_
  rintro e w1 ⟨rfl, rfl⟩
  have hp : ¬ left - (n1 : Int) < 0 := by omega
  go_wp2_with fail
  refine (szIntS_yes A2 n2 c2 (left - n1) _ h2 (by omega) (by omega)).mono ?_
  rintro e w1 ⟨rfl, rfl⟩
  have hp2 : ¬ left - (n1 : Int) - (n2 : Int) < 0 := by omega
  go_wp2_with fail
  go_ret
  exact ⟨rfl, hB.out⟩
theorem szFactor_no1 (A1 A2 : Option Addr) (n1 c1 n2 c2 : Nat) (left : Int) (w : World) (h1 : n1 ≤ maxLen) (h2 : n2 ≤ maxLen) (hl0 : 0 ≤ left) (h0 : left < (n1 : Int)) (hl : left ≤ 1048576) :
    Calls Try.prog 50 #[.agg #[.slice A1 n1 c1, .slice A2 n2 c2], .int .i64 left] w fun e w' => e = .returned (.int .i64 (-1)) ∧ Below w.heap.size w w' := by
  have hB0 : Below w.heap.size w (w.alloc (.cells #[.slice A1 n1 c1, .slice A2 n2 c2] 61)) := (Below.refl _ _).alloc (Nat.le_refl _) _
  have hH := Lib.hid (Has.new w 61 #[.slice A1 n1 c1, .slice A2 n2 c2])
  have hB := Lib.hid hB0
  have hc := hH.out.cell
  clear hB0
  go_enter Try.func50, Try.ntmps50
  go_wp2_with fail
  refine (szIntS_no A1 n1 c1 left _ h1 hl0 h0 hl).mono ?_
  rintro e w1 ⟨rfl, rfl⟩
  go_wp2_with fail
  go_ret
  exact ⟨rfl, hB.out⟩
theorem szFactor_no2 (A1 A2 : Option Addr) (n1 c1 n2 c2 : Nat) (left : Int) (w : World) (h1 : n1 ≤ maxLen) (h2 : n2 ≤ maxLen) (hl0 : (n1 : Int) ≤ left) (h0 : left < (n1 : Int) + n2) (hl : left ≤ 1048576) :
    Calls Try.prog 50 #[.agg #[.slice A1 n1 c1, .slice A2 n2 c2], .int .i64 left] w fun e w' => e = .returned (.int .i64 (-1)) ∧ Below w.heap.size w w' := by
  have hB0 : Below w.heap.size w (w.alloc (.cells #[.slice A1 n1 c1, .slice A2 n2 c2] 61)) := (Below.refl _ _).alloc (Nat.le_refl _) _
  have hH := Lib.hid (Has.new w 61 #[.slice A1 n1 c1, .slice A2 n2 c2])
  have hB := Lib.hid hB0
  have hc := hH.out.cell
  clear hB0
  go_enter Try.func50, Try.ntmps50
  go_wp2_with fail
  refine (szIntS_yes A1 n1 c1 left _ h1 (by omega) hl).mono ?_
  rintro e w1 ⟨rfl, rfl⟩
  have hp : ¬ left - (n1 : Int) < 0 := by omega
  go_wp2_with fail
  refine (szIntS_no A2 n2 c2 (left - n1) _ h2 (by omega) (by omega) (by omega)).mono ?_
  rintro e w1 ⟨rfl, rfl⟩
  go_wp2_with fail
  go_ret
  exact ⟨rfl, hB.out⟩
theorem szFactor_no (A1 A2 : Option Addr) (n1 c1 n2 c2 : Nat) (left : Int) (w : World) (h1 : n1 ≤ maxLen) (h2 : n2 ≤ maxLen) (hl0 : 0 ≤ left) (h0 : left < (n1 : Int) + n2) (hl : left ≤ 1048576) :
    Calls Try.prog 50 #[.agg #[.slice A1 n1 c1, .slice A2 n2 c2], .int .i64 left] w fun e w' => e = .returned (.int .i64 (-1)) ∧ Below w.heap.size w w' := by
  by_cases h : left < (n1 : Int)
  · exact szFactor_no1 A1 A2 n1 c1 n2 c2 left w h1 h2 hl0 h hl
  · exact szFactor_no2 A1 A2 n1 c1 n2 c2 left w h1 h2 (by omega) h0 hl
theorem eqFactor_same (A1 A2 B1 B2 : Option Addr) (n1 c1 n2 c2 m1 d1 m2 d2 : Nat) (F : Fac) (w : World) (h : FacW w w.heap.size A1 n1 A2 n2 F) (h2 : FacW w w.heap.size B1 m1 B2 m2 F) (hn1 : n1 ≤ maxLen) (hn2 : n2 ≤ maxLen) :
    Calls Try.prog 54 #[.agg #[.slice A1 n1 c1, .slice A2 n2 c2], .agg #[.slice B1 m1 d1, .slice B2 m2 d2]] w fun e w' => e = .returned (.bool true) ∧ Below w.heap.size w w' := by
  have e1 : m1 = n1 := by rw [← h.1.1, ← h2.1.1]
  have e2 : m2 = n2 := by rw [← h.2.1, ← h2.2.1]
  subst e1
  subst e2
  have hB0 : Below w.heap.size w ((w.alloc (.cells #[.slice A1 m1 c1, .slice A2 m2 c2] 44)).alloc (.cells #[.slice B1 m1 d1, .slice B2 m2 d2] 44)) := ((Below.refl _ _).alloc (Nat.le_refl _) _).alloc (by simp) _
  have hf := Lib.hid ((Has.new w 44 #[.slice A1 m1 c1, .slice A2 m2 c2]).alloc (.cells #[.slice B1 m1 d1, .slice B2 m2 d2] 44))
  have hg := Lib.hid (Has.newAt (w := w.alloc (.cells #[.slice A1 m1 c1, .slice A2 m2 c2] 44)) (n := w.heap.size + 1) (t := 44) (cs := #[.slice B1 m1 d1, .slice B2 m2 d2]) (by simp))
  have hF := Lib.hid (h.below hB0)
  have hG := Lib.hid (h2.below hB0)
  have hB := Lib.hid hB0
  clear h h2 hB0
  go_enter Try.func54, Try.ntmps54
  go_wp2_with fail
  generalize (w.alloc (.cells #[.slice A1 m1 c1, .slice A2 m2 c2] 44)).alloc (.cells #[.slice B1 m1 d1, .slice B2 m2 d2] 44) = W0 at hf hg hF hG hB ⊢
  generalize hGe : w.heap.size = G at hf hg ⊢
  have cf := hf.out.cell
  have cg := hg.out.cell
  go_wp2_with fail
  refine (eqIntS_same A1 B1 m1 c1 d1 F.vs _ hF.out.1 hG.out.1 hn1).mono ?_
  rintro e w1 ⟨rfl, q, rfl⟩
  have hF1 := Lib.hid (hF.out.below (below_drewN (Below.refl _ _) q))
  have hG1 := Lib.hid (hG.out.below (below_drewN (Below.refl _ _) q))
  clear cf cg
  have cf := (hf.out.drewN q).cell
  have cg := (hg.out.drewN q).cell
  go_wp2_with fail
  refine (eqIntS_same A2 B2 m2 c2 d2 F.ns _ hF1.out.2 hG1.out.2 hn2).mono ?_
  rintro e w1 ⟨rfl, q2, rfl⟩
  go_wp2_with fail
  go_ret
  exact ⟨rfl, hB.out.trans ((below_drewN (Below.refl _ _) _).mono hB.out.size)⟩
theorem Pl.and {P R : World → Prop} {lo hi : Nat} {w : World} (h : Pl P lo hi w) (k : Pl R lo hi w) : Pl (fun w => P w ∧ R w) lo hi w :=
  ⟨⟨h.1, k.1⟩, h.2.1, fun a b ha hs hab hk => ⟨h.2.2 a b ha.1 hs hab hk, k.2.2 a b ha.2 hs hab hk⟩⟩
/-- A factor of the call's own, with the bounds of its blocks. -/
def FcB (lo hi : Nat) (v1 : Value) (n1 : Nat) (v2 : Value) (n2 : Nat) (F : Fac) (w : World) : Prop := OwnB lo hi 3 1 n1 v1 (ints F.vs) w ∧ OwnB lo hi 3 1 n2 v2 (ints F.ns) w
theorem FcB.pl {w : World} {base : Nat} {v1 v2 : Value} {F : Fac} (h : FcV w base v1 v2 F) : Pl (FcB base w.heap.size v1 F.vs.length v2 F.ns.length F) base w.heap.size w := (OwnB.pl h.1).and (OwnB.pl h.2.1)
theorem FcB.fac {w : World} {lo hi n1 c1 n2 c2 : Nat} {A1 A2 : Option Addr} {F : Fac} (h : FcB lo hi (.slice A1 n1 c1) n1 (.slice A2 n2 c2) n2 F w) : FacW w w.heap.size A1 n1 A2 n2 F := ⟨ownI_lst h.1.1, ownI_lst h.2.1⟩
set_option maxHeartbeats 1000000 in
/-- The laws' copy of a factor. -/
theorem toFactor_own (A1 A2 : Option Addr) (n1 c1 n2 c2 : Nat) (F : Fac) (w : World) (h : FacW w w.heap.size A1 n1 A2 n2 F) (hn1 : n1 ≤ 1048576) (hn2 : n2 ≤ 1048576) :
    Calls Try.prog 52 #[.agg #[.slice A1 n1 c1, .slice A2 n2 c2]] w fun e w' => ∃ g1 g2, e = .returned (.agg #[.slice (some ⟨g1, 0, none⟩) n1 n1, .slice (some ⟨g2, 0, none⟩) n2 n2]) ∧ Pl (FcB w.heap.size w'.heap.size (.slice (some ⟨g1, 0, none⟩) n1 n1) n1 (.slice (some ⟨g2, 0, none⟩) n2 n2) n2 F) w.heap.size w'.heap.size w' ∧ g1 ≠ g2 ∧ Below w.heap.size w w' := by
  have hl1 := h.1.1
  have hl2 := h.2.1
  have hB0 : Below w.heap.size w (((w.alloc (.cells #[.slice A1 n1 c1, .slice A2 n2 c2] 61)).alloc (.cells #[.slice none 0 0, .slice none 0 0] 44)).alloc (.cells #[.slice none 0 0, .slice none 0 0] 44)) := (((Below.refl _ _).alloc (Nat.le_refl _) _).alloc (by simp) _).alloc (by simp; omega) _
  have hf := Lib.hid (((Has.new w 61 #[.slice A1 n1 c1, .slice A2 n2 c2]).alloc (.cells #[.slice none 0 0, .slice none 0 0] 44)).alloc (.cells #[.slice none 0 0, .slice none 0 0] 44))
  have hr := Lib.hid ((Has.newAt (w := w.alloc (.cells #[.slice A1 n1 c1, .slice A2 n2 c2] 61)) (n := w.heap.size + 1) (t := 44) (cs := #[.slice none 0 0, .slice none 0 0]) (by simp)).alloc (.cells #[.slice none 0 0, .slice none 0 0] 44))
  have ho := Lib.hid (Has.newAt (w := (w.alloc (.cells #[.slice A1 n1 c1, .slice A2 n2 c2] 61)).alloc (.cells #[.slice none 0 0, .slice none 0 0] 44)) (n := w.heap.size + 1 + 1) (t := 44) (cs := #[.slice none 0 0, .slice none 0 0]) (by simp))
  have hF := Lib.hid (h.below hB0)
  have hFo := Lib.hid h
  have hB := Lib.hid hB0
  clear h hB0
  go_enter Try.func52, Try.ntmps52
  go_wp2_with fail
  generalize ((w.alloc (.cells #[.slice A1 n1 c1, .slice A2 n2 c2] 61)).alloc (.cells #[.slice none 0 0, .slice none 0 0] 44)).alloc (.cells #[.slice none 0 0, .slice none 0 0] 44) = W0 at hf hr ho hF hB ⊢
  generalize hG : w.heap.size = G at hf hr ho ⊢
  have cf := hf.out.cell
  have hzo := ho.out.lt
  refine (toIntS_any A1 n1 c1 F.vs _ hF.out.1 hn1).mono ?_
  rintro e w1 ⟨g1, rfl, hg1, hO1, hb1⟩
  have hz1 := hb1.size
  have ho1 := ho.out.kept hb1
  have co := ho1.cell
  have fo := ho1.frozen
  have hf1 := Lib.hid ((hf.out.kept hb1).far (p := ⟨G + 1 + 1, 0, none⟩) (by show G ≠ G + 1 + 1; omega) (.slice (some ⟨g1, 0, none⟩) n1 n1))
  have hr1 := Lib.hid ((hr.out.kept hb1).far (p := ⟨G + 1 + 1, 0, none⟩) (by show G + 1 ≠ G + 1 + 1; omega) (.slice (some ⟨g1, 0, none⟩) n1 n1))
  have ho2 := Lib.hid (show Has (w1.setCell ⟨G + 1 + 1, 0, none⟩ (.slice (some ⟨g1, 0, none⟩) n1 n1)) (G + 1 + 1) 44 #[.slice (some ⟨g1, 0, none⟩) n1 n1, .slice none 0 0] from ho1.put 0 _)
  have hk1 := Lib.hid ((KeptBut.refl w1 (fun i => i = G + 1 + 1)).put (p := ⟨G + 1 + 1, 0, none⟩) (fun _ => rfl) (.slice (some ⟨g1, 0, none⟩) n1 n1))
  have hO2 := Lib.hid (hO1.but hk1.out (fun k e1 e2 => by
    have e3 : g1 = k := by injection e1
    omega))
  have hB2 := Lib.hid ((hB.out.trans (hb1.mono hB.out.size)).setCell (p := ⟨G + 1 + 1, 0, none⟩) (by show w.heap.size ≤ G + 1 + 1; omega) (.slice (some ⟨g1, 0, none⟩) n1 n1))
  have hF2 := Lib.hid (show Ils _ _ A2 n2 F.ns from ((hFo.out.2.below hB2.out).more hB2.out.size))
  have hzw := hk1.out.size
  clear cf
  have cf := (hf.out.kept hb1).cell
  clear hb1 hO1 ho1
  go_wp2_with fail
  clear co fo cf
  generalize w1.setCell ⟨G + 1 + 1, 0, none⟩ (.slice (some ⟨g1, 0, none⟩) n1 n1) = W2 at hf1 hr1 ho2 hO2 hB2 hF2 hzw ⊢
  have cf := hf1.out.cell
  refine (toIntS_any A2 n2 c2 F.ns _ hF2.out hn2).mono ?_
  rintro e w3 ⟨g2, rfl, hg2, hO3, hb3⟩
  have hz3 := hb3.size
  have hO2b := Lib.hid (hO2.out.below hb3)
  have ho3 := ho2.out.kept hb3
  have co := ho3.cell
  have fo := ho3.frozen
  have hg1l : g1 < W2.heap.size := (World.ownsRow.lt hO2.out g1 rfl).2
  have hk3 := Lib.hid ((KeptBut.refl w3 (fun i => i = G + 1 + 1)).put (p := ⟨G + 1 + 1, 1, none⟩) (fun _ => rfl) (.slice (some ⟨g2, 0, none⟩) n2 n2))
  have ho4 := Lib.hid (show Has (w3.setCell ⟨G + 1 + 1, 1, none⟩ (.slice (some ⟨g2, 0, none⟩) n2 n2)) (G + 1 + 1) 44 #[.slice (some ⟨g1, 0, none⟩) n1 n1, .slice (some ⟨g2, 0, none⟩) n2 n2] from ho3.put 1 _)
  have hr4 := Lib.hid ((hr1.out.kept hb3).far (p := ⟨G + 1 + 1, 1, none⟩) (by show G + 1 ≠ G + 1 + 1; omega) (.slice (some ⟨g2, 0, none⟩) n2 n2))
  have hV1 := Lib.hid (hO2b.out.but hk3.out (fun k e1 e2 => by
    have e3 : g1 = k := by injection e1
    omega))
  have hV2 := Lib.hid (hO3.but hk3.out (fun k e1 e2 => by
    have e3 : g2 = k := by injection e1
    omega))
  have hB4 := Lib.hid ((hB2.out.trans (hb3.mono hB2.out.size)).setCell (p := ⟨G + 1 + 1, 1, none⟩) (by show w.heap.size ≤ G + 1 + 1; omega) (.slice (some ⟨g2, 0, none⟩) n2 n2))
  have hr3 := hr1.out.kept hb3
  have cr := hr3.cell
  have fr := hr3.frozen
  have hP := Lib.hid (fun (wz : World) (hk : KeptBut (w3.setCell ⟨G + 1 + 1, 1, none⟩ (.slice (some ⟨g2, 0, none⟩) n2 n2)) wz (fun i => i = G + 1)) => (show Pl (FcB w.heap.size wz.heap.size (.slice (some ⟨g1, 0, none⟩) n1 n1) n1 (.slice (some ⟨g2, 0, none⟩) n2 n2) n2 F) w.heap.size wz.heap.size wz from by
    have h1 := hV1.out.but hk (fun k e1 e2 => by
      have e3 : g1 = k := by injection e1
      omega)
    have h2 := hV2.out.but hk (fun k e1 e2 => by
      have e3 : g2 = k := by injection e1
      omega)
    have p1 := OwnB.pl (owns_le h1 (show w.heap.size ≤ W0.heap.size from hB.out.size))
    have p2 := OwnB.pl (owns_le h2 (show w.heap.size ≤ W2.heap.size from hB2.out.size))
    rw [hl1] at p1
    rw [hl2] at p2
    exact p1.and p2))
  have hne : g1 ≠ g2 := by omega
  clear hb3 hO3 ho3 hO2b hr3
  go_wp2_with fail
  refine bodyPost_ret (v := .agg #[.slice (some ⟨g1, 0, none⟩) n1 n1, .slice (some ⟨g2, 0, none⟩) n2 n2]) (by simp [results, Try.results52, go_sem, cr]) rfl ⟨g1, g2, rfl, ?_, hne, ?_⟩
  · exact hP.out _ (((KeptBut.refl _ (fun i => i = G + 1)).put (p := ⟨G + 1, 0, none⟩) (fun _ => rfl) _).put (p := ⟨G + 1, 1, none⟩) (fun _ => rfl) _)
  · exact (hB4.out.setCell (p := ⟨G + 1, 0, none⟩) (by show w.heap.size ≤ G + 1; omega) _).setCell (p := ⟨G + 1, 1, none⟩) (by show w.heap.size ≤ G + 1; omega) _
end Go.Proofs.Ytdpeaabdpolmoaa
namespace Go.Proofs.Ytdpeaabdpolmoaa
set_option maxRecDepth 100000
set_option linter.unusedVariables false
open Go.ChangeShapes Go.WideShapes Go.RowKit Go.Deep
section
variable {H : Type} {enc : TypeId × Value → H} {w : World} {base : Nat}
theorem cells_ints : Try.prog.cellsOf 29 = 1 := by kernel_rfl
theorem cells_lawFac : Try.prog.cellsOf 61 = 2 := by kernel_rfl
theorem ints_of_trod {fuel : Nat} {v : Value} {x : DataW H × List MemPlace} (h : DataW.trod enc Try.prog w 0 (fun _ => true) true fuel 29 [v] = some x) :
    ∃ (A : Option Addr) (n c : Nat) (ds : List Int), v = .slice A n c ∧ n ≤ c ∧ c ≤ maxLen ∧ Ils w w.heap.size A n ds := by
  rcases open_ints Try.underlying29 Try.underlying3 (by kernel_rfl) h with ⟨hcs, _⟩ | ⟨x, l, c', zs, hcs, _, hl, hm, hz, _, hcell, hwz⟩
  · have e : v = .slice none 0 0 := by simpa using hcs
    exact ⟨none, 0, 0, [], e, Nat.le_refl _, by simp [maxLen], rfl, fun h => absurd h (by omega)⟩
  · have e : v = .slice (some x) l c' := by simpa using hcs
    have hz' : zs.length = c' := by simpa using hz
    refine ⟨some x, l, c', zs.take l, e, hl, hm, by rw [List.length_take]; omega, fun hn => ?_⟩
    obtain ⟨g, off, spot⟩ := x
    have h0 := hcell 0 (by omega)
    have hspot : spot = none := by simpa [Addr.add] using World.cell?_spot h0
    subst hspot
    have hlt := World.block_lt_of_cell? w _ h0
    refine ⟨g, off, rfl, by simpa [Addr.add] using hlt, fun i d hd => ?_⟩
    rw [List.getElem?_take] at hd
    split at hd
    · have hi' : i < zs.length := (List.getElem?_eq_some_iff.1 hd).1
      have := hcell i hi'
      rw [List.getD_eq_getElem?_getD, hd] at this
      rw [show some (Value.int .i64 d) = some (Value.int .i64 ((some d).getD 0)) from rfl, ← this]
      congr 1
      unfold Addr.add
      split
      · (rename_i h0; simp; try omega)
      · (simp; try omega)
    · cases hd
end
end Go.Proofs.Ytdpeaabdpolmoaa
