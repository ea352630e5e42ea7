/- The program's tracer goes to the next trace that has a weight. -/
import Derived.Test.YtjokiminlplbcaaTro
import Derived.Test.YtjokiminlplbcaaTrp
namespace Go.Proofs.Ytjokiminlplbcaa
set_option maxRecDepth 100000
set_option linter.unusedVariables false
open Go.RowKit

/-- How the way to a trace with a weight ends; ls are the runs that are still to come. -/
def Wtd (os : List St) (m : Nat) (g c : Nat) (A : Option Addr) (ls : List Leaf) (vr vs : Value) (w : World) (e : Ending) (w' : World) : Prop :=
  ∃ (row' : List Int) (stk' : List Rn) (now' : Rn) (vr' vs' : Value), Trcr w' g m A c os row' stk' now' vr' vs' ∧ Inv os row' stk' now' ∧ Trd w w' g vr vs vr' vs' ∧
    ((e = .returned (.bool true) ∧ 0 < now'.wt ∧ filt ls = (row', now'.st, now'.wt) :: filt (rest os row' stk' row'.length)) ∨ (e = .returned (.bool false) ∧ filt ls = []))

set_option maxHeartbeats 1000000 in
theorem toWeight_any (os : List St) (m : Nat) (hM : os.length = m) (hlen : m ≤ 12) (hOK : os.all St.ok = true) (g c : Nat) (A : Option Addr) (row : List Int) (stk : List Rn) (now : Rn) (vr vs : Value) (w : World) (h : Trcr w g m A c os row stk now vr vs) (hi : Inv os row stk now) :
    Calls Try.prog 58 #[.pointer (some ⟨g, 0, none⟩)] w (Wtd os m g c A (todo os row stk now) vr vs w) := by
  have hT := Lib.hid h
  have hI := Lib.hid hi
  clear h hi
  go_enter Try.func58, Try.ntmps58
  go_wp2_with fail
  go_loopg [] ((todo os row stk now).length) (fun gn wr => ∃ (row' : List Int) (stk' : List Rn) (now' : Rn) (vr' vs' : Value), Trcr wr g m A c os row' stk' now' vr' vs' ∧ Inv os row' stk' now' ∧ Trd w wr g vr vs vr' vs' ∧ (todo os row' stk' now').length ≤ gn ∧ filt (todo os row stk now) = filt (todo os row' stk' now'))
  case atStart => exact ⟨row, stk, now, vr, vs, hT.out, hI.out, ⟨KeptBut.refl _ _, fun k hk => .inl hk, fun k hk => .inl hk⟩, Nat.le_refl _, rfl⟩
  case round =>
    obtain ⟨row', stk', now', vr', vs', hT', hI', hD', hgn, hft⟩ := hrel
    have cR := Lib.hid (runOn_any os m hM hlen hOK g c A row' stk' now' vr' vs' wr hT' hI')
    have hD1 := Lib.hid hD'
    have hF := Lib.hid hft
    clear hT' hI' hD' hft
    go_wp2_with fail
    refine (cR.out).mono ?_
    rintro e w1 ⟨row1, stk1, now1, vr1, vs1, he, hT1, hI1, hD2, htd, hend⟩
    have hleaf := Lib.hid (todo_leaf (row := row1) (stk := stk1) hend)
    have hDD := Lib.hid (hD1.out.trans hD2)
    have hTd := Lib.hid htd
    have cU := Lib.hid (countUp_any os m hM hlen g c A row1 stk1 now1 vr1 vs1 w1 hT1 hI1)
    have hT1' := Lib.hid hT1
    have hI1' := Lib.hid hI1
    have hw0 := hI1.fit.2.2.1
    have hgn' := Lib.hid hgn
    clear hT1 hI1 hD2 htd hend hgn
    by_cases hw : 0 < now1.wt
    · have hR := Lib.hid (show filt (todo os row stk now) = (row1, now1.st, now1.wt) :: filt (rest os row1 stk1 row1.length) by
        rw [hF.out, hTd.out, hleaf.out]
        exact filt_yes (by show now1.wt ≠ 0; omega))
      rw [decide_eq_true hw] at he
      subst he
      go_wp2_with fail
      go_ret
      exact ⟨row1, stk1, now1, vr1, vs1, hT1'.out, hI1'.out, hDD.out, .inl ⟨rfl, hw, hR.out⟩⟩
    · have hz : now1.wt = 0 := by omega
      have hlt := Lib.hid (show (rest os row1 stk1 row1.length).length < (todo os row' stk' now').length by
        rw [hTd.out, hleaf.out]; exact Nat.lt_succ_self _)
      have hR := Lib.hid (show filt (todo os row stk now) = filt (rest os row1 stk1 row1.length) by
        rw [hF.out, hTd.out, hleaf.out]
        exact filt_no hz)
      clear hz
      rw [decide_eq_false hw] at he
      subst he
      go_wp2_with fail
      refine (cU.out).mono ?_
      rintro e w2 (⟨rfl, hnil, hT2, hD2⟩ | ⟨row2, stk2, now2, vr2, vs2, rfl, hrs, hT2, hI2, hD2⟩)
      · have hE := Lib.hid (And.intro hnil (And.intro hT2 hD2))
        clear hnil hT2 hD2
        go_wp2_with fail
        go_ret
        exact ⟨row1, stk1, now1, vr1, vs1, hE.out.2.1, hI1'.out, hDD.out.trans hE.out.2.2, .inr ⟨rfl, by rw [hR.out, hE.out.1]; rfl⟩⟩
      · have hE := Lib.hid (And.intro hrs (And.intro hT2 (And.intro hI2 hD2)))
        clear hrs hT2 hI2 hD2
        go_wp2_with fail
        go_roundg ((todo os row2 stk2 now2).length)
        case measure =>
          have h1 := hlt.out
          rw [hE.out.1] at h1
          have h2 := hgn'.out
          omega
        case rel => exact ⟨row2, stk2, now2, vr2, vs2, hE.out.2.1, hE.out.2.2.1, hDD.out.trans hE.out.2.2.2, Nat.le_refl _, by rw [hR.out, hE.out.1]⟩

theorem toNext_any (os : List St) (m : Nat) (hM : os.length = m) (hlen : m ≤ 12) (hOK : os.all St.ok = true) (g c : Nat) (A : Option Addr) (row : List Int) (stk : List Rn) (now : Rn) (vr vs : Value) (w : World) (h : Trcr w g m A c os row stk now vr vs) (hi : Inv os row stk now) :
    Calls Try.prog 59 #[.pointer (some ⟨g, 0, none⟩)] w (Wtd os m g c A (rest os row stk row.length) vr vs w) := by
  have hI := Lib.hid hi
  have cU := Lib.hid (countUp_any os m hM hlen g c A row stk now vr vs w h hi)
  clear h hi
  go_enter Try.func59, Try.ntmps59
  go_wp2_with fail
  refine (cU.out).mono ?_
  rintro e w2 (⟨rfl, hnil, hT2, hD2⟩ | ⟨row2, stk2, now2, vr2, vs2, rfl, hrs, hT2, hI2, hD2⟩)
  · have hE := Lib.hid (And.intro hnil (And.intro hT2 hD2))
    clear hnil hT2 hD2
    go_wp2_with fail
    go_ret
    exact ⟨row, stk, now, vr, vs, hE.out.2.1, hI.out, hE.out.2.2, .inr ⟨rfl, by rw [hE.out.1]; rfl⟩⟩
  · have hE := Lib.hid (And.intro hrs (And.intro hT2 (And.intro hI2 hD2)))
    have cW := Lib.hid (toWeight_any os m hM hlen hOK g c A row2 stk2 now2 vr2 vs2 w2 hT2 hI2)
    clear hrs hT2 hI2 hD2
    go_wp2_with fail
    refine (cW.out).mono ?_
    rintro e w3 ⟨row3, stk3, now3, vr3, vs3, hT3, hI3, hD3, hr⟩
    have hX := Lib.hid (And.intro hT3 (And.intro hI3 (hE.out.2.2.2.trans hD3)))
    clear hT3 hI3 hD3
    rcases hr with ⟨rfl, hw, hf⟩ | ⟨rfl, hf⟩
    · have hf' := Lib.hid hf
      clear hf
      go_wp2_with fail
      go_ret
      exact ⟨row3, stk3, now3, vr3, vs3, hX.out.1, hX.out.2.1, hX.out.2.2, .inl ⟨rfl, hw, by rw [hE.out.1]; exact hf'.out⟩⟩
    · have hf' := Lib.hid hf
      clear hf
      go_wp2_with fail
      go_ret
      exact ⟨row3, stk3, now3, vr3, vs3, hX.out.1, hX.out.2.1, hX.out.2.2, .inr ⟨rfl, by rw [hE.out.1]; exact hf'.out⟩⟩
end Go.Proofs.Ytjokiminlplbcaa
