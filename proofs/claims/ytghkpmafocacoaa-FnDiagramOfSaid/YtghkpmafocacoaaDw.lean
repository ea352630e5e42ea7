/- Lists of numbers that are drawn: l3Some and DrawPushOn. -/
import Derived.Test.YtghkpmafocacoaaDrV
import Derived.Test.YtghkpmafocacoaaSm
import Derived.Test.YtghkpmafocacoaaTk
namespace Go.Proofs.Ytghkpmafocacoaa
set_option maxRecDepth 100000
set_option linter.unusedVariables false
open Go.RowKit

theorem owns_chg {w w' : World} {base size n R : Nat} {e : TypeId} {v : Value} {xs : List Value} (h : w.ownsRow base e size v n xs) (hc : Chg w w' R) (hR : R < base) : w'.ownsRow base e size v n xs :=
  owns_but h (KeptBut.of_grown hc (S := fun i => i = R) (fun k e => by injection e with e; exact e.symm)) (fun k hk e => by
    have := (World.ownsRow.lt h k hk).1
    omega)

/-- How drawing a list of the states' numbers ends. -/
def Smd (w : World) (R : Nat) (A : Option Addr) (n c p : Nat) (e : Ending) (w' : World) : Prop :=
  ∃ (v : Value) (ds : List Int) (p' : Nat), e = .returned v ∧ IOwn w' w.heap.size v ds ∧ ds.length = 81 ∧ p' ≤ p + 20 ∧ Rdr w' R R A n c p' ∧ Chg w w' R

set_option maxHeartbeats 1000000 in
theorem l3Some_any (R : Nat) (A : Option Addr) (n c p : Nat) (w : World) (h : Rdr w R R A n c p) (hp : p ≤ 900000) (hn : n ≤ 2000) :
    Calls Try.prog 135 #[.pointer (some ⟨R, 0, none⟩)] w (Smd w R A n c p) := by
  have hlt := h.lt
  have hR0 := Lib.hid h
  clear h
  go_enter Try.func135, Try.ntmps135
  go_wp2_with fail
  refine (l3Zeros_any _).mono ?_
  rintro e w1 ⟨o, rfl, hO, hb⟩
  have hO' : w1.ownsRow w.heap.size 3 1 o 81 (ints (zs 81)) := by
    have := hO
    unfold IOwn at this
    rwa [zs_len] at this
  obtain ⟨A3, c3, rfl, _, _⟩ := owns_form hO'
  obtain ⟨G, cur0, rfl, hwb, _⟩ := owns_open hO' (by decide)
  have hO1 := Lib.hid hO'
  have hr1 := hR0.out.below hb hlt
  have hC1 := Lib.hid (show Chg w w1 R from ⟨hb.os, hb.tape, hb.output, hb.size, fun i hi _ => hb.block i hi⟩)
  clear hO hO' hb
  go_wp2_with fail
  refine (pick_any R A n c p R 6 _ hr1 (by omega) hn (by decide)).mono ?_
  rintro e w2 ⟨x, rfl, hx0, hx1, hr2, hc2⟩
  have hO2 := Lib.hid (owns_chg hO1.out hc2 (by omega))
  have hC2 := Lib.hid (hC1.out.trans hc2)
  have hr2' := Lib.hid hr2
  clear hr1 hr2 hc2
  go_wp2_with fail
  go_loopg [4] (x + 1).toNat (fun gn o wr => ∃ (j : Int) (q : Nat) (ds : List Int), 0 ≤ j ∧ j ≤ 6 ∧ gn = j.toNat ∧ o = .int .i64 j ∧ q + 2 * j.toNat ≤ p + 13 ∧ Rdr wr R R A n c q ∧ wr.ownsRow w.heap.size 3 1 (.slice (some ⟨G, 0, none⟩) 81 c3) 81 (ints ds) ∧ ds.length = 81 ∧ Chg w wr R)
  case atStart => exact ⟨1 + x, p + 1, zs 81, by omega, by omega, by omega, rfl, by omega, hr2'.out, hO2.out, zs_len 81, hC2.out⟩
  case round =>
    obtain ⟨j, q, ds, hj0, hj6, hgn, rfl, hq, hr, hown, hl, hC⟩ := hrel
    have hgk : gk = j.toNat := hgn
    have hown' := Lib.hid hown
    have hC' := Lib.hid hC
    clear hgn hown hC
    by_cases hjp : 0 < j
    · go_wp2_with fail
      refine (pick_any R A n c q R 81 _ hr (by omega) hn (by decide)).mono ?_
      rintro e w3 ⟨y, rfl, hy0, hy1, hr3, hc3⟩
      have hO3 := Lib.hid (owns_chg hown'.out hc3 (by omega))
      have hC3 := Lib.hid (hC'.out.trans hc3)
      clear hc3
      go_wp2_with fail
      refine (pick_any R A n c (q + 1) R 10 _ hr3 (by omega) hn (by decide)).mono ?_
      rintro e w4 ⟨u, rfl, hu0, hu1, hr4, hc4⟩
      have hO4 := owns_chg hO3.out hc4 (by omega)
      have hC4 := Lib.hid (hC3.out.trans hc4)
      obtain ⟨z, rfl⟩ : ∃ z : Nat, y = (z : Int) := ⟨y.toNat, by omega⟩
      have hz : z < 81 := by omega
      obtain ⟨b, cur, hbe, hwb', hH, _, _, _, hcl⟩ := owns_open hO4 (by decide)
      have hbe' : G = b := by injection hbe with e; injection e
      subst hbe'
      have hc1 := hcl z (by omega)
      rw [ints_get (d := ds[z]'(by omega)) (List.getElem?_eq_getElem (by omega))] at hc1
      have hfz := hH.frozen z
      have hO5 := Lib.hid (owns_set (x := u) hO4 hz)
      have hC5 := Lib.hid (hC4.out.new (q := ⟨G, z, none⟩) hwb' (.int .i64 u))
      have hr5 := Lib.hid (hr4.new (q := ⟨G, z, none⟩) (by show R ≤ G; omega) (by show R ≠ G; omega) (.int .i64 u))
      generalize ds[z]'(by omega) = d0 at hc1
      clear hbe hH hcl hc4 hr3 hr4 hO4
      go_wp2_with fail
      go_roundg (j - 1).toNat
      case measure => omega
      case rel => exact ⟨j - 1, q + 1 + 1, ds.set z u, by omega, by omega, rfl, by go_num, by omega, hr5.out, hO5.out, by rw [List.length_set]; exact hl, hC5.out⟩
    · have hF := Lib.hid (show Smd w R A n c p (.returned (.slice (some ⟨G, 0, none⟩) 81 c3)) wr from ⟨_, ds, q, rfl, by unfold IOwn; rw [hl]; exact hown'.out, hl, by omega, hr, hC'.out⟩)
      go_wp2_with fail
      go_ret
      exact hF.out

theorem chg_below {a b c : World} {R : Nat} (h : Chg a b R) (hb : Below a.heap.size b c) : Chg a c R :=
  ⟨hb.os.trans h.os, hb.tape.trans h.tape, hb.output.trans h.output, Nat.le_trans h.size hb.size, fun i hi hne => (hb.block i hi).trans (h.block i hi hne)⟩
/-- How drawing a program and numbers ends. -/
def Psd (w : World) (e : Ending) (w' : World) : Prop :=
  ∃ (v u : Value) (ps : List St) (ds : List Int), e = .returned (.tuple #[v, u]) ∧ Own w' w.heap.size v ps ∧ ps.length ≤ 11 ∧ IOwn w' w.heap.size u ds ∧ ds.length ≤ 82 ∧ Below w.heap.size w w'
theorem own_chg {w w' : World} {base R : Nat} {v : Value} {os : List St} (h : Own w base v os) (hc : Chg w w' R) (hR : R < base) : Own w' base v os := owns_chg h hc hR

end Go.Proofs.Ytghkpmafocacoaa
