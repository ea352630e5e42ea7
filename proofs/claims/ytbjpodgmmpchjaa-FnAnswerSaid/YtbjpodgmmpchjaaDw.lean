/- Lists of numbers that are drawn: l3Some and DrawPushOn. -/
import Derived.Test.YtbjpodgmmpchjaaDrV
import Derived.Test.YtbjpodgmmpchjaaSm
import Derived.Test.YtbjpodgmmpchjaaTk
namespace Go.Proofs.Ytbjpodgmmpchjaa
set_option maxRecDepth 100000
set_option linter.unusedVariables false
open Go.RowKit

theorem owns_chg {w w' : World} {base size n R : Nat} {e : TypeId} {v : Value} {xs : List Value} (h : w.ownsRow base e size v n xs) (hc : Chg w w' R) (hR : R < base) : w'.ownsRow base e size v n xs :=
  owns_but h (KeptBut.of_grown hc (S := fun i => i = R) (fun k e => by injection e with e; exact e.symm)) (fun k hk e => by
    have := (World.ownsRow.lt h k hk).1
    omega)

/-- How drawing a list of the states' numbers ends. -/
def Smd (w : World) (R : Nat) (A : Option Addr) (n c p : Nat) (e : Ending) (w' : World) : Prop :=
  ∃ (v : Value) (ds : List Int) (p' : Nat), e = .returned v ∧ IOwn w' w.heap.size v ds ∧ ds.length = 81 ∧ p' ≤ p + 20 ∧ Rdr w' R R A n c p' ∧ Chg w w' R

set_option maxHeartbeats 1000000 in
theorem l3Some_any (R : Nat) (A : Option Addr) (n c p : Nat) (w : World) (h : Rdr w R R A n c p) (hp : p ≤ 900000) (hn : n ≤ 2000) :
    Calls Try.prog 75 #[.pointer (some ⟨R, 0, none⟩)] w (Smd w R A n c p) := by
  have hlt := h.lt
  have hR0 := Lib.hid h
  clear h
  go_enter Try.func75, Try.ntmps75
  go_wp2_with fail
  refine (l3Zeros_any _).mono ?_
  rintro e w1 ⟨o, rfl, hO, hb⟩
  have hO' : w1.ownsRow w.heap.size 3 1 o 81 (ints (zs 81)) := by
    have := hO
    unfold IOwn at this
    rwa [zs_len] at this
  obtain ⟨A3, c3, rfl, _, _⟩ := owns_form hO'
  obtain ⟨G, cur0, rfl, hwb, _⟩ := owns_open hO' (by decide)
  have hO1 := Lib.hid hO'
  have hr1 := hR0.out.below hb hlt
  have hC1 := Lib.hid (show Chg w w1 R from ⟨hb.os, hb.tape, hb.output, hb.size, fun i hi _ => hb.block i hi⟩)
  clear hO hO' hb
  go_wp2_with fail
  refine (pick_any R A n c p R 6 _ hr1 (by omega) hn (by decide)).mono ?_
  rintro e w2 ⟨x, rfl, hx0, hx1, hr2, hc2⟩
  have hO2 := Lib.hid (owns_chg hO1.out hc2 (by omega))
  have hC2 := Lib.hid (hC1.out.trans hc2)
  have hr2' := Lib.hid hr2
  clear hr1 hr2 hc2
  go_wp2_with fail
  go_loopg [4] (x + 1).toNat (fun gn o wr => ∃ (j : Int) (q : Nat) (ds : List Int), 0 ≤ j ∧ j ≤ 6 ∧ gn = j.toNat ∧ o = .int .i64 j ∧ q + 2 * j.toNat ≤ p + 13 ∧ Rdr wr R R A n c q ∧ wr.ownsRow w.heap.size 3 1 (.slice (some ⟨G, 0, none⟩) 81 c3) 81 (ints ds) ∧ ds.length = 81 ∧ Chg w wr R)
  case atStart => exact ⟨1 + x, p + 1, zs 81, by omega, by omega, by omega, rfl, by omega, hr2'.out, hO2.out, zs_len 81, hC2.out⟩
  case round =>
    obtain ⟨j, q, ds, hj0, hj6, hgn, rfl, hq, hr, hown, hl, hC⟩ := hrel
    have hgk : gk = j.toNat := hgn
    have hown' := Lib.hid hown
    have hC' := Lib.hid hC
    clear hgn hown hC
    by_cases hjp : 0 < j
    · go_wp2_with fail
      refine (pick_any R A n c q R 81 _ hr (by omega) hn (by decide)).mono ?_
      rintro e w3 ⟨y, rfl, hy0, hy1, hr3, hc3⟩
      have hO3 := Lib.hid (owns_chg hown'.out hc3 (by omega))
      have hC3 := Lib.hid (hC'.out.trans hc3)
      clear hc3
      go_wp2_with fail
      refine (pick_any R A n c (q + 1) R 10 _ hr3 (by omega) hn (by decide)).mono ?_
      rintro e w4 ⟨u, rfl, hu0, hu1, hr4, hc4⟩
      have hO4 := owns_chg hO3.out hc4 (by omega)
      have hC4 := Lib.hid (hC3.out.trans hc4)
      obtain ⟨z, rfl⟩ : ∃ z : Nat, y = (z : Int) := ⟨y.toNat, by omega⟩
      have hz : z < 81 := by omega
      obtain ⟨b, cur, hbe, hwb', hH, _, _, _, hcl⟩ := owns_open hO4 (by decide)
      have hbe' : G = b := by injection hbe with e; injection e
      subst hbe'
      have hc1 := hcl z (by omega)
      rw [ints_get (d := ds[z]'(by omega)) (List.getElem?_eq_getElem (by omega))] at hc1
      have hfz := hH.frozen z
      have hO5 := Lib.hid (owns_set (x := u) hO4 hz)
      have hC5 := Lib.hid (hC4.out.new (q := ⟨G, z, none⟩) hwb' (.int .i64 u))
      have hr5 := Lib.hid (hr4.new (q := ⟨G, z, none⟩) (by show R ≤ G; omega) (by show R ≠ G; omega) (.int .i64 u))
      generalize ds[z]'(by omega) = d0 at hc1
      clear hbe hH hcl hc4 hr3 hr4 hO4
      go_wp2_with fail
      go_roundg (j - 1).toNat
      case measure => omega
      case rel => exact ⟨j - 1, q + 1 + 1, ds.set z u, by omega, by omega, rfl, by go_num, by omega, hr5.out, hO5.out, by rw [List.length_set]; exact hl, hC5.out⟩
    · have hF := Lib.hid (show Smd w R A n c p (.returned (.slice (some ⟨G, 0, none⟩) 81 c3)) wr from ⟨_, ds, q, rfl, by unfold IOwn; rw [hl]; exact hown'.out, hl, by omega, hr, hC'.out⟩)
      go_wp2_with fail
      go_ret
      exact hF.out

theorem chg_below {a b c : World} {R : Nat} (h : Chg a b R) (hb : Below a.heap.size b c) : Chg a c R :=
  ⟨hb.os.trans h.os, hb.tape.trans h.tape, hb.output.trans h.output, Nat.le_trans h.size hb.size, fun i hi hne => (hb.block i hi).trans (h.block i hi hne)⟩
/-- How drawing a program and numbers ends. -/
def Psd (w : World) (e : Ending) (w' : World) : Prop :=
  ∃ (v u : Value) (ps : List St) (ds : List Int), e = .returned (.tuple #[v, u]) ∧ Own w' w.heap.size v ps ∧ ps.length ≤ 11 ∧ IOwn w' w.heap.size u ds ∧ ds.length ≤ 82 ∧ Below w.heap.size w w'
theorem own_chg {w w' : World} {base R : Nat} {v : Value} {os : List St} (h : Own w base v os) (hc : Chg w w' R) (hR : R < base) : Own w' base v os := owns_chg h hc hR

set_option maxHeartbeats 1000000 in
theorem DrawPushOn_any (A : Option Addr) (n c : Nat) (w : World) (h : Byt w w.heap.size A n) (hn : n ≤ c) (hc : c ≤ maxLen) :
    Calls Try.prog 38 #[.slice A n c] w (Psd w) := by
  have hO := Lib.hid (l40Open_any A n c _ h hn hc)
  obtain ⟨i0, hi0, hz0, hz1', hz2'⟩ := info_parts info_int
  clear h hc
  go_enter Try.func38, Try.ntmps38
  go_wp2_with fail
  refine (hO.out).mono ?_
  rintro e w1 ⟨rfl, ⟨n', hn', hrd⟩, hb1⟩
  have hz1 : w.heap.size < w1.heap.size := hrd.lt
  clear hO
  go_wp2_with fail
  refine (l1Any_rd A n' c 0 w.heap.size 5 w1 w hrd (by omega) hn' (by omega) hb1 rfl).mono ?_
  rintro e w2 ⟨v, ps, p2, rfl, hown, hl, hb2, hp2, hr2⟩
  obtain ⟨A', c', hv, hlc, hcm⟩ := hown.form
  subst hv
  have hO2 := Lib.hid hown
  have hB2 := Lib.hid hb2
  have hz2 := hb2.size
  clear hown hrd hb1 hb2
  go_wp2_with fail
  refine (l3Some_any w.heap.size A n' c p2 _ hr2 (by omega) hn').mono ?_
  rintro e w3 ⟨o, ds, p3, rfl, hI, hl3, hp3, hr3, hc3⟩
  have hlt2 := hr2.lt
  have hC3 := Lib.hid hc3
  have hB3 := Lib.hid (hB2.out.trans (hc3.below (Nat.le_refl _) (by omega)))
  have hI3 := Lib.hid hI
  clear hI hc3
  go_wp2_with fail
  refine (pick_any w.heap.size A n' c p3 w.heap.size 30 _ hr3 (by omega) hn' (by decide)).mono ?_
  rintro e w4 ⟨k, rfl, hk0, hk1, hr4, hc4⟩
  have hz3 := hB3.out.size
  have hC4 := Lib.hid (hC3.out.trans hc4)
  have hB4 := Lib.hid (hB3.out.trans (hc4.below (Nat.le_refl _) (by omega)))
  have hI4 := Lib.hid (show IOwn w4 w2.heap.size o ds from owns_chg hI3.out hc4 hlt2)
  have hzr := hr4.lt
  clear hr2 hr3 hr4 hc4
  have hO81 : w4.ownsRow w2.heap.size 3 1 o 81 (ints ds) := by
    have := hI4.out
    unfold IOwn at this
    rwa [hl3] at this
  obtain ⟨A3, c3, rfl, _, hcm3⟩ := owns_form hO81
  obtain ⟨G, cur, rfl, hwb, hH, _, _, _, hcl⟩ := owns_open hO81 (by decide)
  have hfin := Lib.hid (show ∀ (u : Value) (es : List Int) (wz : World), Chg w2 wz w.heap.size → IOwn wz w2.heap.size u es → es.length ≤ 82 → Below w.heap.size w wz → Psd w (.returned (.tuple #[.slice A' ps.length c', u])) wz from
    fun u es wz q1 q2 q3 q4 => ⟨_, u, ps, es, rfl, owns_le (own_chg hO2.out q1 (Nat.lt_succ_self _)) (Nat.le_succ _), hl, owns_le q2 hz2, q3, q4⟩)
  by_cases e0 : k = 0
  · subst e0
    have hc1 := hcl 0 (by omega)
    rw [ints_get (d := ds[0]'(by omega)) (List.getElem?_eq_getElem (by omega))] at hc1
    generalize ds[0]'(by omega) = d0 at hc1
    have hfz := hH.frozen 0
    have hs5 := owns_set (x := 10) hO81 (show 0 < 81 by decide)
    have hI5 := Lib.hid (show IOwn (w4.setCell ⟨G, 0, none⟩ (.int .i64 10)) w2.heap.size (.slice (some ⟨G, 0, none⟩) 81 c3) (ds.set 0 10) from by
      unfold IOwn
      rw [List.length_set, hl3]
      exact hs5)
    have hO5 := Lib.hid (hC4.out.new (q := ⟨G, 0, none⟩) hwb (.int .i64 10))
    have hB5 := Lib.hid (hB4.out.setCell (p := ⟨G, 0, none⟩) (by show w.heap.size ≤ G; omega) (.int .i64 10))
    clear hcl hs5 hH hO81
    go_wp2_with fail
    go_ret2
    exact hfin.out _ _ _ hO5.out hI5.out (by rw [List.length_set]; omega) hB5.out
  · by_cases e1 : k = 1
    · subst e1
      have hO5 := Lib.hid (hI4.out.alloc (.cells #[.int .i64 0] 3))
      have hnw := Lib.hid (new_one w4 (.int .i64 0) 3)
      have hB5 := Lib.hid ((Below.refl w2.heap.size w4).alloc hC4.out.size (.cells #[.int .i64 0] 3))
      clear hcl hH hO81
      go_wp2_with (at_builtin; refine wpList_append_lies _ rfl (.tmp 22) (.tmp 23) 24 rfl w2.heap.size 3 i0 _ 1 8 Try.underlying24 hi0 hz0 hz1' hz2' rfl (by decide) (.slice (some ⟨G, 0, none⟩) 81 c3) 81 (ints ds) rfl (by have := hO5.out; unfold IOwn at this; rwa [hl3] at this) ⟨w4.heap.size, 0, none⟩ 1 1 [.int .i64 0] rfl rfl (by exact hnw.out) (by simp [Value.oneCell']) (by omega) (by unfold maxLen; omega) (by omega) (by have := hC4.out.size; simp; omega) (w4.heap.size + 1) (by simp) ?_; intro gr cr2 w5 hown5 hgrow5 hat5 hlt5)
      have hF := IOwn.append_ (news := [(0 : Int)]) hO5.out (by rw [hl3]; exact hown5) hgrow5 hB5.out (by have := hC4.out.size; simp; omega)
      have hF1 := Lib.hid hF.1
      have hO6 := Lib.hid (chg_below hC4.out hF.2)
      have hB6 := Lib.hid (hB4.out.trans (hF.2.mono hz2))
      clear hown5 hgrow5 hat5 hF
      go_wp2_with fail
      go_ret2
      exact hfin.out _ _ _ hO6.out hF1.out (by rw [List.length_append]; show ds.length + 1 ≤ 82; omega) hB6.out
    · have g0 : (k == 0) = false := by simpa using e0
      have g1 : (k == 1) = false := by simpa using e1
      clear hcl hH hO81 e0 e1
      go_wp2_with fail
      go_ret2
      exact hfin.out _ _ _ hC4.out hI4.out (by omega) hB4.out

end Go.Proofs.Ytbjpodgmmpchjaa
