/- Diagrams: the program's numberCell, varCell, weave. -/
import Derived.Test.YtghkpmafocacoaaOc
namespace Go.Proofs.Ytghkpmafocacoaa
set_option maxRecDepth 100000
set_option linter.unusedVariables false
open Go.RowKit

theorem numberCell_any (B G o : Nat) (T : TypeId) (pre : List Value) (v : Value) (sl : List Int) (ds : List Ce) (x : Int) (w : World) (h : Wv w B G T pre v sl ds) (ho : pre.length = o) (hT : T ≠ 47) (hl : ds.length ≤ 250) :
    Calls Try.prog 130 #[.pointer (some ⟨G, o, none⟩), .int .i64 x] w (Wvd w B G T pre v (cput ds (cnum x))) := by
  have cC := cellFor_any B G o T pre v sl ds ⟨-1, x, 0, 0, 0⟩ w h ho hT hl
  dsimp only at cC
  have cCh := Lib.hid cC
  have hE := Lib.hid (show cput ds (cnum x) = cput ds ⟨-1, x, 0, 0, 0⟩ from rfl)
  rw [hE.out]
  clear h cC hE
  go_enter Try.func130, Try.ntmps130
  go_wp2_with fail
  refine cCh.out.mono ?_
  rintro e w' ⟨v', sl', rfl, hW, hF⟩
  have hW' := Lib.hid hW
  have hF' := Lib.hid hF
  clear hW hF
  go_wp2_with fail
  go_ret
  exact ⟨v', sl', rfl, hW'.out, hF'.out⟩
theorem varCell_any (B G o : Nat) (T : TypeId) (pre : List Value) (v : Value) (sl : List Int) (ds : List Ce) (u a b c : Nat) (w : World) (h : Wv w B G T pre v sl ds) (ho : pre.length = o) (hT : T ≠ 47) (hl : ds.length ≤ 250) :
    Calls Try.prog 131 #[.pointer (some ⟨G, o, none⟩), .int .i64 (u : Int), .agg #[.int .i64 (a : Int), .int .i64 (b : Int), .int .i64 (c : Int)]] w (Wvd w B G T pre v (cvar ds u a b c)) := by
  have eqA : ∀ w, (Op.equalIn 10000 45 (.agg #[.int .i64 (a : Int), .int .i64 (b : Int), .int .i64 (c : Int)]) (.agg #[.int .i64 (a : Int), .int .i64 (a : Int), .int .i64 (a : Int)])).run Try.prog w = .ok (eq3 a b c a a a) w := fun w => eqW _ _ _ _ _ _ w
  have hb0 : Below w.heap.size w (w.alloc (.cells #[.int .i64 (a : Int), .int .i64 (b : Int), .int .i64 (c : Int)] 45)) := (Below.refl _ _).alloc (Nat.le_refl _) _
  have hh := Lib.hid (h.below hb0)
  have hB := Lib.hid hb0
  by_cases hs : b = a ∧ c = a
  · have h3 : eq3 (a : Int) b c a a a = true := by obtain ⟨rfl, rfl⟩ := hs; simp [eq3]
    have hR := Lib.hid (show cvar ds u a b c = (ds, a) from if_pos hs)
    clear h hs hb0
    go_enter Try.func131, Try.ntmps131
    go_wp2_with fail
    go_ret
    exact ⟨v, sl, ret_int (by rw [hR.out]), by rw [hR.out]; exact hh.out, Wf2.of_below hB.out _ _⟩
  · have h3 : eq3 (a : Int) b c a a a = false := by
      unfold eq3
      rw [Bool.eq_false_iff]
      intro q
      simp only [Bool.and_eq_true, beq_iff_eq] at q
      exact hs ⟨by omega, by omega⟩
    have hR := Lib.hid (show cvar ds u a b c = cput ds ⟨u, 0, a, b, c⟩ from if_neg hs)
    have cC := Lib.hid (fun (wx : World) (hx : Wv wx B G T pre v sl ds) => cellFor_any B G o T pre v sl ds ⟨u, 0, a, b, c⟩ wx hx ho hT hl)
    dsimp only at cC
    clear h hs hb0
    rw [hR.out]
    go_enter Try.func131, Try.ntmps131
    go_wp2_with fail
    refine (cC.out _ hh.out).mono ?_
    rintro e w' ⟨v', sl', rfl, hW, hF⟩
    have hW' := Lib.hid hW
    have hF' := Lib.hid ((Wf2.of_below hB.out G v).trans hF)
    clear hW hF
    go_wp2_with fail
    go_ret
    exact ⟨v', sl', rfl, hW'.out, hF'.out⟩
theorem wv_low {s v x : Nat} (hs : s < 3 ^ v) (hv : v ≤ 3) (hx : x ≤ 2) : withValue (s : Int) (v : Int) (x : Int) = ((s + x * 3 ^ v : Nat) : Int) := by
  have h81 : s ≤ 80 := by
    obtain rfl | rfl | rfl | rfl : v = 0 ∨ v = 1 ∨ v = 2 ∨ v = 3 := by omega
    all_goals
      simp only [Nat.reducePow] at hs
      omega
  rw [withValue_yes (k := v) (by omega) (by omega) rfl hv (by omega) (by omega)]
  obtain rfl | rfl | rfl | rfl : v = 0 ∨ v = 1 ∨ v = 2 ∨ v = 3 := by omega
  all_goals
    simp only [Nat.reducePow] at hs
    simp only [p3, Nat.reducePow]
    omega
theorem pow_low {s v x : Nat} (hs : s < 3 ^ v) (hx : x ≤ 2) : s + x * 3 ^ v < 3 ^ (v + 1) := by
  rw [Nat.pow_succ]
  have : x * 3 ^ v ≤ 2 * 3 ^ v := Nat.mul_le_mul_right _ hx
  omega
/-- A list that lies below what a weaver turns. -/
theorem ils_wf {w w' : World} {Bl B G : Nat} {v v' : Value} {A : Option Addr} {n : Nat} {os : List Int} (h : Ils w Bl A n os) (hf : Wf2 w w' G v v') (hG : Bl ≤ G) (hs : Bl ≤ w.heap.size) (hv : ∀ k, v.ownBlock = some k → Bl ≤ k) : Ils w' Bl A n os :=
  h.below (hf.but.below (fun i hi e => by
    rcases e with e | e
    · omega
    · have := hv i e; omega) hs)
end Go.Proofs.Ytghkpmafocacoaa
