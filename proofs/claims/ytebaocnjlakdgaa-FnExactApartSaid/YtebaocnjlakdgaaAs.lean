/- Whether products are the same, whether two variables hang on each other nowhere: the model's functions. -/
import Derived.Test.YtebaocnjlakdgaaAc
import Derived.Test.YtebaocnjlakdgaaAr
namespace Go.Proofs.Ytebaocnjlakdgaa
set_option maxRecDepth 100000
set_option linter.unusedVariables false
open Go.RowKit

/-- How it is told whether products differ. -/
def Crd (w : World) (a b c d : Int) (e : Ending) (w' : World) : Prop := e = .returned (.bool (decide (a * b ≠ c * d))) ∧ ∃ k, w' = w.drewN k
theorem crd_of {w : World} {a b c d : Int} {x : Bool} (h : decide (a * b ≠ c * d) = x) (k : Nat) : Crd w a b c d (.returned (.bool x)) (w.drewN k) := ⟨by rw [h], k, rfl⟩
theorem gcdI_part_pos {a c : Int} (ha : 0 < a) (hc : 0 ≤ c) : 0 < a / gcdI a c := by
  have h := (gcdI_dvd (show 0 ≤ a by omega) hc).1
  have h1 : 0 < gcdI a c := by
    unfold gcdI
    have := Nat.gcd_pos_of_pos_left c.toNat (show 0 < a.toNat by omega)
    omega
  have h2 := Int.ediv_mul_cancel h
  have h3 := Int.ediv_nonneg (show 0 ≤ a by omega) (show 0 ≤ gcdI a c by omega)
  rcases Int.lt_or_eq_of_le h3 with h4 | h4
  · exact h4
  · rw [← h4, Int.zero_mul] at h2; omega
theorem gcdI_part_pos' {a c : Int} (ha : 0 ≤ a) (hc : 0 < c) : 0 < c / gcdI a c := by
  have h := (gcdI_dvd ha (show 0 ≤ c by omega)).2
  have h1 := gcdI_pos (a := a) hc
  have h2 := Int.ediv_mul_cancel h
  have h3 := Int.ediv_nonneg (show 0 ≤ c by omega) (show 0 ≤ gcdI a c by omega)
  rcases Int.lt_or_eq_of_le h3 with h4 | h4
  · exact h4
  · rw [← h4, Int.zero_mul] at h2; omega
theorem prod_ne {c d : Int} (hc : c ≠ 0) (hd : d ≠ 0) : c * d ≠ 0 := Int.mul_ne_zero hc hd

set_option maxHeartbeats 1000000 in
theorem l4Cross_any (a b c d : Int) (w : World) (ha : 0 ≤ a ∧ a ≤ 1000000000000000000) (hb : 0 ≤ b ∧ b ≤ 1000000000000000000) (hc : 0 ≤ c ∧ c ≤ 1000000000000000000) (hd : 0 ≤ d ∧ d ≤ 1000000000000000000) :
    Calls Try.prog 67 #[.int .i64 a, .int .i64 b, .int .i64 c, .int .i64 d] w (Crd w a b c d) := by
  by_cases ea : a = 0
  · subst ea
    by_cases ec : c = 0
    · subst ec
      have hR := Lib.hid (show decide (0 * b ≠ 0 * d) = false by simp)
      go_enter Try.func67, Try.ntmps67
      go_wp2_with fail
      go_ret
      exact crd_of hR.out 0
    · have fc : (c == 0) = false := by simpa using ec
      by_cases ed : d = 0
      · subst ed
        have hR := Lib.hid (show decide (0 * b ≠ c * 0) = false by simp)
        go_enter Try.func67, Try.ntmps67
        go_wp2_with fail
        go_ret
        exact crd_of hR.out 0
      · have fd : (d == 0) = false := by simpa using ed
        have pd := prod_ne ec ed
        have hR := Lib.hid (show decide (0 * b ≠ c * d) = true from decide_eq_true (by intro e; apply pd; rw [← e]; simp))
        clear pd
        go_enter Try.func67, Try.ntmps67
        go_wp2_with fail
        go_ret
        exact crd_of hR.out 0
  · have fa : (a == 0) = false := by simpa using ea
    by_cases eb : b = 0
    · subst eb
      by_cases ec : c = 0
      · subst ec
        have hR := Lib.hid (show decide (a * 0 ≠ 0 * d) = false by simp)
        go_enter Try.func67, Try.ntmps67
        go_wp2_with fail
        go_ret
        exact crd_of hR.out 0
      · have fc : (c == 0) = false := by simpa using ec
        by_cases ed : d = 0
        · subst ed
          have hR := Lib.hid (show decide (a * 0 ≠ c * 0) = false by simp)
          go_enter Try.func67, Try.ntmps67
          go_wp2_with fail
          go_ret
          exact crd_of hR.out 0
        · have fd : (d == 0) = false := by simpa using ed
          have pd := prod_ne ec ed
          have hR := Lib.hid (show decide (a * 0 ≠ c * d) = true from decide_eq_true (by intro e; apply pd; rw [← e]; simp))
          clear pd
          go_enter Try.func67, Try.ntmps67
          go_wp2_with fail
          go_ret
          exact crd_of hR.out 0
    · have fb : (b == 0) = false := by simpa using eb
      by_cases ec : c = 0
      · subst ec
        have hR := Lib.hid (show decide (a * b ≠ 0 * d) = true from decide_eq_true (by intro e; exact prod_ne ea eb (by rw [e]; simp)))
        go_enter Try.func67, Try.ntmps67
        go_wp2_with fail
        go_ret
        exact crd_of hR.out 0
      · have fc : (c == 0) = false := by simpa using ec
        by_cases ed : d = 0
        · subst ed
          have hR := Lib.hid (show decide (a * b ≠ c * 0) = true from decide_eq_true (by intro e; exact prod_ne ea eb (by rw [e]; simp)))
          go_enter Try.func67, Try.ntmps67
          go_wp2_with fail
          go_ret
          exact crd_of hR.out 0
        · have fd : (d == 0) = false := by simpa using ed
          have pd := prod_ne ec ed
          have hX := cross_int (a := a) (b := b) (c := c) (d := d) (by omega) (by omega) (by omega) (by omega)
          have c1 := Lib.hid (fun wx => l4Common_any a c wx (by omega) (by omega))
          have c2 := Lib.hid (fun wx => l4Common_any b d wx (by omega) (by omega))
          have g1 := gcdI_pos (a := a) (b := c) (by omega)
          have g2 := gcdI_pos (a := b) (b := d) (by omega)
          have k1 := (gcdI_bd ha hc).2
          have k2 := (gcdI_bd hb hd).2
          have a1 := div_bd ha g1
          have b1 := div_bd hb g2
          have c3 := div_bd hc g1
          have d1 := div_bd hd g2
          have pa := gcdI_part_pos (show 0 < a by omega) hc.1
          have pc := gcdI_part_pos' ha.1 (show 0 < c by omega)
          have pb := gcdI_part_pos (show 0 < b by omega) hd.1
          have pd2 := gcdI_part_pos' hb.1 (show 0 < d by omega)
          generalize gcdI a c = g at *
          generalize gcdI b d = h at *
          have nw1 : 0 ≤ a / g ∧ a / g ≤ 1000000000000000000 := a1
          obtain ⟨x, hx⟩ : ∃ x, x = a / g := ⟨_, rfl⟩
          obtain ⟨y, hy⟩ : ∃ y, y = b / h := ⟨_, rfl⟩
          obtain ⟨z, hz⟩ : ∃ z, z = c / g := ⟨_, rfl⟩
          obtain ⟨u, hu⟩ : ∃ u, u = d / h := ⟨_, rfl⟩
          have ex := hx.symm
          have ey := hy.symm
          have ez := hz.symm
          have eu := hu.symm
          rw [← hx] at hX a1 pa
          rw [← hy] at hX b1 pb
          rw [← hz] at hX c3 pc
          rw [← hu] at hX d1 pd2
          clear nw1 hx hy hz hu
          have c4 := Lib.hid (fun wx => l4Common_any x u wx (by omega) (by omega))
          have c5 := Lib.hid (fun wx => l4Common_any y z wx (by omega) (by omega))
          have g3 := gcdI_pos (a := x) (b := u) (by omega)
          have g4 := gcdI_pos (a := y) (b := z) (by omega)
          have k3 := (gcdI_bd a1 d1).2
          have k4 := (gcdI_bd b1 c3).2
          generalize gcdI x u = p at *
          generalize gcdI y z = q at *
          by_cases e1 : x / p = z / q
          · have f1 : (x / p != z / q) = false := by simpa using e1
            by_cases e2 : y / q = u / p
            · have f2 : (y / q != u / p) = false := by simpa using e2
              have hR := Lib.hid (show decide (a * b ≠ c * d) = false from decide_eq_false (by have := hX.1 ⟨e1, e2⟩; simpa using this))
              clear hX e1 e2
              go_enter Try.func67, Try.ntmps67
              go_wp2_with fail
              refine (c1.out _).mono ?_
              rintro e w1 ⟨rfl, rfl⟩
              go_wp2_with fail
              refine (c2.out _).mono ?_
              rintro e w2 ⟨rfl, rfl⟩
              go_wp2_with fail
              refine (c4.out _).mono ?_
              rintro e w3 ⟨rfl, rfl⟩
              go_wp2_with fail
              refine (c5.out _).mono ?_
              rintro e w4 ⟨rfl, rfl⟩
              go_wp2_with fail
              go_quiet (fail)
              go_wp2_with fail
              go_ret
              exact crd_of hR.out _
            · have f2 : (y / q != u / p) = true := by simpa using e2
              have hR := Lib.hid (show decide (a * b ≠ c * d) = true from decide_eq_true (fun e => e2 (hX.2 e).2))
              clear hX e1 e2
              go_enter Try.func67, Try.ntmps67
              go_wp2_with fail
              refine (c1.out _).mono ?_
              rintro e w1 ⟨rfl, rfl⟩
              go_wp2_with fail
              refine (c2.out _).mono ?_
              rintro e w2 ⟨rfl, rfl⟩
              go_wp2_with fail
              refine (c4.out _).mono ?_
              rintro e w3 ⟨rfl, rfl⟩
              go_wp2_with fail
              refine (c5.out _).mono ?_
              rintro e w4 ⟨rfl, rfl⟩
              go_wp2_with fail
              go_quiet (fail)
              go_wp2_with fail
              go_ret
              exact crd_of hR.out _
          · have f1 : (x / p != z / q) = true := by simpa using e1
            have hR := Lib.hid (show decide (a * b ≠ c * d) = true from decide_eq_true (fun e => e1 (hX.2 e).1))
            clear hX e1
            go_enter Try.func67, Try.ntmps67
            go_wp2_with fail
            refine (c1.out _).mono ?_
            rintro e w1 ⟨rfl, rfl⟩
            go_wp2_with fail
            refine (c2.out _).mono ?_
            rintro e w2 ⟨rfl, rfl⟩
            go_wp2_with fail
            refine (c4.out _).mono ?_
            rintro e w3 ⟨rfl, rfl⟩
            go_wp2_with fail
            refine (c5.out _).mono ?_
            rintro e w4 ⟨rfl, rfl⟩
            go_wp2_with fail
            go_quiet (fail)
            go_wp2_with fail
            go_ret
            exact crd_of hR.out _

end Go.Proofs.Ytebaocnjlakdgaa
