/- The small functions of the program's sweep. -/
import Derived.Test.YtjokiminlplbcaaLiv
import Derived.Test.YtjokiminlplbcaaStS
import Derived.Test.YtjokiminlplbcaaPl
import Derived.Deep.LoopGhost
namespace Go.Proofs.Ytjokiminlplbcaa
set_option maxRecDepth 100000
set_option linter.unusedVariables false
open Go.RowKit

/-- A state with 0 for all variables that are not in a set. -/
def vo1 (L st : Int) (v : Nat) : Int := if tb L v = true then st else withValue st v 0
def voN (L st : Int) : Nat → Int
  | 0 => st
  | v + 1 => vo1 L (voN L st v) v
def vo (L st : Int) : Int := voN L st 4
theorem vo1_bd {L st : Int} {v : Nat} (hs : 0 ≤ st ∧ st ≤ 80) (hv : v ≤ 3) : 0 ≤ vo1 L st v ∧ vo1 L st v ≤ 80 := by
  unfold vo1
  split
  · exact hs
  · exact with_bd hs (by omega) (by decide)
theorem voN_bd {L st : Int} (hs : 0 ≤ st ∧ st ≤ 80) : ∀ (v : Nat), v ≤ 4 → 0 ≤ voN L st v ∧ voN L st v ≤ 80
  | 0, _ => hs
  | v + 1, h => vo1_bd (voN_bd hs v (by omega)) (by omega)
theorem vo_bd {L st : Int} (hs : 0 ≤ st ∧ st ≤ 80) : 0 ≤ vo L st ∧ vo L st ≤ 80 := voN_bd hs 4 (by decide)
theorem voN_agree {L st : Int} (hs : 0 ≤ st ∧ st ≤ 80) : ∀ (v : Nat), v ≤ 4 → agree L (voN L st v) st
  | 0, _ => fun _ _ _ => rfl
  | v + 1, h => by
    intro i hi ht
    have ih := voN_agree hs v (by omega) i hi ht
    have hb := voN_bd (L := L) hs v (by omega)
    rw [voN]
    unfold vo1
    split
    · exact ih
    · rename_i hv
      rw [(valueAt_with hb (show 0 ≤ (v : Int) ∧ (v : Int) ≤ 3 by omega) (by decide)).2 i (by omega) (by omega) (by
        intro e
        have : i = v := by omega
        subst this
        exact hv ht)]
      exact ih
theorem vo_agree {L st : Int} (hs : 0 ≤ st ∧ st ≤ 80) : agree L (vo L st) st := voN_agree hs 4 (by decide)

theorem fin16 {L : Int} (h : 0 ≤ L ∧ L ≤ 15) : ∃ n : Fin 16, L = (n.val : Int) := ⟨⟨L.toNat, by omega⟩, by simp; omega⟩
theorem and_all : ∀ (n : Fin 16) (k : Fin 4), (bits .and .i64 (n.val : Int) (bitN (k.val : Int)) == 0) = !tb (n.val : Int) k.val := by decide +kernel
theorem or_all : ∀ (n m : Fin 16), bits .or .i64 (n.val : Int) (m.val : Int) = bor (n.val : Int) (m.val : Int) := by decide +kernel
theorem diff_all : ∀ (n m : Fin 16), bits .andNot .i64 (n.val : Int) (m.val : Int) = bdf (n.val : Int) (m.val : Int) := by decide +kernel
theorem bits_and {L : Int} (h : 0 ≤ L ∧ L ≤ 15) {k : Nat} (hk : k ≤ 3) : (bits .and .i64 L (bitN (k : Int)) == 0) = !tb L k := by
  obtain ⟨n, rfl⟩ := fin16 h
  exact and_all n ⟨k, by omega⟩
theorem bits_or {a b : Int} (ha : 0 ≤ a ∧ a ≤ 15) (hb : 0 ≤ b ∧ b ≤ 15) : bits .or .i64 a b = bor a b := by
  obtain ⟨n, rfl⟩ := fin16 ha
  obtain ⟨m, rfl⟩ := fin16 hb
  exact or_all n m
theorem bits_diff {a b : Int} (ha : 0 ≤ a ∧ a ≤ 15) (hb : 0 ≤ b ∧ b ≤ 15) : bits .andNot .i64 a b = bdf a b := by
  obtain ⟨n, rfl⟩ := fin16 ha
  obtain ⟨m, rfl⟩ := fin16 hb
  exact diff_all n m

theorem WithValue_q (s v x : Int) (w : World) : Calls Try.prog 115 #[.int .i64 s, .int .i64 v, .int .i64 x] w fun e w' => e = .returned (.int .i64 (withValue s v x)) ∧ w = w' := WithValue_any s v x w

theorem valuesOnly_any (st L : Int) (w : World) (hs : 0 ≤ st ∧ st ≤ 80) (hL : 0 ≤ L ∧ L ≤ 15) :
    Calls Try.prog 103 #[.int .i64 st, .int .i64 L] w fun e w' => e = .returned (.int .i64 (vo L st)) ∧ w = w' := by
  go_enter Try.func103, Try.ntmps103
  go_wp2
  go_loop [0, 5] (fun s v => ∃ k : Nat, k ≤ 4 ∧ v = .int .i64 k ∧ s = .int .i64 (voN L st k)) (fun _ v => 4 - (intOf v).toNat)
  case atStart => exact ⟨0, by omega, rfl, rfl⟩
  case round =>
    obtain ⟨k, hk, rfl, rfl⟩ := hrel
    have hb := voN_bd (L := L) hs k hk
    by_cases hlt : k < 4
    · have hba := bits_and hL (show k ≤ 3 by omega)
      have hvn := Lib.hid (show voN L st (k + 1) = vo1 L (voN L st k) k from rfl)
      cases htb : tb L k
      · rw [htb] at hba
        have hvv := Lib.hid (show voN L st (k + 1) = withValue (voN L st k) k 0 by rw [hvn.out]; unfold vo1; rw [htb]; rfl)
        clear htb
        go_wp2_with (first | (go_at_call 120; refine (bitOf_any _ _).mono ?_; rintro e w' ⟨rfl, rfl⟩) | (go_at_call 115; refine (WithValue_any _ _ _ _).mono ?_; rintro e w' ⟨rfl, rfl⟩))
        go_round
        case rel => exact ⟨k + 1, by omega, by go_num, by rw [hvv.out]⟩
        case measure => simp [intOf]; omega
      · rw [htb] at hba
        have hvv := Lib.hid (show voN L st (k + 1) = voN L st k by rw [hvn.out]; unfold vo1; rw [htb]; rfl)
        clear htb
        go_wp2_with (first | (go_at_call 120; refine (bitOf_any _ _).mono ?_; rintro e w' ⟨rfl, rfl⟩) | (go_at_call 115; refine (WithValue_any _ _ _ _).mono ?_; rintro e w' ⟨rfl, rfl⟩))
        exact ⟨⟨k + 1, by omega, by go_num, by rw [hvv.out]⟩, by simp [intOf]; omega⟩
    · obtain rfl : k = 4 := by omega
      go_wp2
      go_ret
      exact ⟨rfl, rfl⟩
end Go.Proofs.Ytjokiminlplbcaa
