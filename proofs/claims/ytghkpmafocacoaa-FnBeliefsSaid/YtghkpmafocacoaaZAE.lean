/- Parts of the proof: Cb, Ts, FA. -/
import Derived.Test.YtghkpmafocacoaaZAC
import Derived.Test.YtghkpmafocacoaaZAD
import Derived.StillTailTactics
import Derived.Deep.RegionLaw
import Derived.Deep.QuietTactic
import Derived.BigQuiet
import Derived.Deep.RegionHeld3
import Derived.Test.YtghkpmafocacoaaZAA
namespace Go.Proofs.Ytghkpmafocacoaa
set_option maxRecDepth 100000
set_option linter.unusedVariables false
open Go.RowKit
theorem Has.newAt {w : World} {n : Nat} {t : TypeId} {cs : Array Value} (h : w.heap.size = n) : Has (w.alloc (.cells cs t)) n t cs := h ▸ Has.new w t cs
end Go.Proofs.Ytghkpmafocacoaa

namespace Go.Proofs.Ytghkpmafocacoaa
set_option maxRecDepth 100000
set_option linter.unusedVariables false
open Go.RowKit
theorem l1At_v (st a : Int) (w : World) (hs : 0 ≤ st ∧ st ≤ 80) (ha : 0 ≤ a ∧ a ≤ 3) :
    Calls Try.prog 126 #[.int .i64 st, .int .i64 a] w fun e w' => e = .returned (.int .i64 (valueAt st a)) ∧ w' = w := by
  obtain ⟨k, rfl, hk⟩ := nat4 ha.1 ha.2
  rw [valueAt_yes hs.1 hs.2 rfl hk]
  exact (l1At_any st k hs.1 hs.2 hk w).mono fun _ _ h => ⟨h.1, h.2.symm⟩
theorem l1With_v (st a x : Int) (w : World) (hs : 0 ≤ st ∧ st ≤ 80) (ha : 0 ≤ a ∧ a ≤ 3) (hx : 0 ≤ x ∧ x ≤ 2) :
    Calls Try.prog 129 #[.int .i64 st, .int .i64 a, .int .i64 x] w fun e w' => e = .returned (.int .i64 (withValue st a x)) ∧ w' = w := by
  obtain ⟨k, rfl, hk⟩ := nat4 ha.1 ha.2
  rw [withValue_yes hs.1 hs.2 rfl hk hx.1 hx.2]
  exact (l1With_any st x k hs.1 hs.2 hk hx.1 hx.2 w).mono fun _ _ h => ⟨h.1, h.2.symm⟩
end Go.Proofs.Ytghkpmafocacoaa
namespace Go.Proofs.Ytghkpmafocacoaa
set_option maxRecDepth 100000
set_option linter.unusedVariables false
open Go.RowKit
end Go.Proofs.Ytghkpmafocacoaa

namespace Go.Proofs.Ytghkpmafocacoaa
set_option maxRecDepth 100000
set_option linter.unusedVariables false
open Go.RowKit
theorem setOf_append (vs : List Int) (v : Int) : setOf (vs ++ [v]) = bor (setOf vs) (bitN v) := by unfold setOf; rw [List.foldl_append]; rfl
theorem setOf_take {vs : List Int} {k : Nat} {v : Int} (h : vs[k]? = some v) : setOf (vs.take (k + 1)) = bor (setOf (vs.take k)) (bitN v) := by
  obtain ⟨hl, he⟩ := List.getElem?_eq_some_iff.1 h
  rw [List.take_succ_eq_append_getElem hl, setOf_append, he]
theorem setOf_bd {vs : List Int} (h : ∀ v ∈ vs, 0 ≤ v ∧ v ≤ 3) : ∀ k, 0 ≤ setOf (vs.take k) ∧ setOf (vs.take k) ≤ 15
  | 0 => by rw [List.take_zero]; decide
  | k + 1 => by
    cases hk : vs[k]? with
    | none =>
      have hl := List.getElem?_eq_none_iff.1 hk
      have := setOf_bd h k
      rwa [List.take_of_length_le (by omega)] at this ⊢
    | some v =>
      rw [setOf_take hk]
      exact bor_bd (setOf_bd h k).2 (bitN_le v).2
theorem shl_in {a : Int} (ha : 0 ≤ a ∧ a ≤ 3) : IntKind.i64.wrap (2 ^ a.toNat) = bitN a := by
  obtain ⟨k, rfl, hk⟩ := nat4 ha.1 ha.2
  obtain rfl | rfl | rfl | rfl : k = 0 ∨ k = 1 ∨ k = 2 ∨ k = 3 := by omega
  all_goals decide +kernel
theorem l8Set_any (A : Option Addr) (n c : Nat) (vs : List Int) (w : World) (h : Ils w w.heap.size A n vs) (hn : n ≤ maxLen) (hv : ∀ v ∈ vs, 0 ≤ v ∧ v ≤ 3) :
    Calls Try.prog 138 #[.slice A n c] w fun e w' => e = .returned (.int .i64 (setOf vs)) ∧ w = w' := by
  have hI := Lib.hid h
  have hV := Lib.hid hv
  have hT := Lib.hid (show vs.take n = vs from List.take_of_length_le (by rw [h.1]; exact Nat.le_refl _))
  have hn9 : n ≤ 9223372036854775807 := by unfold maxLen at hn; omega
  clear h hv hn
  go_enter Try.func138, Try.ntmps138
  go_wp2_with fail
  go_loopg [3, 4] n (fun gn o v wr => ∃ k : Nat, k ≤ n ∧ gn = n - k ∧ v = .int .i64 k ∧ o = .int .i64 (setOf (vs.take k)) ∧ wr = w)
  case atStart => exact ⟨0, Nat.zero_le _, rfl, rfl, rfl, rfl⟩
  case round =>
    obtain ⟨k, hk, hgn, rfl, rfl, rfl⟩ := hrel
    have hgk : gk = n - k := hgn
    clear hgn
    by_cases hlt : k < n
    · obtain ⟨g, off, d, rfl, hg, hd, c0⟩ := hI.out.at_ hlt
      have hdb := hV.out d (List.mem_of_getElem? hd)
      have hsh := shl_in hdb
      have hR := Lib.hid (setOf_take hd)
      have hbo := bits_or (setOf_bd hV.out k) (bitN_le d)
      have hk0 : (0 : Int) ≤ (k : Int) := by omega
      have hk1 : (k : Int) < (n : Int) := by omega
      have hd64 : d ≤ 64 := by omega
      have hd0 : 0 ≤ d := hdb.1
      clear hd hdb
      go_wp2_with fail
      go_roundg (n - (k + 1))
      case measure => omega
      case rel => exact ⟨k + 1, by omega, rfl, by go_num, by rw [hR.out, ← hbo], rfl⟩
    · obtain rfl : k = n := by omega
      rw [hT.out]
      go_wp2_with fail
      go_ret
      exact ⟨rfl, rfl⟩
theorem stF_bd : ∀ {vs : List Int}, (∀ v ∈ vs, 0 ≤ v ∧ v ≤ 3) → ∀ {i x : Int}, 0 ≤ i → 0 ≤ x ∧ x ≤ 80 → 0 ≤ stF vs i x ∧ stF vs i x ≤ 80
  | [], _, _, _, _, hx => hx
  | v :: r, h, i, x, hi, hx => stF_bd (fun u hu => h u (List.mem_cons_of_mem v hu)) (by omega) (with_bd hx (h v List.mem_cons_self) (by omega))
theorem idx_bd : ∀ {vs : List Int}, (∀ v ∈ vs, 0 ≤ v ∧ v ≤ 3) → ∀ {st : Int}, 0 ≤ st ∧ st ≤ 80 → 0 ≤ idx vs st ∧ idx vs st < ((3 ^ vs.length : Nat) : Int)
  | [], _, _, _ => by simp [idx]
  | v :: r, h, st, hs => by
    have ih := idx_bd (fun u hu => h u (List.mem_cons_of_mem v hu)) hs
    have hv := value_bd hs (h v List.mem_cons_self)
    have e : idx (v :: r) st = 3 * idx r st + valueAt st v := rfl
    rw [e, List.length_cons, Nat.pow_succ, Int.natCast_mul]
    have h3 : ((3 : Nat) : Int) = 3 := rfl
    rw [h3]
    omega
theorem pow_four {n : Nat} (h : n ≤ 4) : 3 ^ n ≤ 81 := by
  have := Nat.pow_le_pow_right (n := 3) (by decide) h
  omega
end Go.Proofs.Ytghkpmafocacoaa
