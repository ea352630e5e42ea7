/- The laws' sum of a list. -/
import Derived.Test.YtghkpmafocacoaaNm
import Derived.Test.YtghkpmafocacoaaSm
namespace Go.Proofs.Ytghkpmafocacoaa
set_option maxRecDepth 100000
set_option linter.unusedVariables false
open Go.RowKit

theorem wcSum_same (A : Option Addr) (n c : Nat) (ds : List Int) (w : World) (h : Ils w w.heap.size A n ds) (hn : n ≤ 1048576) (h0 : ∀ x ∈ ds, 0 ≤ x) (ht : isum ds ≤ 1000000000000000000) :
    Calls Try.prog 42 #[.slice A n c] w fun e w' => e = .returned (.int .i64 (isum ds)) ∧ w = w' := by
  have hI := Lib.hid h
  have hP := Lib.hid (isum_le h0)
  have hT := Lib.hid (show isum (ds.take n) = isum ds by rw [List.take_of_length_le (by rw [h.1]; exact Nat.le_refl _)])
  clear h h0
  go_enter Try.func42, Try.ntmps42
  go_wp2_with fail
  go_loopg [3, 8] n (fun gn o v wr => ∃ k : Nat, k ≤ n ∧ gn = n - k ∧ v = .int .i64 k ∧ o = .int .i64 (isum (ds.take k)) ∧ wr = w)
  case atStart => exact ⟨0, Nat.zero_le _, rfl, rfl, rfl, rfl⟩
  case round =>
    obtain ⟨k, hk, hgn, rfl, rfl, rfl⟩ := hrel
    have hgk : gk = n - k := hgn
    clear hgn
    by_cases hlt : k < n
    · obtain ⟨g, off, d, rfl, hg, hd, c0⟩ := hI.out.at_ hlt
      have h1 := (hP.out k)
      have h2 := (hP.out (k + 1))
      rw [isum_take hd] at h2
      have hR := Lib.hid (isum_take hd)
      have hw : IntKind.i64.wrap (isum (ds.take k) + d) = isum (ds.take k) + d := by rw [IntKind.wrap_i64]; omega
      have hk0 : (0 : Int) ≤ (k : Int) := by omega
      have hk1 : (k : Int) < (n : Int) := by omega
      clear hd
      go_wp2_with fail
      go_roundg (n - (k + 1))
      case measure => omega
      case rel => exact ⟨k + 1, by omega, rfl, by go_num, by rw [hR.out], rfl⟩
    · obtain rfl : k = n := by omega
      rw [hT.out]
      go_wp2_with fail
      go_ret
      exact ⟨rfl, rfl⟩
theorem wcSum_any (A : Option Addr) (n c : Nat) (ds : List Int) (w : World) (h : Ils w w.heap.size A n ds) (hn : n ≤ 1048576) (h0 : ∀ x ∈ ds, 0 ≤ x) (ht : isum ds ≤ 1000000000000000000) :
    Calls Try.prog 42 #[.slice A n c] w fun e w' => e = .returned (.int .i64 (isum ds)) ∧ Below w.heap.size w w' :=
  (wcSum_same A n c ds w h hn h0 ht).mono fun _ _ ⟨h1, h2⟩ => ⟨h1, h2 ▸ Below.refl _ _⟩
end Go.Proofs.Ytghkpmafocacoaa
