/- The laws' marks in lists of numbers. -/
import Derived.Test.YtjokiminlplbcaaInt
namespace Go.Proofs.Ytjokiminlplbcaa
set_option maxRecDepth 100000
set_option linter.unusedVariables false
open Go.RowKit

/-- n numbers, one greater than the other, from m on. -/
def nums (m : Int) (n : Nat) : List Int := (List.range n).map fun (i : Nat) => m + i
theorem nums_length (m : Int) (n : Nat) : (nums m n).length = n := by simp [nums]
theorem nums_get (m : Int) {n i : Nat} (h : i < n) : (nums m n)[i]? = some (m + i) := by
  unfold nums
  rw [List.getElem?_map, List.getElem?_range h]; rfl

def IWr (w : World) (A : Option Addr) (n : Nat) : Prop := 0 < n → ∃ g cs, A = some ⟨g, 0, none⟩ ∧ Has w g 3 cs ∧ n ≤ cs.size
def IMk (cs : Array Value) (m : Int) (n k : Nat) : Prop := n ≤ cs.size ∧ ∀ i, i < k → cs[i]? = some (.int .i64 (m + i))
theorem IMk.step {cs : Array Value} {m : Int} {n k : Nat} (h : IMk cs m n k) (hk : k < n) : IMk (cs.setIfInBounds k (.int .i64 (m + k))) m n (k + 1) := by
  refine ⟨by simpa using h.1, fun i hi => ?_⟩
  by_cases hik : i = k
  · subst hik
    have := h.1
    rw [Array.getElem?_setIfInBounds, if_pos rfl, if_pos (by omega)]
  · rw [Array.getElem?_setIfInBounds, if_neg (by omega)]
    exact h.2 i (by omega)
theorem IMk.lst {w : World} {g n : Nat} {cs : Array Value} {m : Int} (hh : Has w g 3 cs) (h : IMk cs m n n) : Ils w w.heap.size (some ⟨g, 0, none⟩) n (nums m n) := by
  refine ⟨nums_length m n, fun _ => ⟨g, 0, rfl, hh.lt, fun k d hd => ?_⟩⟩
  have hk : k < n := by have := (List.getElem?_eq_some_iff.1 hd).1; rwa [nums_length] at this
  rw [nums_get m hk] at hd
  obtain rfl := Option.some.inj hd
  rw [Nat.zero_add, hh.cell]
  exact h.2 k hk

theorem markIntS_any (A : Option Addr) (n c : Nat) (m : Int) (w : World) (h : IWr w A n) (hm : 0 ≤ m) (hm2 : m ≤ 1000000000000) (hn : n ≤ 100000000) :
    Calls Try.prog 48 #[.slice A n c, .int .i64 m] w fun e w' => e = .returned (.int .i64 (m + n)) ∧ Only w w' A ∧ Ils w' w'.heap.size A n (nums m n) := by
  by_cases hn0 : n = 0
  · subst hn0
    clear h
    go_enter Try.func48, Try.ntmps48
    go_wp2
    go_loop [1, 5] (fun q i => i = .int .i64 0 ∧ q = .int .i64 m) (fun _ i => 0)
    case atStart => exact ⟨rfl, rfl⟩
    case round =>
      obtain ⟨rfl, rfl⟩ := hrel
      go_wp2
      go_ret
      exact ⟨ret_int (by omega), Only.of_same rfl, rfl, fun h => absurd h (by omega)⟩
  · obtain ⟨g, cs0, rfl, hh0, hs0⟩ := h (by omega)
    have hH0 := Lib.hid hh0
    clear hh0
    go_enter Try.func48, Try.ntmps48
    go_wp2
    go_loopw [1, 5] (fun q i wr => ∃ (k : Nat) (cs : Array Value), k ≤ n ∧ i = .int .i64 k ∧ q = .int .i64 (m + k) ∧ Has wr g 3 cs ∧ IMk cs m n k ∧ w.grownBy wr (some g)) (fun _ i _ => n - (intOf i).toNat)
    case atStart => exact ⟨0, cs0, Nat.zero_le _, rfl, by simp, hH0.out, ⟨hs0, fun i hi => absurd hi (by omega)⟩, World.grownBy.refl w _⟩
    case round =>
      obtain ⟨k, cs, hk, rfl, rfl, hhas, hmk, hgr⟩ := hrel
      have hHas := Lib.hid hhas
      have hMk := Lib.hid hmk
      have hGr := Lib.hid hgr
      clear hgr
      by_cases hlt : k < n
      · have hfz := hhas.frozen
        have hsz := hmk.1
        obtain ⟨u0, e0⟩ := hhas.size_cell (x := k) (by omega)
        have hN := Lib.hid (hhas.put k (.int .i64 (m + k)))
        have hG := Lib.hid (only_put hGr.out k (.int .i64 (m + k)))
        clear hhas hmk
        go_wp2
        go_roundw
        case rel => exact ⟨k + 1, _, by omega, by go_num, congrArg (Value.int .i64) (by omega), hN.out, hMk.out.step hlt, hG.out⟩
        case measure => (simp [intOf]; try omega)
      · obtain rfl : n = k := by omega
        have hLs := Lib.hid (IMk.lst hHas.out hMk.out)
        clear hhas hmk
        go_wp2
        go_ret
        exact ⟨rfl, hGr.out, hLs.out⟩

theorem heldIntS_any (A : Option Addr) (n c : Nat) (m : Int) (w : World) (h : Ils w w.heap.size A n (nums m n)) (hm : 0 ≤ m) (hm2 : m ≤ 1000000000000) (hn : n ≤ 100000000) :
    Calls Try.prog 49 #[.slice A n c, .int .i64 m] w fun e w' => e = .returned (.int .i64 (m + n)) ∧ w = w' := by
  have hH := Lib.hid h
  clear h
  go_enter Try.func49, Try.ntmps49
  go_wp2
  go_loop [1, 5] (fun q i => ∃ k : Nat, k ≤ n ∧ i = .int .i64 k ∧ q = .int .i64 (m + k)) (fun _ i => n - (intOf i).toNat)
  case atStart => exact ⟨0, Nat.zero_le _, rfl, by simp⟩
  case round =>
    obtain ⟨k, hk, rfl, rfl⟩ := hrel
    by_cases hlt : k < n
    · obtain ⟨g, off, d, rfl, hg, hs, c0⟩ := hH.out.at_ hlt
      rw [nums_get m hlt] at hs
      obtain rfl := Option.some.inj hs
      clear hs
      go_wp2
      go_round
      case rel => exact ⟨k + 1, by omega, by go_num, congrArg (Value.int .i64) (by omega)⟩
      case measure => (simp [intOf]; try omega)
    · obtain rfl : n = k := by omega
      go_wp2
      go_ret
      exact ⟨rfl, rfl⟩

theorem wcInts_any (A A2 : Option Addr) (n n2 c c2 : Nat) (ds es : List Int) (w : World) (h : Ils w w.heap.size A n ds) (h2 : Ils w w.heap.size A2 n2 es) (hn : n ≤ maxLen) (hn2 : n2 ≤ maxLen) :
    Calls Try.prog 21 #[.slice A n c, .slice A2 n2 c2] w fun e w' => e = .returned (.bool (decide (ds = es))) ∧ ∃ k, w' = w.drewN k := by
  unfold maxLen at hn hn2
  have hH := Lib.hid h
  have hH2 := Lib.hid h2
  have hL := Lib.hid h.1
  have hL2 := Lib.hid h2.1
  clear h h2
  by_cases hnn : n = n2
  · subst hnn
    go_enter Try.func21, Try.ntmps21
    go_wp2
    go_loopw [13] (fun i wr => ∃ k : Nat, k ≤ n ∧ i = .int .i64 k ∧ ds.take k = es.take k ∧ ∃ q, wr = w.drewN q) (fun i _ => n - (intOf i).toNat)
    case atStart => exact ⟨0, Nat.zero_le _, rfl, by simp, 0, rfl⟩
    case round =>
      obtain ⟨k, hk, rfl, heq, q, rfl⟩ := hrel
      have hE := Lib.hid heq
      clear heq
      by_cases hlt : k < n
      · obtain ⟨g, off, a, rfl, hg, hs, c0⟩ := hH.out.at_ hlt
        obtain ⟨g2, off2, b, rfl, hg2, hs2, d0⟩ := hH2.out.at_ hlt
        have hk0 : (0 : Int) ≤ (k : Int) := Int.natCast_nonneg _
        have hk1 : (k : Int) < (n : Int) := by omega
        by_cases hab : a = b
        · subst hab
          have hR := Lib.hid (take_next hE.out hs hs2)
          clear hs hs2
          go_wp2
          go_quiet (fail)
          go_wp2
          exact ⟨⟨k + 1, by omega, by go_num, hR.out, _, rfl⟩, by simp [intOf]; omega⟩
        · have hR := Lib.hid (ils_ne hs hs2 hab)
          have hab' : (a != b) = true := by simpa using hab
          clear hs hs2 hab
          go_wp2
          go_quiet (fail)
          go_wp2
          go_ret
          exact ⟨ret_bool hR.out, _, by rw [World.drewN_drewN]⟩
      · obtain rfl : n = k := by omega
        have hR := Lib.hid (show decide (ds = es) = true by
          have := hE.out
          rw [List.take_of_length_le (by rw [hL.out]; omega), List.take_of_length_le (by rw [hL2.out]; omega)] at this
          exact decide_eq_true this)
        go_wp2
        go_ret
        exact ⟨ret_bool hR.out, q, rfl⟩
  · have hR := Lib.hid (show decide (ds = es) = false from decide_eq_false (by rintro rfl; exact hnn (hL.out.symm.trans hL2.out)))
    have hnn' : ((n : Int) != (n2 : Int)) = true := by simp; omega
    clear hnn
    go_enter Try.func21, Try.ntmps21
    go_wp2
    go_ret
    exact ⟨ret_bool hR.out, 0, rfl⟩
end Go.Proofs.Ytjokiminlplbcaa
