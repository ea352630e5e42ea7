/- The values of a text. -/
import Derived.Test.YtjokiminlplbcaaTxt
namespace Go.Proofs.Ytjokiminlplbcaa
set_option maxRecDepth 100000
set_option linter.unusedVariables false
open Go.RowKit

/-- How reading ends. -/
def Rdd (w : World) (o : Option (List Int)) (e : Ending) (w' : World) : Prop :=
  ∃ v, e = .returned (.tuple #[v, .bool o.isSome]) ∧ IOwn w' w.heap.size v (o.getD []) ∧ Below w.heap.size w w'

def byteAt (s : ByteArray) (i : Nat) : Int := if h : i < s.size then ((s[i].toNat : Nat) : Int) else 0
/-- The bytes of a text, less 48. -/
def figs (s : ByteArray) : List Int := (List.range s.size).map fun i => byteAt s i - 48
/-- The values of a text, if it is one of values. -/
def rdt (s : ByteArray) : Option (List Int) :=
  if s.toList == [45] then some [] else if inB s.size 1 12 && (figs s).all (fun d => inB d 0 2) then some (figs s) else none

theorem figs_length (s : ByteArray) : (figs s).length = s.size := by simp [figs]
theorem figs_get {s : ByteArray} {i : Nat} (h : i < s.size) : (figs s)[i]? = some (byteAt s i - 48) := by
  unfold figs
  rw [List.getElem?_map, List.getElem?_range h]; rfl
theorem byteAt_bd (s : ByteArray) (i : Nat) : 0 ≤ byteAt s i ∧ byteAt s i ≤ 255 := by
  unfold byteAt
  split
  · rename_i h
    have := s[i].toNat_lt
    omega
  · omega
theorem byteAt_of {s : ByteArray} {i : Nat} (h : i < s.size) : byteAt s i = ((s[i].toNat : Nat) : Int) := dif_pos h
theorem rdt_no {s : ByteArray} {k : Nat} (h1 : (s.toList == [45]) = false) (hk : k < s.size) (hb : inB (byteAt s k - 48) 0 2 = false) : rdt s = none := by
  have : ((figs s).all fun d => inB d 0 2) = false := List.all_eq_false.2 ⟨_, List.mem_of_getElem? (figs_get hk), by simp [hb]⟩
  unfold rdt
  rw [h1, this, Bool.and_false]; rfl
theorem rdt_yes {s : ByteArray} (h1 : (s.toList == [45]) = false) (hi : inB s.size 1 12 = true) (ha : ((figs s).take s.size).all (fun d => inB d 0 2) = true) : rdt s = some (figs s) := by
  rw [List.take_of_length_le (by rw [figs_length]; exact Nat.le_refl _)] at ha
  unfold rdt
  rw [h1, hi, ha]; rfl

theorem own_none (w : World) (t : TypeId) (n : Nat) (hn : n = w.heap.size) : (w.alloc (.cells #[] t)).ownsRow n t 1 (.slice (some ⟨w.heap.size, 0, none⟩) 0 0) 0 [] :=
  ⟨rfl, .inr ⟨w.heap.size, 0, #[], rfl, by omega, Has.new w _ _, Nat.le_refl _, Nat.zero_le _, rfl, rfl⟩⟩

end Go.Proofs.Ytjokiminlplbcaa
