/- The texts of traces: what is written and what is read. -/
import Derived.Test.YtjokiminlplbcaaIMk
import Derived.Test.YtjokiminlplbcaaRdr
import Derived.Laws.BytesArg
import Derived.Maps.AppendAt
namespace Go.Proofs.Ytjokiminlplbcaa
set_option maxRecDepth 100000
set_option linter.unusedVariables false
open Go.RowKit

/-- At most twelve values. -/
def okRow (ds : List Int) : Bool := decide (ds.length ≤ 12) && ds.all fun d => inB d 0 2
/-- The text of values, or none. -/
def txt (ds : List Int) : ByteArray := if okRow ds then (if ds.isEmpty then ⟨#[45]⟩ else strOfNums (ds.map (48 + ·))) else ByteArray.empty

theorem okRow_long {ds : List Int} (h : 12 < ds.length) : okRow ds = false := by
  unfold okRow
  rw [decide_eq_false (by omega)]; rfl
theorem okRow_bad {ds : List Int} {k : Nat} {d : Int} (h : ds[k]? = some d) (hd : inB d 0 2 = false) : okRow ds = false := by
  unfold okRow
  have : (ds.all fun d => inB d 0 2) = false := List.all_eq_false.2 ⟨d, List.mem_of_getElem? h, by simp [hd]⟩
  rw [this, Bool.and_false]
theorem txt_no {ds : List Int} (h : okRow ds = false) : txt ds = ByteArray.empty := by
  unfold txt; rw [h]; rfl

/-- The first k values' bytes lie in a row of cells. -/
def BFill (cs : Array Value) (ds : List Int) (n k : Nat) : Prop := cs.size = n ∧ ∀ i d, i < k → ds[i]? = some d → cs[i]? = some (.int .u8 (48 + d))
theorem BFill.step {cs : Array Value} {ds : List Int} {n k : Nat} {d : Int} (h : BFill cs ds n k) (hd : ds[k]? = some d) (hk : k < n) : BFill (cs.setIfInBounds k (.int .u8 (48 + d))) ds n (k + 1) := by
  refine ⟨by simpa using h.1, fun i e hi he => ?_⟩
  by_cases hik : i = k
  · subst hik
    obtain rfl : d = e := Option.some.inj (hd.symm.trans he)
    have := h.1
    rw [Array.getElem?_setIfInBounds, if_pos rfl, if_pos (by omega)]
  · rw [Array.getElem?_setIfInBounds, if_neg (by omega)]
    exact h.2 i e (by omega) he

/-- Bytes that the call has made itself. -/
def Own8 (w : World) (base : Nat) (v : Value) (bs : List Int) : Prop := w.ownsRow base 5 1 v bs.length (bs.map (Value.int .u8))
theorem new_one (w : World) (x : Value) (t : TypeId) : ∀ j u, [x][j]? = some u → (w.alloc (.cells #[x] t)).cell? ((⟨w.heap.size, 0, none⟩ : Addr).add j) = some u := by
  intro j u hu
  have hj : j = 0 := by
    have := (List.getElem?_eq_some_iff.1 hu).1
    simp at this; exact this
  subst hj
  have hu' : x = u := by simpa using hu
  subst hu'
  have h := (Has.new w t #[x]).cell 0
  simp [Addr.add] at h ⊢
theorem take_map_next {ds : List Int} {k : Nat} {d : Int} (h : ds[k]? = some d) : (ds.take (k + 1)).map (48 + ·) = (ds.take k).map (48 + ·) ++ [48 + d] := by
  have l1 := (List.getElem?_eq_some_iff.1 h).1
  rw [List.take_succ_eq_append_getElem l1, List.map_append, (List.getElem?_eq_some_iff.1 h).2]; rfl
theorem all_next {ds : List Int} {k : Nat} {d : Int} (h : ds[k]? = some d) (ha : (ds.take k).all (fun d => inB d 0 2) = true) (hd : inB d 0 2 = true) : (ds.take (k + 1)).all (fun d => inB d 0 2) = true := by
  have l1 := (List.getElem?_eq_some_iff.1 h).1
  rw [List.take_succ_eq_append_getElem l1, List.all_append, ha, (List.getElem?_eq_some_iff.1 h).2]
  simp [hd]
theorem txt_yes {ds : List Int} {n : Nat} (hL : ds.length = n) (hn : n ≤ 12) (h0 : 0 < n) (ha : (ds.take n).all (fun d => inB d 0 2) = true) : txt ds = strOfNums (ds.map (48 + ·)) := by
  have h1 : okRow ds = true := by
    unfold okRow
    rw [decide_eq_true (by omega), Bool.true_and]
    rwa [List.take_of_length_le (by omega)] at ha
  have h2 : ds.isEmpty = false := by
    cases hds : ds with
    | nil => rw [hds] at hL; simp at hL; omega
    | cons _ _ => rfl
  unfold txt
  rw [h1, h2]; rfl

theorem info_u8 : (Try.prog.info? 5).map (fun i => (i.zero, i.size, i.bytes)) = some (some (.int .u8 0), 1, 1) := by kernel_rfl

end Go.Proofs.Ytjokiminlplbcaa
