/- The texts of traces: what is written and what is read. The values of a text. Texts of values, written and read again; plain facts. -/
import Derived.Test.YtbndonfpdioibaaNm
import Derived.Test.YtbndonfpdioibaaSm
import Derived.Test.YtbndonfpdioibaaRd
import Derived.Laws.BytesArg
import Derived.Maps.AppendAt
import Derived.Laws.Strings
namespace Go.Proofs.Ytbndonfpdioibaa
set_option maxRecDepth 100000
set_option linter.unusedVariables false
open Go.RowKit

/-- At most twelve values. -/
def okRow (ds : List Int) : Bool := decide (ds.length ≤ 12) && ds.all fun d => inB d 0 2
/-- The text of values, or none. -/
def txt (ds : List Int) : ByteArray := if okRow ds then (if ds.isEmpty then ⟨#[45]⟩ else strOfNums (ds.map (48 + ·))) else ByteArray.empty

theorem okRow_long {ds : List Int} (h : 12 < ds.length) : okRow ds = false := by
  unfold okRow
  rw [decide_eq_false (by omega)]; rfl
theorem okRow_bad {ds : List Int} {k : Nat} {d : Int} (h : ds[k]? = some d) (hd : inB d 0 2 = false) : okRow ds = false := by
  unfold okRow
  have : (ds.all fun d => inB d 0 2) = false := List.all_eq_false.2 ⟨d, List.mem_of_getElem? h, by simp [hd]⟩
  rw [this, Bool.and_false]
theorem txt_no {ds : List Int} (h : okRow ds = false) : txt ds = ByteArray.empty := by
  unfold txt; rw [h]; rfl

/-- The first k values' bytes lie in a row of cells. -/
def BFill (cs : Array Value) (ds : List Int) (n k : Nat) : Prop := cs.size = n ∧ ∀ i d, i < k → ds[i]? = some d → cs[i]? = some (.int .u8 (48 + d))
theorem BFill.step {cs : Array Value} {ds : List Int} {n k : Nat} {d : Int} (h : BFill cs ds n k) (hd : ds[k]? = some d) (hk : k < n) : BFill (cs.setIfInBounds k (.int .u8 (48 + d))) ds n (k + 1) := by
  refine ⟨by simpa using h.1, fun i e hi he => ?_⟩
  by_cases hik : i = k
  · subst hik
    obtain rfl : d = e := Option.some.inj (hd.symm.trans he)
    have := h.1
    rw [Array.getElem?_setIfInBounds, if_pos rfl, if_pos (by omega)]
  · rw [Array.getElem?_setIfInBounds, if_neg (by omega)]
    exact h.2 i e (by omega) he

/-- Bytes that the call has made itself. -/
def Own8 (w : World) (base : Nat) (v : Value) (bs : List Int) : Prop := w.ownsRow base 5 1 v bs.length (bs.map (Value.int .u8))
theorem take_map_next {ds : List Int} {k : Nat} {d : Int} (h : ds[k]? = some d) : (ds.take (k + 1)).map (48 + ·) = (ds.take k).map (48 + ·) ++ [48 + d] := by
  have l1 := (List.getElem?_eq_some_iff.1 h).1
  rw [List.take_succ_eq_append_getElem l1, List.map_append, (List.getElem?_eq_some_iff.1 h).2]; rfl
theorem all_next {ds : List Int} {k : Nat} {d : Int} (h : ds[k]? = some d) (ha : (ds.take k).all (fun d => inB d 0 2) = true) (hd : inB d 0 2 = true) : (ds.take (k + 1)).all (fun d => inB d 0 2) = true := by
  have l1 := (List.getElem?_eq_some_iff.1 h).1
  rw [List.take_succ_eq_append_getElem l1, List.all_append, ha, (List.getElem?_eq_some_iff.1 h).2]
  simp [hd]
theorem txt_yes {ds : List Int} {n : Nat} (hL : ds.length = n) (hn : n ≤ 12) (h0 : 0 < n) (ha : (ds.take n).all (fun d => inB d 0 2) = true) : txt ds = strOfNums (ds.map (48 + ·)) := by
  have h1 : okRow ds = true := by
    unfold okRow
    rw [decide_eq_true (by omega), Bool.true_and]
    rwa [List.take_of_length_le (by omega)] at ha
  have h2 : ds.isEmpty = false := by
    cases hds : ds with
    | nil => rw [hds] at hL; simp at hL; omega
    | cons _ _ => rfl
  unfold txt
  rw [h1, h2]; rfl

theorem info_u8 : (Try.prog.info? 5).map (fun i => (i.zero, i.size, i.bytes)) = some (some (.int .u8 0), 1, 1) := by kernel_rfl

end Go.Proofs.Ytbndonfpdioibaa

namespace Go.Proofs.Ytbndonfpdioibaa
set_option maxRecDepth 100000
set_option linter.unusedVariables false
open Go.RowKit

/-- How reading ends. -/
def Rdd (w : World) (o : Option (List Int)) (e : Ending) (w' : World) : Prop :=
  ∃ v, e = .returned (.tuple #[v, .bool o.isSome]) ∧ IOwn w' w.heap.size v (o.getD []) ∧ Below w.heap.size w w'

def byteAt (s : ByteArray) (i : Nat) : Int := if h : i < s.size then ((s[i].toNat : Nat) : Int) else 0
/-- The bytes of a text, less 48. -/
def figs (s : ByteArray) : List Int := (List.range s.size).map fun i => byteAt s i - 48
/-- The values of a text, if it is one of values. -/
def rdt (s : ByteArray) : Option (List Int) :=
  if s.toList == [45] then some [] else if inB s.size 1 12 && (figs s).all (fun d => inB d 0 2) then some (figs s) else none

theorem figs_length (s : ByteArray) : (figs s).length = s.size := by simp [figs]
theorem figs_get {s : ByteArray} {i : Nat} (h : i < s.size) : (figs s)[i]? = some (byteAt s i - 48) := by
  unfold figs
  rw [List.getElem?_map, List.getElem?_range h]; rfl
theorem byteAt_bd (s : ByteArray) (i : Nat) : 0 ≤ byteAt s i ∧ byteAt s i ≤ 255 := by
  unfold byteAt
  split
  · rename_i h
    have := s[i].toNat_lt
    omega
  · omega
theorem byteAt_of {s : ByteArray} {i : Nat} (h : i < s.size) : byteAt s i = ((s[i].toNat : Nat) : Int) := dif_pos h
theorem rdt_no {s : ByteArray} {k : Nat} (h1 : (s.toList == [45]) = false) (hk : k < s.size) (hb : inB (byteAt s k - 48) 0 2 = false) : rdt s = none := by
  have : ((figs s).all fun d => inB d 0 2) = false := List.all_eq_false.2 ⟨_, List.mem_of_getElem? (figs_get hk), by simp [hb]⟩
  unfold rdt
  rw [h1, this, Bool.and_false]; rfl
theorem rdt_yes {s : ByteArray} (h1 : (s.toList == [45]) = false) (hi : inB s.size 1 12 = true) (ha : ((figs s).take s.size).all (fun d => inB d 0 2) = true) : rdt s = some (figs s) := by
  rw [List.take_of_length_le (by rw [figs_length]; exact Nat.le_refl _)] at ha
  unfold rdt
  rw [h1, hi, ha]; rfl

theorem own_none (w : World) (t : TypeId) (n : Nat) (hn : n = w.heap.size) : (w.alloc (.cells #[] t)).ownsRow n t 1 (.slice (some ⟨w.heap.size, 0, none⟩) 0 0) 0 [] :=
  ⟨rfl, .inr ⟨w.heap.size, 0, #[], rfl, by omega, Has.new w _ _, Nat.le_refl _, Nat.zero_le _, rfl, rfl⟩⟩

end Go.Proofs.Ytbndonfpdioibaa

namespace Go.Proofs.Ytbndonfpdioibaa
set_option maxRecDepth 100000
set_option linter.unusedVariables false

theorem bytes_ext {a b : ByteArray} (h : a.data.toList = b.data.toList) : a = b := by
  obtain ⟨⟨x⟩⟩ := a
  obtain ⟨⟨y⟩⟩ := b
  have h' : x = y := h
  rw [h']

theorem byteAt_get {s : ByteArray} {i : Nat} {b : UInt8} (h : s.data.toList[i]? = some b) : byteAt s i = (b.toNat : Int) := by
  obtain ⟨⟨l⟩⟩ := s
  have h' : l[i]? = some b := h
  obtain ⟨hl, he⟩ := List.getElem?_eq_some_iff.1 h'
  have hs : i < (ByteArray.mk ⟨l⟩).size := hl
  rw [byteAt_of hs]
  have : (ByteArray.mk ⟨l⟩)[i] = b := he
  rw [this]

theorem digit_nat {d : Int} (h : 0 ≤ d ∧ d ≤ 2) : ((UInt8.ofNat (48 + d).toNat).toNat : Int) = 48 + d := by
  obtain rfl | rfl | rfl : d = 0 ∨ d = 1 ∨ d = 2 := by omega
  all_goals rfl

theorem figs_str {ds : List Int} (h : ds.all (fun d => inB d 0 2) = true) : figs (strOfNums (ds.map (48 + ·))) = ds := by
  have hs : (strOfNums (ds.map (48 + ·))).size = ds.length := by rw [strOfNums_size, List.length_map]
  apply List.ext_getElem?
  intro i
  by_cases hi : i < ds.length
  · rw [figs_get (by rw [hs]; exact hi), List.getElem?_eq_getElem hi]
    have hd := inB_iff.1 (List.all_eq_true.1 h ds[i] (List.getElem_mem hi))
    rw [byteAt_get (b := UInt8.ofNat (48 + ds[i]).toNat) (by rw [strOfNums_data, List.getElem?_map, List.getElem?_map, List.getElem?_eq_getElem hi]; rfl), digit_nat hd]
    congr 1
    omega
  · rw [List.getElem?_eq_none (by rw [figs_length, hs]; omega), List.getElem?_eq_none (by omega)]

theorem not_dash {ds : List Int} (h : ds.all (fun d => inB d 0 2) = true) : ((strOfNums (ds.map (48 + ·))).toList == [45]) = false := by
  rw [ByteArray.toList_eq, strOfNums_data, beq_eq_false_iff_ne]
  intro e
  have hlen := congrArg List.length e
  simp at hlen
  obtain ⟨d, rfl⟩ := List.length_eq_one_iff.1 hlen
  have hd := inB_iff.1 (List.all_eq_true.1 h d (by simp))
  have h1 := digit_nat hd
  have e' : UInt8.ofNat (48 + d).toNat = 45 := by
    have := List.cons.inj e
    exact this.1
  rw [e'] at h1
  have : ((45 : UInt8).toNat : Int) = 45 := rfl
  omega

theorem rdt_empty : rdt ByteArray.empty = none := by
  have h : (ByteArray.empty.toList == [45]) = false := by rw [ByteArray.toList_eq]; rfl
  unfold rdt
  rw [h]; rfl
theorem rdt_dash : rdt (txt []) = some [] := by
  have h0 : txt [] = ⟨#[45]⟩ := rfl
  have h : ((⟨#[45]⟩ : ByteArray).toList == [45]) = true := by rw [ByteArray.toList_eq]; rfl
  unfold rdt
  rw [h0, h]; rfl

theorem rdt_txt_yes {ds : List Int} (h : okRow ds = true) : rdt (txt ds) = some ds := by
  unfold okRow at h
  have hk := h
  rw [Bool.and_eq_true] at h
  have hl := of_decide_eq_true h.1
  cases hds : ds with
  | nil => exact rdt_dash
  | cons d r =>
    rw [← hds]
    have ht : txt ds = strOfNums (ds.map (48 + ·)) := by
      unfold txt okRow
      rw [hk]
      have : ds.isEmpty = false := by rw [hds]; rfl
      rw [this]; rfl
    have hne : 1 ≤ ds.length := by rw [hds]; simp
    have hs : (strOfNums (ds.map (48 + ·))).size = ds.length := by rw [strOfNums_size, List.length_map]
    rw [ht]
    unfold rdt
    rw [not_dash h.2, hs, inB_yes ⟨by omega, by omega⟩, figs_str h.2, h.2]
    rfl
theorem rdt_txt_no {ds : List Int} (h : okRow ds = false) : rdt (txt ds) = none := by
  rw [txt_no h]; exact rdt_empty
theorem txt_size (ds : List Int) : (txt ds).size ≤ 12 := by
  unfold txt
  split
  · rename_i h
    unfold okRow at h
    rw [Bool.and_eq_true] at h
    have hl := of_decide_eq_true h.1
    split
    · decide
    · rw [strOfNums_size, List.length_map]; exact hl
  · decide
theorem txt_some {ds : List Int} (h : okRow ds = true) : ((txt ds).toList == []) = false := by
  rw [beq_eq_false_iff_ne]
  intro e
  have e2 : txt ds = ByteArray.empty := by
    apply bytes_ext
    rw [← ByteArray.toList_eq, e]; rfl
  have h1 := rdt_txt_yes h
  rw [e2, rdt_empty] at h1
  cases h1

theorem figs_back (s : ByteArray) : strOfNums ((figs s).map (48 + ·)) = s := by
  apply bytes_ext
  rw [strOfNums_data]
  apply List.ext_getElem?
  intro i
  rw [List.getElem?_map, List.getElem?_map]
  by_cases hi : i < s.size
  · obtain ⟨⟨l⟩⟩ := s
    have hl : i < l.length := hi
    rw [figs_get hi, byteAt_get (s := ⟨⟨l⟩⟩) (b := l[i]) (List.getElem?_eq_getElem hl)]
    have : (ByteArray.mk ⟨l⟩).data.toList[i]? = some l[i] := List.getElem?_eq_getElem hl
    rw [this]
    have e : (48 + ((l[i].toNat : Int) - 48)).toNat = l[i].toNat := by omega
    simp only [Option.map_some, e]
    rw [UInt8.ofNat_toNat]
  · have hge : (figs s).length ≤ i := by rw [figs_length]; omega
    rw [List.getElem?_eq_none hge]
    obtain ⟨⟨l⟩⟩ := s
    have hl : ¬ i < l.length := hi
    have : (ByteArray.mk ⟨l⟩).data.toList[i]? = none := List.getElem?_eq_none (show l.length ≤ i by omega)
    rw [this]; rfl

theorem txt_rdt {s : ByteArray} {es : List Int} (h : rdt s = some es) : txt es = s := by
  unfold rdt at h
  cases h1 : (s.toList == [45])
  · rw [h1] at h
    simp only [Bool.false_eq_true, if_false] at h
    split at h
    · rename_i h2
      injection h with h
      subst h
      rw [Bool.and_eq_true] at h2
      have hb := inB_iff.1 h2.1
      have hk : okRow (figs s) = true := by
        unfold okRow
        rw [figs_length, h2.2, decide_eq_true (by omega)]; rfl
      have he : (figs s).isEmpty = false := by
        cases hf : figs s with
        | nil => have := figs_length s; rw [hf] at this; simp at this; omega
        | cons _ _ => rfl
      unfold txt
      rw [hk, he]
      exact figs_back s
    · cases h
  · rw [h1] at h
    simp only [if_true] at h
    injection h with h
    subst h
    apply bytes_ext
    have := eq_of_beq h1
    rw [ByteArray.toList_eq] at this
    rw [this]; rfl
end Go.Proofs.Ytbndonfpdioibaa
