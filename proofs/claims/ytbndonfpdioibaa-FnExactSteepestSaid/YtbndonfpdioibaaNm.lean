/- Lists of numbers in memory, and the laws' helpers over them. The laws' marks in lists of numbers. Lists of lists of numbers that a call has made; worlds of which few blocks have turned. The laws' helpers over lists of lists of numbers. The laws' marks in lists of lists of numbers, read again. What lies in memory and hangs on few blocks alone; the laws' helpers over it. The program's copy of a list of numbers. -/
import Derived.Test.YtbndonfpdioibaaKt
import Derived.Maps.AppendAt
import Derived.Laws.CopyOwn
namespace Go.Proofs.Ytbndonfpdioibaa
set_option maxRecDepth 100000
open Go.ChangeShapes Go.WideShapes Go.RowKit Go.Deep

def ints (ds : List Int) : List Value := ds.map (Value.int .i64)
theorem ints_length (ds : List Int) : (ints ds).length = ds.length := List.length_map _
theorem ints_append (a b : List Int) : ints (a ++ b) = ints a ++ ints b := List.map_append
theorem ints_get {ds : List Int} {k : Nat} {d : Int} (h : ds[k]? = some d) : (ints ds)[k]? = some (.int .i64 d) := by
  unfold ints; rw [List.getElem?_map, h]; rfl
theorem ints_one (ds : List Int) : ∀ u ∈ ints ds, u.oneCell' = true := by
  intro u hu
  obtain ⟨d, _, rfl⟩ := List.mem_map.1 hu
  rfl

/-- A slice's value reads as a list of numbers, all below block B. -/
def Ils (w : World) (B : Nat) (A : Option Addr) (n : Nat) (ds : List Int) : Prop :=
  ds.length = n ∧ (0 < n → ∃ g off, A = some ⟨g, off, none⟩ ∧ g < B ∧ ∀ k d, ds[k]? = some d → w.cell? ⟨g, off + k, none⟩ = some (.int .i64 d))

theorem Ils.keep {w w' : World} {B : Nat} {A : Option Addr} {n : Nat} {ds : List Int} (h : Ils w B A n ds) (hk : ∀ p : Addr, p.block < B → w'.cell? p = w.cell? p) : Ils w' B A n ds :=
  ⟨h.1, fun hn => by
    obtain ⟨g, off, e, hg, hc⟩ := h.2 hn
    exact ⟨g, off, e, hg, fun k s hs => (hk _ hg).trans (hc k s hs)⟩⟩
theorem Ils.below {w w' : World} {B : Nat} {A : Option Addr} {n : Nat} {ds : List Int} (h : Ils w B A n ds) (hb : Below B w w') : Ils w' B A n ds := h.keep fun _ hp => hb.cell hp
theorem Ils.more {w : World} {B B' : Nat} {A : Option Addr} {n : Nat} {ds : List Int} (h : Ils w B A n ds) (hB : B ≤ B') : Ils w B' A n ds :=
  ⟨h.1, fun hn => by
    obtain ⟨g, off, e, hg, hc⟩ := h.2 hn
    exact ⟨g, off, e, by omega, hc⟩⟩
theorem Ils.at_ {w : World} {B : Nat} {A : Option Addr} {n k : Nat} {ds : List Int} (h : Ils w B A n ds) (hk : k < n) :
    ∃ (g off : Nat) (d : Int), A = some ⟨g, off, none⟩ ∧ g < B ∧ ds[k]? = some d ∧ w.cell? ⟨g, off + k, none⟩ = some (.int .i64 d) := by
  obtain ⟨g, off, e, hg, hc⟩ := h.2 (by omega)
  have hl : k < ds.length := by have := h.1; omega
  exact ⟨g, off, ds[k], e, hg, List.getElem?_eq_getElem hl, hc k _ (List.getElem?_eq_getElem hl)⟩
theorem Ils.take_ {w : World} {B : Nat} {A : Option Addr} {n k : Nat} {ds : List Int} (h : Ils w B A n ds) (hk : k ≤ n) : Ils w B A k (ds.take k) := by
  refine ⟨by rw [List.length_take, h.1]; omega, fun h0 => ?_⟩
  obtain ⟨g, off, e, hg, hc⟩ := h.2 (by omega)
  refine ⟨g, off, e, hg, fun j d hd => hc j d ?_⟩
  rw [List.getElem?_take] at hd
  split at hd
  · exact hd
  · cases hd

/-- A slice's value that the call itself has made, from block 'base' on: it holds these numbers. -/
def IOwn (w : World) (base : Nat) (v : Value) (ds : List Int) : Prop := w.ownsRow base 3 1 v ds.length (ints ds)

theorem IOwn.nil (w : World) (base : Nat) : IOwn w base (.slice none 0 0) [] := World.ownsRow_nil w base _ _
theorem IOwn.alloc {w : World} {base : Nat} {v : Value} {ds : List Int} (h : IOwn w base v ds) (o : Obj) : IOwn (w.alloc o) base v ds := World.ownsRow.alloc h o
theorem IOwn.below {w w' : World} {base : Nat} {v : Value} {ds : List Int} (h : IOwn w base v ds) (hb : Below w.heap.size w w') : IOwn w' base v ds := by
  refine ⟨h.1, ?_⟩
  rcases h.2 with hn | ⟨g, cap, cur, hv, hg, hh, rest⟩
  · exact .inl hn
  · exact .inr ⟨g, cap, cur, hv, hg, (hb.block g (Array.getElem?_eq_some_iff.1 hh).1).trans hh, rest⟩
theorem IOwn.form {w : World} {base : Nat} {v : Value} {ds : List Int} (h : IOwn w base v ds) : ∃ A c, v = .slice A ds.length c ∧ ds.length ≤ c ∧ c ≤ maxLen := by
  rcases h.2 with ⟨hv, hn⟩ | ⟨g, cap, cur, hv, _, _, h1, h2, _⟩
  · exact ⟨none, 0, by rw [hv, hn], by omega, by simp [maxLen]⟩
  · exact ⟨_, cap, hv, h1, h2⟩
theorem IOwn.lst {w : World} {base : Nat} {A : Option Addr} {n c : Nat} {ds : List Int} (h : IOwn w base (.slice A n c) ds) : Ils w w.heap.size A n ds := by
  rcases h.2 with ⟨hv, hn⟩ | ⟨g, cap, cur, hv, hg, hh, h1, h2, h3, h4⟩
  · injection hv with _ e2 _
    exact ⟨by omega, fun h0 => by omega⟩
  · injection hv with e1 e2 _
    refine ⟨by omega, fun h0 => ⟨g, 0, e1, (Array.getElem?_eq_some_iff.1 hh).1, fun k d hd => ?_⟩⟩
    have hf := ints_get hd
    rw [Nat.zero_add, cell_of_row w g _ cur 3 (0, 0) hh]
    rw [← h4, List.getElem?_take] at hf
    split at hf
    · simpa using hf
    · cases hf
theorem IOwn.append_ {w w' : World} {base : Nat} {v v' : Value} {os news : List Int} (hown : IOwn w base v os) (h : w'.ownsRow base 3 1 v' (os.length + news.length) (ints os ++ ints news)) (hg : w.grownBy w' v.ownBlock)
    {w0 : World} (hb : Below base w0 w) (hB : base ≤ w.heap.size) : IOwn w' base v' (os ++ news) ∧ Below base w0 w' := by
  refine ⟨?_, hb.grown hg hB fun k hk => ((World.ownsRow.lt hown) k hk).1⟩
  unfold IOwn
  rw [List.length_append, ints_append]
  exact h

theorem info_int : (Try.prog.info? 3).map (fun i => (i.zero, i.size, i.bytes)) = some (some (.int .i64 0), 1, 8) := by kernel_rfl

section
variable {H : Type} {enc : TypeId × Value → H} {w : World} {base : Nat}
set_option maxRecDepth 100000 in
/-- A parameter that is a list of numbers. -/
theorem open_intl {b0 : Nat} {r : Reach} {v : Value} {d : DataW H} {p : List MemPlace} (hv : Value.okWide Try.prog w r b0 24 v) (h : DataW.Trod enc Try.prog w 0 (fun _ => true) true 24 v d p) :
    ∃ (A : Option Addr) (n c : Nat) (ds : List Int), v = .slice A n c ∧ n ≤ c ∧ c ≤ maxLen ∧ Ils w w.heap.size A n ds := by
  obtain ⟨A, n, c, rfl⟩ := okWide_slice Try.underlying24 hv
  obtain ⟨fuel, hf⟩ := h
  rcases open_ints Try.underlying24 Try.underlying3 (by kernel_rfl) hf with ⟨hcs, _⟩ | ⟨x, l, c', zs, hcs, _, hl, hm, hz, _, hcell, hwz⟩
  · simp [Value.cells] at hcs
    obtain ⟨rfl, rfl, rfl⟩ := hcs
    exact ⟨none, 0, 0, [], rfl, Nat.le_refl _, by simp [maxLen], rfl, fun h => absurd h (by omega)⟩
  · simp [Value.cells] at hcs
    obtain ⟨rfl, rfl, rfl⟩ := hcs
    have hz' : zs.length = c := by simpa using hz
    refine ⟨some x, n, c, zs.take n, rfl, hl, hm, by rw [List.length_take]; omega, fun hn => ?_⟩
    obtain ⟨g, off, spot⟩ := x
    have h0 := hcell 0 (by omega)
    have hspot : spot = none := by simpa [Addr.add] using World.cell?_spot h0
    subst hspot
    have hlt := World.block_lt_of_cell? w _ h0
    refine ⟨g, off, rfl, by simpa [Addr.add] using hlt, fun i d hd => ?_⟩
    rw [List.getElem?_take] at hd
    split at hd
    · have hi' : i < zs.length := (List.getElem?_eq_some_iff.1 hd).1
      have := hcell i hi'
      rw [List.getD_eq_getElem?_getD, hd] at this
      rw [show some (Value.int .i64 d) = some (Value.int .i64 ((some d).getD 0)) from rfl, ← this]
      congr 1
      unfold Addr.add
      split
      · (rename_i h0; simp; try omega)
      · (simp; try omega)
    · cases hd
end

/-- The first k numbers of a list lie in a row of cells. -/
def IFill (cs : Array Value) (ds : List Int) (n k : Nat) : Prop := cs.size = n ∧ ∀ i d, i < k → ds[i]? = some d → cs[i]? = some (.int .i64 d)
theorem IFill.step {cs : Array Value} {ds : List Int} {n k : Nat} {d : Int} (h : IFill cs ds n k) (hd : ds[k]? = some d) (hk : k < n) : IFill (cs.setIfInBounds k (.int .i64 d)) ds n (k + 1) := by
  refine ⟨by simpa using h.1, fun i e hi he => ?_⟩
  by_cases hik : i = k
  · subst hik
    obtain rfl : d = e := Option.some.inj (hd.symm.trans he)
    have := h.1
    rw [Array.getElem?_setIfInBounds, if_pos rfl, if_pos (by omega)]
  · rw [Array.getElem?_setIfInBounds, if_neg (by omega)]
    exact h.2 i e (by omega) he
theorem IFill.done {cs : Array Value} {ds : List Int} {n : Nat} (h : IFill cs ds n n) (hL : ds.length = n) : cs.toList = ints ds := by
  apply List.ext_getElem?
  intro x
  rw [Array.getElem?_toList]
  by_cases hx : x < n
  · have hd : ds[x]? = some ds[x] := List.getElem?_eq_getElem (by omega)
    rw [h.2 x _ hx hd, ints_get hd]
  · rw [Array.getElem?_eq_none (by rw [h.1]; omega), List.getElem?_eq_none (by rw [ints_length]; omega)]

theorem IOwn.of_has {w : World} {base g n : Nat} {cs : Array Value} {ds : List Int} (h : Has w g 3 cs) (hf : cs.toList = ints ds) (hL : ds.length = n) (hg : base ≤ g) (hm : n ≤ maxLen) : IOwn w base (.slice (some ⟨g, 0, none⟩) n n) ds := by
  have hs : cs.size = n := by
    have := congrArg List.length hf
    rw [ints_length] at this
    simpa [hL] using this
  refine ⟨by rw [ints_length]; omega, .inr ⟨g, n, cs, by rw [hL], hg, h, by omega, hm, by omega, ?_⟩⟩
  rw [hf, List.take_of_length_le (by rw [ints_length]; omega)]

theorem ils_ne {ds es : List Int} {k : Nat} {a b : Int} (h1 : ds[k]? = some a) (h2 : es[k]? = some b) (h : a ≠ b) : decide (ds = es) = false := by
  apply decide_eq_false
  rintro rfl
  exact h (Option.some.inj (h1.symm.trans h2))
theorem take_next {ds es : List Int} {k : Nat} {a : Int} (h : ds.take k = es.take k) (h1 : ds[k]? = some a) (h2 : es[k]? = some a) : ds.take (k + 1) = es.take (k + 1) := by
  have l1 := (List.getElem?_eq_some_iff.1 h1).1
  have l2 := (List.getElem?_eq_some_iff.1 h2).1
  rw [List.take_succ_eq_append_getElem l1, List.take_succ_eq_append_getElem l2, h, (List.getElem?_eq_some_iff.1 h1).2, (List.getElem?_eq_some_iff.1 h2).2]

theorem eqIntS_any (A A2 : Option Addr) (n n2 c c2 : Nat) (ds es : List Int) (w : World) (h : Ils w w.heap.size A n ds) (h2 : Ils w w.heap.size A2 n2 es) (hn : n ≤ maxLen) (hn2 : n2 ≤ maxLen) :
    Calls Try.prog 18 #[.slice A n c, .slice A2 n2 c2] w fun e w' => e = .returned (.bool (decide (ds = es))) ∧ ∃ k, w' = w.drewN k := by
  unfold maxLen at hn hn2
  have hH := Lib.hid h
  have hH2 := Lib.hid h2
  have hL := Lib.hid h.1
  have hL2 := Lib.hid h2.1
  clear h h2
  by_cases hnn : n = n2
  · subst hnn
    go_enter Try.func18, Try.ntmps18
    go_wp2
    go_loopw [5] (fun i wr => ∃ k : Nat, k ≤ n ∧ i = .int .i64 k ∧ ds.take k = es.take k ∧ ∃ q, wr = w.drewN q) (fun i _ => n - (intOf i).toNat)
    case atStart => exact ⟨0, Nat.zero_le _, rfl, by simp, 0, rfl⟩
    case round =>
      obtain ⟨k, hk, rfl, heq, q, rfl⟩ := hrel
      have hE := Lib.hid heq
      clear heq
      by_cases hlt : k < n
      · obtain ⟨g, off, a, rfl, hg, hs, c0⟩ := hH.out.at_ hlt
        obtain ⟨g2, off2, b, rfl, hg2, hs2, d0⟩ := hH2.out.at_ hlt
        have hk0 : (0 : Int) ≤ (k : Int) := Int.natCast_nonneg _
        have hk1 : (k : Int) < (n : Int) := by omega
        by_cases hab : a = b
        · subst hab
          have hR := Lib.hid (take_next hE.out hs hs2)
          clear hs hs2
          go_wp2
          go_quiet (fail)
          go_wp2
          exact ⟨⟨k + 1, by omega, by go_num, hR.out, _, rfl⟩, by simp [intOf]; omega⟩
        · have hR := Lib.hid (ils_ne hs hs2 hab)
          have hab' : (a != b) = true := by simpa using hab
          clear hs hs2 hab
          go_wp2
          go_quiet (fail)
          go_wp2
          go_ret
          exact ⟨ret_bool hR.out, _, by rw [World.drewN_drewN]⟩
      · obtain rfl : n = k := by omega
        have hR := Lib.hid (show decide (ds = es) = true by
          have := hE.out
          rw [List.take_of_length_le (by rw [hL.out]; omega), List.take_of_length_le (by rw [hL2.out]; omega)] at this
          exact decide_eq_true this)
        go_wp2
        go_ret
        exact ⟨ret_bool hR.out, q, rfl⟩
  · have hR := Lib.hid (show decide (ds = es) = false from decide_eq_false (by rintro rfl; exact hnn (hL.out.symm.trans hL2.out)))
    have hnn' : ((n : Int) != (n2 : Int)) = true := by simp; omega
    clear hnn
    go_enter Try.func18, Try.ntmps18
    go_wp2
    go_ret
    exact ⟨ret_bool hR.out, 0, rfl⟩

end Go.Proofs.Ytbndonfpdioibaa

namespace Go.Proofs.Ytbndonfpdioibaa
set_option maxRecDepth 100000
set_option linter.unusedVariables false
open Go.RowKit

/-- n numbers, one greater than the other, from m on. -/
def nums (m : Int) (n : Nat) : List Int := (List.range n).map fun (i : Nat) => m + i
theorem nums_length (m : Int) (n : Nat) : (nums m n).length = n := by simp [nums]
theorem nums_get (m : Int) {n i : Nat} (h : i < n) : (nums m n)[i]? = some (m + i) := by
  unfold nums
  rw [List.getElem?_map, List.getElem?_range h]; rfl

def IWr (w : World) (A : Option Addr) (n : Nat) : Prop := 0 < n → ∃ g cs, A = some ⟨g, 0, none⟩ ∧ Has w g 3 cs ∧ n ≤ cs.size
def IMk (cs : Array Value) (m : Int) (n k : Nat) : Prop := n ≤ cs.size ∧ ∀ i, i < k → cs[i]? = some (.int .i64 (m + i))
theorem IMk.step {cs : Array Value} {m : Int} {n k : Nat} (h : IMk cs m n k) (hk : k < n) : IMk (cs.setIfInBounds k (.int .i64 (m + k))) m n (k + 1) := by
  refine ⟨by simpa using h.1, fun i hi => ?_⟩
  by_cases hik : i = k
  · subst hik
    have := h.1
    rw [Array.getElem?_setIfInBounds, if_pos rfl, if_pos (by omega)]
  · rw [Array.getElem?_setIfInBounds, if_neg (by omega)]
    exact h.2 i (by omega)
theorem IMk.lst {w : World} {g n : Nat} {cs : Array Value} {m : Int} (hh : Has w g 3 cs) (h : IMk cs m n n) : Ils w w.heap.size (some ⟨g, 0, none⟩) n (nums m n) := by
  refine ⟨nums_length m n, fun _ => ⟨g, 0, rfl, hh.lt, fun k d hd => ?_⟩⟩
  have hk : k < n := by have := (List.getElem?_eq_some_iff.1 hd).1; rwa [nums_length] at this
  rw [nums_get m hk] at hd
  obtain rfl := Option.some.inj hd
  rw [Nat.zero_add, hh.cell]
  exact h.2 k hk

theorem markIntS_any (A : Option Addr) (n c : Nat) (m : Int) (w : World) (h : IWr w A n) (hm : 0 ≤ m) (hm2 : m ≤ 1000000000000) (hn : n ≤ 100000000) :
    Calls Try.prog 21 #[.slice A n c, .int .i64 m] w fun e w' => e = .returned (.int .i64 (m + n)) ∧ Only w w' A ∧ Ils w' w'.heap.size A n (nums m n) := by
  by_cases hn0 : n = 0
  · subst hn0
    clear h
    go_enter Try.func21, Try.ntmps21
    go_wp2
    go_loop [1, 5] (fun q i => i = .int .i64 0 ∧ q = .int .i64 m) (fun _ i => 0)
    case atStart => exact ⟨rfl, rfl⟩
    case round =>
      obtain ⟨rfl, rfl⟩ := hrel
      go_wp2
      go_ret
      exact ⟨ret_int (by omega), Only.of_same rfl, rfl, fun h => absurd h (by omega)⟩
  · obtain ⟨g, cs0, rfl, hh0, hs0⟩ := h (by omega)
    have hH0 := Lib.hid hh0
    clear hh0
    go_enter Try.func21, Try.ntmps21
    go_wp2
    go_loopw [1, 5] (fun q i wr => ∃ (k : Nat) (cs : Array Value), k ≤ n ∧ i = .int .i64 k ∧ q = .int .i64 (m + k) ∧ Has wr g 3 cs ∧ IMk cs m n k ∧ w.grownBy wr (some g)) (fun _ i _ => n - (intOf i).toNat)
    case atStart => exact ⟨0, cs0, Nat.zero_le _, rfl, by simp, hH0.out, ⟨hs0, fun i hi => absurd hi (by omega)⟩, World.grownBy.refl w _⟩
    case round =>
      obtain ⟨k, cs, hk, rfl, rfl, hhas, hmk, hgr⟩ := hrel
      have hHas := Lib.hid hhas
      have hMk := Lib.hid hmk
      have hGr := Lib.hid hgr
      clear hgr
      by_cases hlt : k < n
      · have hfz := hhas.frozen
        have hsz := hmk.1
        obtain ⟨u0, e0⟩ := hhas.size_cell (x := k) (by omega)
        have hN := Lib.hid (hhas.put k (.int .i64 (m + k)))
        have hG := Lib.hid (only_put hGr.out k (.int .i64 (m + k)))
        clear hhas hmk
        go_wp2
        go_roundw
        case rel => exact ⟨k + 1, _, by omega, by go_num, congrArg (Value.int .i64) (by omega), hN.out, hMk.out.step hlt, hG.out⟩
        case measure => (simp [intOf]; try omega)
      · obtain rfl : n = k := by omega
        have hLs := Lib.hid (IMk.lst hHas.out hMk.out)
        clear hhas hmk
        go_wp2
        go_ret
        exact ⟨rfl, hGr.out, hLs.out⟩

theorem heldIntS_any (A : Option Addr) (n c : Nat) (m : Int) (w : World) (h : Ils w w.heap.size A n (nums m n)) (hm : 0 ≤ m) (hm2 : m ≤ 1000000000000) (hn : n ≤ 100000000) :
    Calls Try.prog 22 #[.slice A n c, .int .i64 m] w fun e w' => e = .returned (.int .i64 (m + n)) ∧ w = w' := by
  have hH := Lib.hid h
  clear h
  go_enter Try.func22, Try.ntmps22
  go_wp2
  go_loop [1, 5] (fun q i => ∃ k : Nat, k ≤ n ∧ i = .int .i64 k ∧ q = .int .i64 (m + k)) (fun _ i => n - (intOf i).toNat)
  case atStart => exact ⟨0, Nat.zero_le _, rfl, by simp⟩
  case round =>
    obtain ⟨k, hk, rfl, rfl⟩ := hrel
    by_cases hlt : k < n
    · obtain ⟨g, off, d, rfl, hg, hs, c0⟩ := hH.out.at_ hlt
      rw [nums_get m hlt] at hs
      obtain rfl := Option.some.inj hs
      clear hs
      go_wp2
      go_round
      case rel => exact ⟨k + 1, by omega, by go_num, congrArg (Value.int .i64) (by omega)⟩
      case measure => (simp [intOf]; try omega)
    · obtain rfl : n = k := by omega
      go_wp2
      go_ret
      exact ⟨rfl, rfl⟩

theorem wcInts_any (A A2 : Option Addr) (n n2 c c2 : Nat) (ds es : List Int) (w : World) (h : Ils w w.heap.size A n ds) (h2 : Ils w w.heap.size A2 n2 es) (hn : n ≤ maxLen) (hn2 : n2 ≤ maxLen) :
    Calls Try.prog 33 #[.slice A n c, .slice A2 n2 c2] w fun e w' => e = .returned (.bool (decide (ds = es))) ∧ ∃ k, w' = w.drewN k := by
  unfold maxLen at hn hn2
  have hH := Lib.hid h
  have hH2 := Lib.hid h2
  have hL := Lib.hid h.1
  have hL2 := Lib.hid h2.1
  clear h h2
  by_cases hnn : n = n2
  · subst hnn
    go_enter Try.func33, Try.ntmps33
    go_wp2
    go_loopw [13] (fun i wr => ∃ k : Nat, k ≤ n ∧ i = .int .i64 k ∧ ds.take k = es.take k ∧ ∃ q, wr = w.drewN q) (fun i _ => n - (intOf i).toNat)
    case atStart => exact ⟨0, Nat.zero_le _, rfl, by simp, 0, rfl⟩
    case round =>
      obtain ⟨k, hk, rfl, heq, q, rfl⟩ := hrel
      have hE := Lib.hid heq
      clear heq
      by_cases hlt : k < n
      · obtain ⟨g, off, a, rfl, hg, hs, c0⟩ := hH.out.at_ hlt
        obtain ⟨g2, off2, b, rfl, hg2, hs2, d0⟩ := hH2.out.at_ hlt
        have hk0 : (0 : Int) ≤ (k : Int) := Int.natCast_nonneg _
        have hk1 : (k : Int) < (n : Int) := by omega
        by_cases hab : a = b
        · subst hab
          have hR := Lib.hid (take_next hE.out hs hs2)
          clear hs hs2
          go_wp2
          go_quiet (fail)
          go_wp2
          exact ⟨⟨k + 1, by omega, by go_num, hR.out, _, rfl⟩, by simp [intOf]; omega⟩
        · have hR := Lib.hid (ils_ne hs hs2 hab)
          have hab' : (a != b) = true := by simpa using hab
          clear hs hs2 hab
          go_wp2
          go_quiet (fail)
          go_wp2
          go_ret
          exact ⟨ret_bool hR.out, _, by rw [World.drewN_drewN]⟩
      · obtain rfl : n = k := by omega
        have hR := Lib.hid (show decide (ds = es) = true by
          have := hE.out
          rw [List.take_of_length_le (by rw [hL.out]; omega), List.take_of_length_le (by rw [hL2.out]; omega)] at this
          exact decide_eq_true this)
        go_wp2
        go_ret
        exact ⟨ret_bool hR.out, q, rfl⟩
  · have hR := Lib.hid (show decide (ds = es) = false from decide_eq_false (by rintro rfl; exact hnn (hL.out.symm.trans hL2.out)))
    have hnn' : ((n : Int) != (n2 : Int)) = true := by simp; omega
    clear hnn
    go_enter Try.func33, Try.ntmps33
    go_wp2
    go_ret
    exact ⟨ret_bool hR.out, 0, rfl⟩
end Go.Proofs.Ytbndonfpdioibaa

namespace Go.Proofs.Ytbndonfpdioibaa
set_option maxRecDepth 100000
set_option linter.unusedVariables false
open Go.RowKit

/-- All blocks but those of S are as they were. -/
structure KeptBut (w w' : World) (S : Nat → Prop) : Prop where
  os : w'.os = w.os
  tape : w'.tape = w.tape
  output : w'.output = w.output
  size : w.heap.size ≤ w'.heap.size
  block : ∀ i, i < w.heap.size → ¬ S i → w'.heap[i]? = w.heap[i]?

theorem KeptBut.refl (w : World) (S : Nat → Prop) : KeptBut w w S := ⟨rfl, rfl, rfl, Nat.le_refl _, fun _ _ _ => rfl⟩
theorem KeptBut.trans {a b c : World} {S T : Nat → Prop} (h : KeptBut a b S) (k : KeptBut b c T) (hT : ∀ i, i < a.heap.size → T i → S i) : KeptBut a c S :=
  ⟨k.os.trans h.os, k.tape.trans h.tape, k.output.trans h.output, Nat.le_trans h.size k.size, fun i hi hn => (k.block i (Nat.lt_of_lt_of_le hi h.size) (fun ht => hn (hT i hi ht))).trans (h.block i hi hn)⟩
theorem KeptBut.of_below {w w' : World} (h : Below w.heap.size w w') (S : Nat → Prop) : KeptBut w w' S := ⟨h.os, h.tape, h.output, h.size, fun i hi _ => h.block i hi⟩
theorem KeptBut.of_grown {w w' : World} {row : Option Nat} (h : w.grownBy w' row) {S : Nat → Prop} (hS : ∀ k, row = some k → S k) : KeptBut w w' S := ⟨h.os, h.tape, h.output, h.size, fun i hi hn => h.block i hi (fun e => hn (hS i e.symm))⟩
theorem KeptBut.below {w w' : World} {S : Nat → Prop} (h : KeptBut w w' S) {B : Nat} (hB : ∀ i, i < B → ¬ S i) (hs : B ≤ w.heap.size) : Below B w w' := ⟨h.os, h.tape, h.output, h.size, fun i hi => h.block i (by omega) (hB i hi)⟩
theorem KeptBut.alloc {a b : World} {S : Nat → Prop} (h : KeptBut a b S) (o : Obj) : KeptBut a (b.alloc o) S :=
  ⟨h.os, h.tape, h.output, Nat.le_trans h.size (by simp), fun i hi hn => (Below.heap_alloc b o i (Nat.lt_of_lt_of_le hi h.size)).trans (h.block i hi hn)⟩
theorem KeptBut.put {a b : World} {S : Nat → Prop} (h : KeptBut a b S) {p : Addr} (hp : p.block < a.heap.size → S p.block) (u : Value) : KeptBut a (b.setCell p u) S :=
  ⟨h.os, h.tape, h.output, by simpa [World.setCell] using h.size, fun i hi hn => (Below.heap_setCell b _ u i (by rintro rfl; exact hn (hp hi))).trans (h.block i hi hn)⟩
theorem KeptBut.drewN {a b : World} {S : Nat → Prop} (h : KeptBut a b S) (n : Nat) : KeptBut a (b.drewN n) S := ⟨h.os, h.tape, h.output, h.size, h.block⟩
theorem KeptBut.mono {a b : World} {S T : Nat → Prop} (h : KeptBut a b S) (hST : ∀ i, i < a.heap.size → S i → T i) : KeptBut a b T := ⟨h.os, h.tape, h.output, h.size, fun i hi hn => h.block i hi (fun hs => hn (hST i hi hs))⟩

theorem Has.but {w w' : World} {g : Nat} {t : TypeId} {cs : Array Value} {S : Nat → Prop} (h : Has w g t cs) (hk : KeptBut w w' S) (hn : ¬ S g) : Has w' g t cs := (hk.block g h.lt hn).trans h
theorem has_ne {w : World} {g g' : Nat} {t t' : TypeId} {cs cs' : Array Value} (h : Has w g t cs) (h' : Has w g' t' cs') (ht : t ≠ t') : g ≠ g' := by
  rintro rfl
  unfold Has at h h'
  rw [h] at h'
  injection h' with h'
  injection h' with _ e
  exact ht e

theorem owns_has {w : World} {base : Nat} {e : TypeId} {size n : Nat} {v : Value} {xs : List Value} (h : w.ownsRow base e size v n xs) {k : Nat} (hk : v.ownBlock = some k) : ∃ cur, Has w k e cur := by
  rcases h.2 with ⟨hv, _⟩ | ⟨g, cap, cur, hv, hg, hh, _⟩
  · rw [hv] at hk; cases hk
  · rw [hv] at hk
    injection hk with hk
    subst hk
    exact ⟨cur, hh⟩
theorem owns_le {w : World} {base base' size n : Nat} {e : TypeId} {v : Value} {xs : List Value} (h : w.ownsRow base e size v n xs) (hb : base' ≤ base) : w.ownsRow base' e size v n xs := by
  refine ⟨h.1, ?_⟩
  rcases h.2 with h0 | ⟨g, cap, cur, hv, hg, rest⟩
  · exact .inl h0
  · exact .inr ⟨g, cap, cur, hv, by omega, rest⟩
theorem owns_form {w : World} {base : Nat} {e : TypeId} {size n : Nat} {v : Value} {xs : List Value} (h : w.ownsRow base e size v n xs) : ∃ A c, v = .slice A n c ∧ n ≤ c ∧ c ≤ maxLen := by
  rcases h.2 with ⟨hv, hn⟩ | ⟨g, cap, cur, hv, _, _, h1, h2, _⟩
  · exact ⟨none, 0, by rw [hv, hn], by omega, by simp [maxLen]⟩
  · exact ⟨_, cap, hv, h1, h2⟩
theorem owns_but {w w' : World} {base : Nat} {e : TypeId} {size n : Nat} {v : Value} {xs : List Value} {S : Nat → Prop} (h : w.ownsRow base e size v n xs) (hk : KeptBut w w' S) (hn : ∀ k, v.ownBlock = some k → ¬ S k) : w'.ownsRow base e size v n xs := by
  refine ⟨h.1, ?_⟩
  rcases h.2 with h0 | ⟨g, cap, cur, hv, hg, hh, rest⟩
  · exact .inl h0
  · exact .inr ⟨g, cap, cur, hv, hg, Has.but (cs := cur) hh hk (hn g (by rw [hv]; rfl)), rest⟩
theorem IOwn.but {w w' : World} {base : Nat} {v : Value} {ds : List Int} {S : Nat → Prop} (h : IOwn w base v ds) (hk : KeptBut w w' S) (hn : ∀ k, v.ownBlock = some k → ¬ S k) : IOwn w' base v ds := owns_but h hk hn

/-- A slice of slices of numbers that a call has made: the outer cells are vs. -/
def RowsV (w : World) (base : Nat) (v : Value) (rs : List (List Int)) (vs : List Value) : Prop :=
  w.ownsRow base 24 1 v rs.length vs ∧ ∀ (i : Nat) (x : Value), vs[i]? = some x → ∃ ds, rs[i]? = some ds ∧ IOwn w base x ds
/-- No two of them lie in one block. -/
def Apart (vs : List Value) : Prop := ∀ (i j : Nat) (x y : Value), i < j → vs[i]? = some x → vs[j]? = some y → ∀ k, x.ownBlock = some k → y.ownBlock ≠ some k

theorem RowsV.nil (w : World) (base : Nat) : RowsV w base (.slice none 0 0) [] [] := ⟨World.ownsRow_nil w base _ _, fun i x h => by simp at h⟩
theorem RowsV.length {w : World} {base : Nat} {v : Value} {rs : List (List Int)} {vs : List Value} (h : RowsV w base v rs vs) : vs.length = rs.length := by have := h.1.1; omega
theorem RowsV.but {w w' : World} {base : Nat} {v : Value} {rs : List (List Int)} {vs : List Value} {S : Nat → Prop} (h : RowsV w base v rs vs) (hk : KeptBut w w' S) (hn : ∀ k, v.ownBlock = some k → ¬ S k) (hi : ∀ k cur, Has w k 3 cur → base ≤ k → (∃ x ∈ vs, x.ownBlock = some k) → ¬ S k) : RowsV w' base v rs vs := by
  refine ⟨owns_but h.1 hk hn, fun i x hx => ?_⟩
  obtain ⟨ds, hd, ho⟩ := h.2 i x hx
  refine ⟨ds, hd, ho.but hk fun k hkb => ?_⟩
  obtain ⟨cur, hc⟩ := owns_has ho hkb
  exact hi k cur hc (World.ownsRow.lt ho k hkb).1 ⟨x, List.mem_of_getElem? hx, hkb⟩
theorem RowsV.form {w : World} {base : Nat} {v : Value} {rs : List (List Int)} {vs : List Value} (h : RowsV w base v rs vs) : ∃ A c, v = .slice A rs.length c ∧ rs.length ≤ c ∧ c ≤ maxLen := by
  rcases h.1.2 with ⟨hv, hn⟩ | ⟨g, cap, cur, hv, _, _, h1, h2, _⟩
  · exact ⟨none, 0, by rw [hv, hn], by omega, by simp [maxLen]⟩
  · exact ⟨_, cap, hv, h1, h2⟩

theorem int_ne : (3 : TypeId) ≠ 24 := by decide

/-- Behind an append of one row. -/
theorem RowsV.append_ {w w' : World} {base : Nat} {v v' : Value} {rs : List (List Int)} {vs : List Value} {x : Value} {ds : List Int} (h : RowsV w base v rs vs) (hx : IOwn w base x ds)
    (hN : w'.ownsRow base 24 1 v' (rs.length + 1) (vs ++ [x])) (hg : w.grownBy w' v.ownBlock) : RowsV w' base v' (rs ++ [ds]) (vs ++ [x]) := by
  have hk : KeptBut w w' (fun i => v.ownBlock = some i) := KeptBut.of_grown hg fun k e => e
  have hrow : ∀ y es, IOwn w base y es → IOwn w' base y es := fun y es hy => hy.but hk fun k hkb e => by
    obtain ⟨c1, h1⟩ := owns_has hy hkb
    obtain ⟨c2, h2⟩ := owns_has h.1 e
    exact has_ne h1 h2 int_ne rfl
  refine ⟨by rw [List.length_append]; exact hN, fun i y hy => ?_⟩
  have hl := h.length
  by_cases hi : i < vs.length
  · rw [List.getElem?_append_left hi] at hy
    obtain ⟨es, he, ho⟩ := h.2 i y hy
    exact ⟨es, by rw [List.getElem?_append_left (by omega)]; exact he, hrow y es ho⟩
  · rw [List.getElem?_append_right (by omega)] at hy
    have hi0 : i - vs.length = 0 := by
      have := (List.getElem?_eq_some_iff.1 hy).1
      simp at this; omega
    rw [hi0] at hy
    have hy' : x = y := by simpa using hy
    subst hy'
    refine ⟨ds, ?_, hrow x ds hx⟩
    rw [List.getElem?_append_right (by omega)]
    simp [show i - rs.length = 0 by omega]

theorem Apart.nil : Apart [] := fun i j x y _ h => by simp at h
theorem Apart.snoc {vs : List Value} {x : Value} (h : Apart vs) (hx : ∀ y ∈ vs, ∀ k, y.ownBlock = some k → x.ownBlock ≠ some k) : Apart (vs ++ [x]) := by
  intro i j a b hij ha hb k hk
  have hj : j < vs.length ∨ j = vs.length := by
    have := (List.getElem?_eq_some_iff.1 hb).1
    simp at this; omega
  rcases hj with hj | rfl
  · rw [List.getElem?_append_left (by omega)] at ha
    rw [List.getElem?_append_left hj] at hb
    exact h i j a b hij ha hb k hk
  · rw [List.getElem?_append_left hij] at ha
    have hb' : x = b := by simpa using hb
    subst hb'
    exact hx a (List.mem_of_getElem? ha) k hk

end Go.Proofs.Ytbndonfpdioibaa

namespace Go.Proofs.Ytbndonfpdioibaa
set_option maxRecDepth 100000
set_option linter.unusedVariables false
open Go.RowKit

theorem RowsV.at_ {w : World} {base : Nat} {A : Option Addr} {n c k : Nat} {rs : List (List Int)} {vs : List Value} (h : RowsV w base (.slice A n c) rs vs) (hn : rs.length = n) (hk : k < n) :
    ∃ (g : Nat) (Ax : Option Addr) (cx : Nat) (ds : List Int), A = some ⟨g, 0, none⟩ ∧ vs[k]? = some (.slice Ax ds.length cx) ∧ w.cell? ⟨g, k, none⟩ = some (.slice Ax ds.length cx) ∧ rs[k]? = some ds ∧ IOwn w base (.slice Ax ds.length cx) ds := by
  have hvl := h.length
  obtain ⟨x, hx⟩ : ∃ x, vs[k]? = some x := ⟨_, List.getElem?_eq_getElem (by omega)⟩
  obtain ⟨ds, hds, hxo⟩ := h.2 k x hx
  obtain ⟨Ax, cx, hvx, _, _⟩ := IOwn.form hxo
  subst hvx
  rcases h.1.2 with ⟨hv, hn0⟩ | ⟨g, cap, cur, hv, _⟩
  · omega
  · injection hv with e1 _ _
    subst e1
    refine ⟨g, Ax, cx, ds, rfl, hx, ?_, hds, hxo⟩
    rw [← World.ownsRow.cells h.1 (g := g) rfl k _ hx]
    congr 1
    unfold Addr.add
    split
    · (rename_i h0; simp at h0 ⊢; try omega)
    · (simp; try omega)

end Go.Proofs.Ytbndonfpdioibaa

namespace Go.Proofs.Ytbndonfpdioibaa
set_option maxRecDepth 100000
set_option linter.unusedVariables false
open Go.RowKit

/-- How many numbers stand ahead of row i. -/
def offs (rs : List (List Int)) (i : Nat) : Nat := ((rs.take i).map List.length).sum
theorem offs_zero (rs : List (List Int)) : offs rs 0 = 0 := by simp [offs]
theorem offs_succ {rs : List (List Int)} {i : Nat} {ds : List Int} (h : rs[i]? = some ds) : offs rs (i + 1) = offs rs i + ds.length := by
  unfold offs
  have l1 := (List.getElem?_eq_some_iff.1 h).1
  rw [List.take_succ_eq_append_getElem l1, List.map_append, List.sum_append, (List.getElem?_eq_some_iff.1 h).2]
  simp
theorem offs_le {rs : List (List Int)} {b : Nat} (h : ∀ ds ∈ rs, ds.length ≤ b) : ∀ i, offs rs i ≤ i * b
  | 0 => by simp [offs_zero]
  | i + 1 => by
    have ih := offs_le h i
    cases hi : rs[i]? with
    | none =>
      have : rs.take (i + 1) = rs.take i := by
        have hl := List.getElem?_eq_none_iff.1 hi
        rw [List.take_of_length_le hl, List.take_of_length_le (by omega)]
      unfold offs at ih ⊢
      rw [this, Nat.succ_mul]
      omega
    | some ds =>
      have := h ds (List.mem_of_getElem? hi)
      rw [offs_succ hi, Nat.succ_mul]
      omega

/-- The rows' memory is numbered through. -/
def Mkd (w : World) (base : Nat) (A : Option Addr) (n c : Nat) (rs : List (List Int)) (vs : List Value) (m : Int) : Prop :=
  w.ownsRow base 24 1 (.slice A n c) n vs ∧ ∀ (i : Nat) (ds : List Int), rs[i]? = some ds → ∃ Ax cx, vs[i]? = some (.slice Ax ds.length cx) ∧ Ils w w.heap.size Ax ds.length (nums (m + offs rs i) ds.length)

theorem Mkd.cell {w : World} {base : Nat} {A : Option Addr} {n c k : Nat} {rs : List (List Int)} {vs : List Value} {m : Int} (h : Mkd w base A n c rs vs m) (hL : rs.length = n) (hk : k < n) :
    ∃ (g : Nat) (Ax : Option Addr) (cx : Nat) (ds : List Int), A = some ⟨g, 0, none⟩ ∧ rs[k]? = some ds ∧ w.cell? ⟨g, k, none⟩ = some (.slice Ax ds.length cx) ∧ Ils w w.heap.size Ax ds.length (nums (m + offs rs k) ds.length) := by
  obtain ⟨ds, hds⟩ : ∃ ds, rs[k]? = some ds := ⟨_, List.getElem?_eq_getElem (by omega)⟩
  obtain ⟨Ax, cx, hx, hi⟩ := h.2 k ds hds
  rcases h.1.2 with ⟨hv, hn0⟩ | ⟨g, cap, cur, hv, _⟩
  · omega
  · injection hv with e1 _ _
    subst e1
    refine ⟨g, Ax, cx, ds, rfl, hds, ?_, hi⟩
    rw [← World.ownsRow.cells h.1 (g := g) rfl k _ hx]
    congr 1
    unfold Addr.add
    split
    · (rename_i h0; simp at h0 ⊢; try omega)
    · (simp; try omega)

theorem ils_but {w w' : World} {A : Option Addr} {n : Nat} {ds : List Int} {S : Nat → Prop} (h : Ils w w.heap.size A n ds) (hk : KeptBut w w' S) (hn : ∀ g, A.map (·.block) = some g → ¬ S g) : Ils w' w'.heap.size A n ds :=
  ⟨h.1, fun h0 => by
    obtain ⟨g, off, hA, hg, hc⟩ := h.2 h0
    refine ⟨g, off, hA, Nat.lt_of_lt_of_le hg hk.size, fun k d hd => ?_⟩
    rw [← hc k d hd]
    exact World.cell?_of_block (hk.block g hg (hn g (by rw [hA]; rfl)))⟩
theorem iown_wr' {w : World} {base : Nat} {A : Option Addr} {n c : Nat} {os : List Int} (h : IOwn w base (.slice A n c) os) : IWr w A n := by
  intro hn
  rcases h.2 with ⟨hv, h0⟩ | ⟨g, cap, cur, hv, hg, hh, h1, h2, h3, h4⟩
  · injection hv with _ e2 _
    omega
  · injection hv with e1 e2 _
    exact ⟨g, cur, e1, hh, by omega⟩
theorem own_map {A : Option Addr} {n c : Nat} : (Value.slice A n c).ownBlock = A.map (·.block) := by
  cases A <;> rfl

/-- The blocks of the rows ahead of row k. -/
def RowB (vs : List Value) (k : Nat) (b : Nat) : Prop := ∃ (i : Nat) (x : Value), i < k ∧ vs[i]? = some x ∧ x.ownBlock = some b

end Go.Proofs.Ytbndonfpdioibaa

namespace Go.Proofs.Ytbndonfpdioibaa
set_option maxRecDepth 100000
set_option linter.unusedVariables false
open Go.RowKit

/-- P hangs on the blocks from lo up to hi alone. -/
def Pl (P : World → Prop) (lo hi : Nat) (w : World) : Prop :=
  P w ∧ hi ≤ w.heap.size ∧ ∀ a b : World, P a → hi ≤ a.heap.size → a.heap.size ≤ b.heap.size → (∀ i, lo ≤ i → i < hi → b.heap[i]? = a.heap[i]?) → P b

theorem Pl.below {P : World → Prop} {lo hi : Nat} {w w' : World} (h : Pl P lo hi w) (hb : Below w.heap.size w w') : Pl P lo hi w' :=
  ⟨h.2.2 w w' h.1 h.2.1 hb.size (fun i _ hi' => hb.block i (Nat.lt_of_lt_of_le hi' h.2.1)), Nat.le_trans h.2.1 hb.size, h.2.2⟩
theorem Pl.drewN {P : World → Prop} {lo hi : Nat} {w : World} (h : Pl P lo hi w) (n : Nat) : Pl P lo hi (w.drewN n) :=
  ⟨h.2.2 w _ h.1 h.2.1 (Nat.le_refl _) (fun _ _ _ => rfl), h.2.1, h.2.2⟩
theorem Pl.but {P : World → Prop} {lo hi : Nat} {w w' : World} {S : Nat → Prop} (h : Pl P lo hi w) (hk : KeptBut w w' S) (hs : ∀ k, S k → ¬ (lo ≤ k ∧ k < hi)) : Pl P lo hi w' :=
  ⟨h.2.2 w w' h.1 h.2.1 hk.size (fun i h1 h2 => hk.block i (Nat.lt_of_lt_of_le h2 h.2.1) (fun e => hs i e ⟨h1, h2⟩)), Nat.le_trans h.2.1 hk.size, h.2.2⟩

/-- A row of the call's own, with the bound of its block. -/
def OwnB (base hi : Nat) (e : TypeId) (size n : Nat) (v : Value) (xs : List Value) (w : World) : Prop := w.ownsRow base e size v n xs ∧ ∀ k, v.ownBlock = some k → k < hi
theorem OwnB.pl {w : World} {base size n : Nat} {e : TypeId} {v : Value} {xs : List Value} (h : w.ownsRow base e size v n xs) : Pl (OwnB base w.heap.size e size n v xs) base w.heap.size w := by
  refine ⟨⟨h, fun k hk => (World.ownsRow.lt h k hk).2⟩, Nat.le_refl _, fun a b ha _ _ hab => ⟨⟨ha.1.1, ?_⟩, ha.2⟩⟩
  rcases ha.1.2 with h0 | ⟨g, cap, cur, hv, hg, hh, rest⟩
  · exact .inl h0
  · exact .inr ⟨g, cap, cur, hv, hg, (hab g hg (ha.2 g (by rw [hv]; rfl))).trans hh, rest⟩
theorem OwnB.blk {w : World} {base hi size n c : Nat} {e : TypeId} {A : Option Addr} {xs : List Value} (h : OwnB base hi e size n (.slice A n c) xs w) : ∀ k, A.map (·.block) = some k → base ≤ k ∧ k < hi := fun k hk => by
  have hk' : (Value.slice A n c).ownBlock = some k := by rw [own_map]; exact hk
  exact ⟨(World.ownsRow.lt h.1 k hk').1, h.2 k hk'⟩

/-- Numbers, and where they lie. -/
def IlsB (lo hi : Nat) (A : Option Addr) (n : Nat) (ds : List Int) (w : World) : Prop := Ils w w.heap.size A n ds ∧ ∀ a, A = some a → lo ≤ a.block ∧ a.block < hi
theorem IlsB.pl {w : World} {lo hi n : Nat} {A : Option Addr} {ds : List Int} (h : Ils w w.heap.size A n ds) (hA : ∀ k, A.map (·.block) = some k → lo ≤ k ∧ k < hi) (hh : hi ≤ w.heap.size) : Pl (IlsB lo hi A n ds) lo hi w := by
  refine ⟨⟨h, fun a e => hA a.block (by rw [e]; rfl)⟩, hh, fun a b ha hs hab hk => ⟨⟨ha.1.1, fun hn => ?_⟩, ha.2⟩⟩
  obtain ⟨g, off, e, hg, hc⟩ := ha.1.2 hn
  have hg2 := ha.2 _ e
  refine ⟨g, off, e, Nat.lt_of_lt_of_le hg hab, fun k d hd => (World.cell?_of_block ?_).trans (hc k d hd)⟩
  exact hk g hg2.1 hg2.2
/-- Statements, and where they lie. -/
def LstB (lo hi : Nat) (A : Option Addr) (n : Nat) (ps : List St) (w : World) : Prop := Lst w w.heap.size A n ps ∧ ∀ a, A = some a → lo ≤ a.block ∧ a.block < hi
theorem LstB.pl {w : World} {lo hi n : Nat} {A : Option Addr} {ps : List St} (h : Lst w w.heap.size A n ps) (hA : ∀ k, A.map (·.block) = some k → lo ≤ k ∧ k < hi) (hh : hi ≤ w.heap.size) : Pl (LstB lo hi A n ps) lo hi w := by
  refine ⟨⟨h, fun a e => hA a.block (by rw [e]; rfl)⟩, hh, fun a b ha hs hab hk => ⟨⟨ha.1.1, fun hn => ?_⟩, ha.2⟩⟩
  obtain ⟨g, off, e, hg, hc⟩ := ha.1.2 hn
  have hg2 := ha.2 _ e
  refine ⟨g, off, e, Nat.lt_of_lt_of_le hg hab, fun k d hd j u hu => (World.cell?_of_block ?_).trans (hc k d hd j u hu)⟩
  exact hk g hg2.1 hg2.2
/-- Rows, and where they lie. -/
def RowsB (lo hi : Nat) (v : Value) (rs : List (List Int)) (vs : List Value) (w : World) : Prop := RowsV w lo v rs vs ∧ (∀ k, v.ownBlock = some k → k < hi) ∧ ∀ x ∈ vs, ∀ k, x.ownBlock = some k → lo ≤ k ∧ k < hi
theorem RowsB.pl {w : World} {base : Nat} {v : Value} {rs : List (List Int)} {vs : List Value} (h : RowsV w base v rs vs) : Pl (RowsB base w.heap.size v rs vs) base w.heap.size w := by
  refine ⟨⟨h, fun k hk => (World.ownsRow.lt h.1 k hk).2, fun x hx k hk => ?_⟩, Nat.le_refl _, fun a b ha _ _ hab => ⟨⟨⟨ha.1.1.1, ?_⟩, fun i x hx => ?_⟩, ha.2⟩⟩
  · obtain ⟨i, hi, hie⟩ := List.getElem_of_mem hx
    obtain ⟨ds, _, ho⟩ := h.2 i x (by rw [List.getElem?_eq_getElem hi, hie])
    exact World.ownsRow.lt ho k hk
  · rcases ha.1.1.2 with h0 | ⟨g, cap, cur, hv, hg, hh, rest⟩
    · exact .inl h0
    · exact .inr ⟨g, cap, cur, hv, hg, (hab g hg (ha.2.1 g (by rw [hv]; rfl))).trans hh, rest⟩
  · obtain ⟨ds, hds, ho⟩ := ha.1.2 i x hx
    refine ⟨ds, hds, ho.1, ?_⟩
    rcases ho.2 with h0 | ⟨g, cap, cur, hv, hg, hh, rest⟩
    · exact .inl h0
    · exact .inr ⟨g, cap, cur, hv, hg, (hab g hg (ha.2.2 x (List.mem_of_getElem? hx) g (by rw [hv]; rfl)).2).trans hh, rest⟩
def MkdB (lo hi : Nat) (A : Option Addr) (n c : Nat) (rs : List (List Int)) (vs : List Value) (m : Int) (w : World) : Prop := Mkd w lo A n c rs vs m ∧ (∀ k, (Value.slice A n c).ownBlock = some k → k < hi) ∧ ∀ x ∈ vs, ∀ k, x.ownBlock = some k → lo ≤ k ∧ k < hi
theorem MkdB.pl {w : World} {lo hi n c : Nat} {A : Option Addr} {rs : List (List Int)} {vs : List Value} {m : Int} (h : Mkd w lo A n c rs vs m) (h1 : ∀ k, (Value.slice A n c).ownBlock = some k → k < hi) (h2 : ∀ x ∈ vs, ∀ k, x.ownBlock = some k → lo ≤ k ∧ k < hi) (hh : hi ≤ w.heap.size) : Pl (MkdB lo hi A n c rs vs m) lo hi w := by
  refine ⟨⟨h, h1, h2⟩, hh, fun a b ha hs hab hk => ⟨⟨⟨ha.1.1.1, ?_⟩, fun i ds hds => ?_⟩, ha.2⟩⟩
  · rcases ha.1.1.2 with h0 | ⟨g, cap, cur, hv, hg, hh, rest⟩
    · exact .inl h0
    · exact .inr ⟨g, cap, cur, hv, hg, (hk g hg (ha.2.1 g (by rw [hv]; rfl))).trans hh, rest⟩
  · obtain ⟨Ax, cx, hx, hi⟩ := ha.1.2 i ds hds
    refine ⟨Ax, cx, hx, hi.1, fun hn => ?_⟩
    obtain ⟨g, off, e, hg, hc⟩ := hi.2 hn
    have hg2 := ha.2.2 _ (List.mem_of_getElem? hx) g (by rw [e]; rfl)
    refine ⟨g, off, e, Nat.lt_of_lt_of_le hg hab, fun k d hd => (World.cell?_of_block ?_).trans (hc k d hd)⟩
    exact hk g hg2.1 hg2.2

theorem Own.of_has {w : World} {base g n : Nat} {cs : Array Value} {ps : List St} (h : Has w g 78 cs) (hf : cs.toList = flat ps) (hL : ps.length = n) (hg : base ≤ g) (hm : n ≤ maxLen) : w.ownsRow base 78 7 (.slice (some ⟨g, 0, none⟩) n n) n (flat ps) := by
  have hs : cs.size = n * 7 := by
    have := congrArg List.length hf
    rw [flat_length] at this
    simpa [hL] using this
  refine ⟨by rw [flat_length, hL], .inr ⟨g, n, cs, rfl, hg, h, Nat.le_refl _, hm, hs, ?_⟩⟩
  rw [hf, List.take_of_length_le (by rw [flat_length, hL]; exact Nat.le_refl _)]
theorem ownS_lst {w : World} {base n c : Nat} {A : Option Addr} {ps : List St} (h : w.ownsRow base 78 7 (.slice A n c) n (flat ps)) : Lst w w.heap.size A n ps := by
  have hl : ps.length = n := by have := h.1; rw [flat_length] at this; omega
  subst hl
  exact Own.lst h
theorem ownI_lst {w : World} {base n c : Nat} {A : Option Addr} {ds : List Int} (h : w.ownsRow base 3 1 (.slice A n c) n (ints ds)) : Ils w w.heap.size A n ds := by
  have hl : ds.length = n := by have := h.1; rw [ints_length] at this; omega
  subst hl
  exact IOwn.lst h
theorem ownS_wr {w : World} {base n c : Nat} {A : Option Addr} {xs : List Value} (h : w.ownsRow base 78 7 (.slice A n c) n xs) : Wr w A n := by
  intro hn
  rcases h.2 with ⟨hv, h0⟩ | ⟨g, cap, cur, hv, hg, hh, h1, h2, h3, h4⟩
  · omega
  · injection hv with e1 e2 _
    exact ⟨g, cur, e1, hh, by rw [h3]; exact Nat.mul_le_mul_right _ h1⟩
theorem ownI_wr {w : World} {base n c : Nat} {A : Option Addr} {xs : List Value} (h : w.ownsRow base 3 1 (.slice A n c) n xs) : IWr w A n := by
  intro hn
  rcases h.2 with ⟨hv, h0⟩ | ⟨g, cap, cur, hv, hg, hh, h1, h2, h3, h4⟩
  · omega
  · injection hv with e1 e2 _
    exact ⟨g, cur, e1, hh, by omega⟩

/-- The laws' copies. -/
theorem toStmtS_own (A : Option Addr) (n c : Nat) (ps : List St) (w : World) (h : Lst w w.heap.size A n ps) (hn : n ≤ 1048576) :
    Calls Try.prog 16 #[.slice A n c] w fun e w' => ∃ g, e = .returned (.slice (some ⟨g, 0, none⟩) n n) ∧ Pl (OwnB w.heap.size w'.heap.size 78 7 n (.slice (some ⟨g, 0, none⟩) n n) (flat ps)) w.heap.size w'.heap.size w' ∧ Below w.heap.size w w' := by
  have hL := h.1
  refine (toStmtS_any A n c ps w h hn).mono ?_
  rintro e w1 ⟨g, cs, rfl, hg, hh, hf, hb⟩
  exact ⟨g, rfl, OwnB.pl (Own.of_has hh hf hL hg (by unfold maxLen; omega)), hb⟩
theorem eqIntS_same (A A2 : Option Addr) (n c c2 : Nat) (ds : List Int) (w : World) (h : Ils w w.heap.size A n ds) (h2 : Ils w w.heap.size A2 n ds) (hn : n ≤ maxLen) :
    Calls Try.prog 18 #[.slice A n c, .slice A2 n c2] w fun e w' => e = .returned (.bool true) ∧ ∃ k, w' = w.drewN k := by
  have := eqIntS_any A A2 n n c c2 ds ds w h h2 hn hn
  rwa [decide_eq_true (rfl : ds = ds)] at this

/-- Marks. -/
theorem only_but {w w' : World} {A : Option Addr} (h : Only w w' A) : KeptBut w w' (fun k => A.map (·.block) = some k) := KeptBut.of_grown h (fun k e => e)
theorem below_but {W w w' : World} {S : Nat → Prop} (hB : Below W.heap.size W w) (hk : KeptBut w w' S) (hs : ∀ k, S k → W.heap.size ≤ k) : Below W.heap.size W w' :=
  hB.trans (hk.below (B := W.heap.size) (fun i hi e => by have := hs i e; omega) hB.size)
theorem markS_pl (A : Option Addr) (n c lo hi : Nat) (m : Int) (xs : List Value) (w : World) (h : Pl (OwnB lo hi 78 7 n (.slice A n c) xs) lo hi w) (hm : 1 ≤ m) (hm2 : m ≤ 1000000000) (hn : n ≤ 100000000) :
    Calls Try.prog 20 #[.slice A n c, .int .i64 m] w fun e w' => e = .returned (.int .i64 (m + 7 * n)) ∧ KeptBut w w' (fun k => lo ≤ k ∧ k < hi) ∧ Pl (LstB lo hi A n (marks m n)) lo hi w' := by
  refine (markStmtS_any A n c m w (ownS_wr h.1.1) hm hm2 hn).mono ?_
  rintro e w1 ⟨rfl, ho, hl⟩
  have hA := OwnB.blk h.1
  exact ⟨rfl, (only_but ho).mono (fun k _ e => hA k e), LstB.pl hl hA (Nat.le_trans h.2.1 ho.size)⟩
theorem markI_pl (A : Option Addr) (n c lo hi : Nat) (m : Int) (xs : List Value) (w : World) (h : Pl (OwnB lo hi 3 1 n (.slice A n c) xs) lo hi w) (hm : 0 ≤ m) (hm2 : m ≤ 1000000000000) (hn : n ≤ 100000000) :
    Calls Try.prog 21 #[.slice A n c, .int .i64 m] w fun e w' => e = .returned (.int .i64 (m + n)) ∧ KeptBut w w' (fun k => lo ≤ k ∧ k < hi) ∧ Pl (IlsB lo hi A n (nums m n)) lo hi w' := by
  refine (markIntS_any A n c m w (ownI_wr h.1.1) hm hm2 hn).mono ?_
  rintro e w1 ⟨rfl, ho, hl⟩
  have hA := OwnB.blk h.1
  exact ⟨rfl, (only_but ho).mono (fun k _ e => hA k e), IlsB.pl hl hA (Nat.le_trans h.2.1 ho.size)⟩
end Go.Proofs.Ytbndonfpdioibaa

namespace Go.Proofs.Ytbndonfpdioibaa
set_option maxRecDepth 100000
set_option linter.unusedVariables false
open Go.RowKit

theorem copied_any (A : Option Addr) (n c : Nat) (ds : List Int) (w : World) (h : Ils w w.heap.size A n ds) (hn : n ≤ 1048576) :
    Calls Try.prog 157 #[.slice A n c] w fun e w' => e = .returned (.slice (some ⟨w.heap.size, 0, none⟩) n n) ∧ IOwn w' w.heap.size (.slice (some ⟨w.heap.size, 0, none⟩) n n) ds ∧ Below w.heap.size w w' := by
  have hL := Lib.hid h.1
  have hH := Lib.hid h
  clear h
  obtain ⟨i0, hi0, hz0, hz1', hz2'⟩ := info_parts info_int
  have hmk : ∀ wx : World, (Instr.makeSlice 24 (.int .i64 (n : Int)) (.int .i64 (n : Int))).run Try.prog wx = .ok (.slice (some ⟨wx.heap.size, 0, none⟩) n n) (wx.alloc (.cells (madeCells (Value.int .i64 0).cells (n * 1)) 3)) := by
    intro wx
    have hr := run_make (P := Try.prog) wx 24 3 i0 _ Try.underlying24 hi0 hz0 .i64 .i64 (n : Int) (n : Int) (by omega) (by omega) (by rw [hz2']; omega) (by omega)
    rw [hz1'] at hr
    simp only [Int.toNat_natCast] at hr
    exact hr
  go_enter Try.func157, Try.ntmps157
  have hb0 : Below w.heap.size w (w.alloc (.cells (madeCells #[.int .i64 0] n) 3)) := (Below.refl _ _).alloc (Nat.le_refl _) _
  obtain ⟨cur, hcur⟩ : ∃ cur : List Value, cur = (madeCells #[.int .i64 0] n).toList := ⟨_, rfl⟩
  have hcl : cur.length = n := by rw [hcur, Array.length_toList, size_madeCells]
  have hg : (w.alloc (.cells (madeCells #[.int .i64 0] n) 3)).heap[w.heap.size]? = some (.cells cur.toArray 3 (0, 0)) := by
    rw [hcur]
    exact Has.new w 3 (madeCells #[.int .i64 0] n)
  obtain ⟨cs, hcs⟩ : ∃ cs, cs = ints ds := ⟨_, rfl⟩
  have hcsl : cs.length = n := by rw [hcs, ints_length]; exact hL.out
  have hone : ∀ v ∈ cs, v.oneCell' = true := by rw [hcs]; exact ints_one ds
  have hpos := Lib.hid (show 0 < cs.length → (some (⟨w.heap.size, 0, none⟩ : Addr)) = some ⟨w.heap.size, 0, none⟩ ∧ ∃ ad, A = some ad ∧ ∀ j v, cs[j]? = some v → (w.alloc (.cells (madeCells #[.int .i64 0] n) 3)).cell? (ad.add j) = some v from fun hp => by
    obtain ⟨g, off, hA, hgl, hc⟩ := hH.out.2 (by omega)
    refine ⟨rfl, _, hA, fun j v hv => ?_⟩
    rw [hcs] at hv
    unfold ints at hv
    rw [List.getElem?_map] at hv
    obtain ⟨d, hd, rfl⟩ := Option.map_eq_some_iff.1 hv
    have := hc j d hd
    rw [← this, hb0.cell (by unfold Addr.add; split <;> exact hgl)]
    congr 1
    unfold Addr.add
    split
    · (rename_i h0; simp at h0 ⊢; try omega)
    · (simp; try omega))
  have hG := Lib.hid hg
  have hmn := Lib.hid (show cs.length = Nat.min n n from by rw [hcsl]; exact (Nat.min_self n).symm)
  have hft := Lib.hid (show 0 + cs.length ≤ cur.length from by omega)
  have hsz : (Try.prog.info? 3).map (·.size) = some 1 := by rw [hi0]; exact congrArg some hz1'
  clear hg
  go_wp2_with (refine wpList_copy_splice rfl (.tmp 7) (.tmp 8) 24 24 rfl 3 Try.underlying24 hsz (some ⟨w.heap.size, 0, none⟩) A n n n c rfl rfl w.heap.size 0 cur 3 hG.out cs hmn.out hpos.out hft.out hone w.heap.size w hb0 (Nat.le_refl _) ?_; intro w2 hG2 hb2)
  go_ret
  refine ⟨rfl, ?_, hb2⟩
  have hsp : splice cur 0 cs = ints ds := by
    unfold splice
    rw [hcs, List.take_zero, List.nil_append, List.drop_eq_nil_of_le (by rw [hcl, ints_length, hL.out]; omega), List.append_nil]
  exact IOwn.of_has (cs := (splice cur 0 cs).toArray) hG2.out (by rw [hsp]) hL.out (Nat.le_refl _) (by unfold maxLen; omega)
end Go.Proofs.Ytbndonfpdioibaa
