/- Lists of numbers in memory, and the laws' helpers over them. -/
import Derived.Test.YtjokiminlplbcaaMark
namespace Go.Proofs.Ytjokiminlplbcaa
set_option maxRecDepth 100000
open Go.ChangeShapes Go.WideShapes Go.RowKit Go.Deep

def ints (ds : List Int) : List Value := ds.map (Value.int .i64)
theorem ints_length (ds : List Int) : (ints ds).length = ds.length := List.length_map _
theorem ints_append (a b : List Int) : ints (a ++ b) = ints a ++ ints b := List.map_append
theorem ints_get {ds : List Int} {k : Nat} {d : Int} (h : ds[k]? = some d) : (ints ds)[k]? = some (.int .i64 d) := by
  unfold ints; rw [List.getElem?_map, h]; rfl
theorem ints_one (ds : List Int) : ∀ u ∈ ints ds, u.oneCell' = true := by
  intro u hu
  obtain ⟨d, _, rfl⟩ := List.mem_map.1 hu
  rfl

/-- A slice's value reads as a list of numbers, all below block B. -/
def Ils (w : World) (B : Nat) (A : Option Addr) (n : Nat) (ds : List Int) : Prop :=
  ds.length = n ∧ (0 < n → ∃ g off, A = some ⟨g, off, none⟩ ∧ g < B ∧ ∀ k d, ds[k]? = some d → w.cell? ⟨g, off + k, none⟩ = some (.int .i64 d))

theorem Ils.keep {w w' : World} {B : Nat} {A : Option Addr} {n : Nat} {ds : List Int} (h : Ils w B A n ds) (hk : ∀ p : Addr, p.block < B → w'.cell? p = w.cell? p) : Ils w' B A n ds :=
  ⟨h.1, fun hn => by
    obtain ⟨g, off, e, hg, hc⟩ := h.2 hn
    exact ⟨g, off, e, hg, fun k s hs => (hk _ hg).trans (hc k s hs)⟩⟩
theorem Ils.below {w w' : World} {B : Nat} {A : Option Addr} {n : Nat} {ds : List Int} (h : Ils w B A n ds) (hb : Below B w w') : Ils w' B A n ds := h.keep fun _ hp => hb.cell hp
theorem Ils.more {w : World} {B B' : Nat} {A : Option Addr} {n : Nat} {ds : List Int} (h : Ils w B A n ds) (hB : B ≤ B') : Ils w B' A n ds :=
  ⟨h.1, fun hn => by
    obtain ⟨g, off, e, hg, hc⟩ := h.2 hn
    exact ⟨g, off, e, by omega, hc⟩⟩
theorem Ils.at_ {w : World} {B : Nat} {A : Option Addr} {n k : Nat} {ds : List Int} (h : Ils w B A n ds) (hk : k < n) :
    ∃ (g off : Nat) (d : Int), A = some ⟨g, off, none⟩ ∧ g < B ∧ ds[k]? = some d ∧ w.cell? ⟨g, off + k, none⟩ = some (.int .i64 d) := by
  obtain ⟨g, off, e, hg, hc⟩ := h.2 (by omega)
  have hl : k < ds.length := by have := h.1; omega
  exact ⟨g, off, ds[k], e, hg, List.getElem?_eq_getElem hl, hc k _ (List.getElem?_eq_getElem hl)⟩
theorem Ils.take_ {w : World} {B : Nat} {A : Option Addr} {n k : Nat} {ds : List Int} (h : Ils w B A n ds) (hk : k ≤ n) : Ils w B A k (ds.take k) := by
  refine ⟨by rw [List.length_take, h.1]; omega, fun h0 => ?_⟩
  obtain ⟨g, off, e, hg, hc⟩ := h.2 (by omega)
  refine ⟨g, off, e, hg, fun j d hd => hc j d ?_⟩
  rw [List.getElem?_take] at hd
  split at hd
  · exact hd
  · cases hd

/-- A slice's value that the call itself has made, from block 'base' on: it holds these numbers. -/
def IOwn (w : World) (base : Nat) (v : Value) (ds : List Int) : Prop := w.ownsRow base 3 1 v ds.length (ints ds)

theorem IOwn.nil (w : World) (base : Nat) : IOwn w base (.slice none 0 0) [] := World.ownsRow_nil w base _ _
theorem IOwn.alloc {w : World} {base : Nat} {v : Value} {ds : List Int} (h : IOwn w base v ds) (o : Obj) : IOwn (w.alloc o) base v ds := World.ownsRow.alloc h o
theorem IOwn.below {w w' : World} {base : Nat} {v : Value} {ds : List Int} (h : IOwn w base v ds) (hb : Below w.heap.size w w') : IOwn w' base v ds := by
  refine ⟨h.1, ?_⟩
  rcases h.2 with hn | ⟨g, cap, cur, hv, hg, hh, rest⟩
  · exact .inl hn
  · exact .inr ⟨g, cap, cur, hv, hg, (hb.block g (Array.getElem?_eq_some_iff.1 hh).1).trans hh, rest⟩
theorem IOwn.form {w : World} {base : Nat} {v : Value} {ds : List Int} (h : IOwn w base v ds) : ∃ A c, v = .slice A ds.length c ∧ ds.length ≤ c ∧ c ≤ maxLen := by
  rcases h.2 with ⟨hv, hn⟩ | ⟨g, cap, cur, hv, _, _, h1, h2, _⟩
  · exact ⟨none, 0, by rw [hv, hn], by omega, by simp [maxLen]⟩
  · exact ⟨_, cap, hv, h1, h2⟩
theorem IOwn.lst {w : World} {base : Nat} {A : Option Addr} {n c : Nat} {ds : List Int} (h : IOwn w base (.slice A n c) ds) : Ils w w.heap.size A n ds := by
  rcases h.2 with ⟨hv, hn⟩ | ⟨g, cap, cur, hv, hg, hh, h1, h2, h3, h4⟩
  · injection hv with _ e2 _
    exact ⟨by omega, fun h0 => by omega⟩
  · injection hv with e1 e2 _
    refine ⟨by omega, fun h0 => ⟨g, 0, e1, (Array.getElem?_eq_some_iff.1 hh).1, fun k d hd => ?_⟩⟩
    have hf := ints_get hd
    rw [Nat.zero_add, cell_of_row w g _ cur 3 (0, 0) hh]
    rw [← h4, List.getElem?_take] at hf
    split at hf
    · simpa using hf
    · cases hf
theorem IOwn.append_ {w w' : World} {base : Nat} {v v' : Value} {os news : List Int} (hown : IOwn w base v os) (h : w'.ownsRow base 3 1 v' (os.length + news.length) (ints os ++ ints news)) (hg : w.grownBy w' v.ownBlock)
    {w0 : World} (hb : Below base w0 w) (hB : base ≤ w.heap.size) : IOwn w' base v' (os ++ news) ∧ Below base w0 w' := by
  refine ⟨?_, hb.grown hg hB fun k hk => ((World.ownsRow.lt hown) k hk).1⟩
  unfold IOwn
  rw [List.length_append, ints_append]
  exact h

theorem info_int : (Try.prog.info? 3).map (fun i => (i.zero, i.size, i.bytes)) = some (some (.int .i64 0), 1, 8) := by kernel_rfl

section
variable {H : Type} {enc : TypeId × Value → H} {w : World} {base : Nat}
set_option maxRecDepth 100000 in
/-- A parameter that is a list of numbers. -/
theorem open_intl {b0 : Nat} {r : Reach} {v : Value} {d : DataW H} {p : List MemPlace} (hv : Value.okWide Try.prog w r b0 28 v) (h : DataW.Trod enc Try.prog w 0 (fun _ => true) true 28 v d p) :
    ∃ (A : Option Addr) (n c : Nat) (ds : List Int), v = .slice A n c ∧ n ≤ c ∧ c ≤ maxLen ∧ Ils w w.heap.size A n ds := by
  obtain ⟨A, n, c, rfl⟩ := okWide_slice Try.underlying28 hv
  obtain ⟨fuel, hf⟩ := h
  rcases open_ints Try.underlying28 Try.underlying3 (by kernel_rfl) hf with ⟨hcs, _⟩ | ⟨x, l, c', zs, hcs, _, hl, hm, hz, _, hcell, hwz⟩
  · simp [Value.cells] at hcs
    obtain ⟨rfl, rfl, rfl⟩ := hcs
    exact ⟨none, 0, 0, [], rfl, Nat.le_refl _, by simp [maxLen], rfl, fun h => absurd h (by omega)⟩
  · simp [Value.cells] at hcs
    obtain ⟨rfl, rfl, rfl⟩ := hcs
    have hz' : zs.length = c := by simpa using hz
    refine ⟨some x, n, c, zs.take n, rfl, hl, hm, by rw [List.length_take]; omega, fun hn => ?_⟩
    obtain ⟨g, off, spot⟩ := x
    have h0 := hcell 0 (by omega)
    have hspot : spot = none := by simpa [Addr.add] using World.cell?_spot h0
    subst hspot
    have hlt := World.block_lt_of_cell? w _ h0
    refine ⟨g, off, rfl, by simpa [Addr.add] using hlt, fun i d hd => ?_⟩
    rw [List.getElem?_take] at hd
    split at hd
    · have hi' : i < zs.length := (List.getElem?_eq_some_iff.1 hd).1
      have := hcell i hi'
      rw [List.getD_eq_getElem?_getD, hd] at this
      rw [show some (Value.int .i64 d) = some (Value.int .i64 ((some d).getD 0)) from rfl, ← this]
      congr 1
      unfold Addr.add
      split
      · (rename_i h0; simp; try omega)
      · (simp; try omega)
    · cases hd
end

/-- The first k numbers of a list lie in a row of cells. -/
def IFill (cs : Array Value) (ds : List Int) (n k : Nat) : Prop := cs.size = n ∧ ∀ i d, i < k → ds[i]? = some d → cs[i]? = some (.int .i64 d)
theorem IFill.step {cs : Array Value} {ds : List Int} {n k : Nat} {d : Int} (h : IFill cs ds n k) (hd : ds[k]? = some d) (hk : k < n) : IFill (cs.setIfInBounds k (.int .i64 d)) ds n (k + 1) := by
  refine ⟨by simpa using h.1, fun i e hi he => ?_⟩
  by_cases hik : i = k
  · subst hik
    obtain rfl : d = e := Option.some.inj (hd.symm.trans he)
    have := h.1
    rw [Array.getElem?_setIfInBounds, if_pos rfl, if_pos (by omega)]
  · rw [Array.getElem?_setIfInBounds, if_neg (by omega)]
    exact h.2 i e (by omega) he
theorem IFill.done {cs : Array Value} {ds : List Int} {n : Nat} (h : IFill cs ds n n) (hL : ds.length = n) : cs.toList = ints ds := by
  apply List.ext_getElem?
  intro x
  rw [Array.getElem?_toList]
  by_cases hx : x < n
  · have hd : ds[x]? = some ds[x] := List.getElem?_eq_getElem (by omega)
    rw [h.2 x _ hx hd, ints_get hd]
  · rw [Array.getElem?_eq_none (by rw [h.1]; omega), List.getElem?_eq_none (by rw [ints_length]; omega)]

theorem IOwn.of_has {w : World} {base g n : Nat} {cs : Array Value} {ds : List Int} (h : Has w g 3 cs) (hf : cs.toList = ints ds) (hL : ds.length = n) (hg : base ≤ g) (hm : n ≤ maxLen) : IOwn w base (.slice (some ⟨g, 0, none⟩) n n) ds := by
  have hs : cs.size = n := by
    have := congrArg List.length hf
    rw [ints_length] at this
    simpa [hL] using this
  refine ⟨by rw [ints_length]; omega, .inr ⟨g, n, cs, by rw [hL], hg, h, by omega, hm, by omega, ?_⟩⟩
  rw [hf, List.take_of_length_le (by rw [ints_length]; omega)]

theorem toIntS_any (A : Option Addr) (n c : Nat) (ds : List Int) (w : World) (h : Ils w w.heap.size A n ds) (hn : n ≤ 1048576) :
    Calls Try.prog 52 #[.slice A n c] w fun e w' => ∃ g, e = .returned (.slice (some ⟨g, 0, none⟩) n n) ∧ w.heap.size ≤ g ∧ IOwn w' w.heap.size (.slice (some ⟨g, 0, none⟩) n n) ds ∧ Below w.heap.size w w' := by
  have hH := Lib.hid h
  have hL := Lib.hid h.1
  clear h
  obtain ⟨i0, hi0, hz0, hz1', hz2'⟩ := info_parts info_int
  have hmk : ∀ wx : World, (Instr.makeSlice 28 (.int .i64 (n : Int)) (.int .i64 (n : Int))).run Try.prog wx = .ok (.slice (some ⟨wx.heap.size, 0, none⟩) n n) (wx.alloc (.cells (madeCells (Value.int .i64 0).cells (n * 1)) 3)) := by
    intro wx
    have hr := run_make (P := Try.prog) wx 28 3 i0 _ Try.underlying28 hi0 hz0 .i64 .i64 (n : Int) (n : Int) (by omega) (by omega) (by rw [hz2']; omega) (by omega)
    rw [hz1'] at hr
    simp only [Int.toNat_natCast] at hr
    exact hr
  go_enter Try.func52, Try.ntmps52
  go_wp2
  have hhas0 := Has.new w 3 (madeCells #[.int .i64 0] n)
  have hfill0 : IFill (madeCells #[.int .i64 0] n) ds n 0 := ⟨size_madeCells _ _, fun i s hi => absurd hi (by omega)⟩
  have hb0 : Below w.heap.size w (w.alloc (.cells (madeCells #[.int .i64 0] n) 3)) := (Below.refl _ _).alloc (Nat.le_refl _) _
  have hF0 := Lib.hid hfill0
  have hH0 := Lib.hid hhas0
  clear hfill0 hhas0 hmk
  generalize hw0 : w.alloc (.cells (madeCells #[.int .i64 0] n) 3) = w0 at hb0 hH0 ⊢
  clear hw0
  go_loopw [4] (fun i wr => ∃ (k : Nat) (cs : Array Value), k ≤ n ∧ i = .int .i64 k ∧ Has wr w.heap.size 3 cs ∧ IFill cs ds n k ∧ Below w.heap.size w wr) (fun i _ => n - (intOf i).toNat)
  case atStart => exact ⟨0, _, Nat.zero_le _, rfl, hH0.out, hF0.out, hb0⟩
  case round =>
    obtain ⟨k, cs, hk, rfl, hhas, hfill, hb⟩ := hrel
    have hHas := Lib.hid hhas
    have hFill := Lib.hid hfill
    have hzz := hhas.lt
    clear hfill
    by_cases hlt : k < n
    · obtain ⟨g, off, d, rfl, hg, hs, c0⟩ := (hH.out.below hb).at_ hlt
      obtain ⟨u0, e0⟩ : ∃ u, wr.cell? ⟨w.heap.size, k, none⟩ = some u := ⟨_, (hhas.cell k).trans (Array.getElem?_eq_getElem (by rw [hFill.out.1]; exact hlt))⟩
      have f0 := hhas.frozen k
      have hS := Lib.hid hs
      have hN := Lib.hid (hhas.put k (.int .i64 d))
      clear hs hhas
      go_wp2
      go_roundw
      case rel => exact ⟨k + 1, _, by omega, by go_num, hN.out, hFill.out.step hS.out hlt, hb.setCell (by simp) _⟩
      case measure => (simp [intOf]; try omega)
    · obtain rfl : n = k := by omega
      have hD := Lib.hid (hFill.out.done hL.out)
      clear hhas
      go_wp2
      go_ret
      exact ⟨_, rfl, Nat.le_refl _, IOwn.of_has hHas.out hD.out hL.out (Nat.le_refl _) (by unfold maxLen; omega), hb⟩

theorem ils_ne {ds es : List Int} {k : Nat} {a b : Int} (h1 : ds[k]? = some a) (h2 : es[k]? = some b) (h : a ≠ b) : decide (ds = es) = false := by
  apply decide_eq_false
  rintro rfl
  exact h (Option.some.inj (h1.symm.trans h2))
theorem take_next {ds es : List Int} {k : Nat} {a : Int} (h : ds.take k = es.take k) (h1 : ds[k]? = some a) (h2 : es[k]? = some a) : ds.take (k + 1) = es.take (k + 1) := by
  have l1 := (List.getElem?_eq_some_iff.1 h1).1
  have l2 := (List.getElem?_eq_some_iff.1 h2).1
  rw [List.take_succ_eq_append_getElem l1, List.take_succ_eq_append_getElem l2, h, (List.getElem?_eq_some_iff.1 h1).2, (List.getElem?_eq_some_iff.1 h2).2]

theorem eqIntS_any (A A2 : Option Addr) (n n2 c c2 : Nat) (ds es : List Int) (w : World) (h : Ils w w.heap.size A n ds) (h2 : Ils w w.heap.size A2 n2 es) (hn : n ≤ maxLen) (hn2 : n2 ≤ maxLen) :
    Calls Try.prog 47 #[.slice A n c, .slice A2 n2 c2] w fun e w' => e = .returned (.bool (decide (ds = es))) ∧ ∃ k, w' = w.drewN k := by
  unfold maxLen at hn hn2
  have hH := Lib.hid h
  have hH2 := Lib.hid h2
  have hL := Lib.hid h.1
  have hL2 := Lib.hid h2.1
  clear h h2
  by_cases hnn : n = n2
  · subst hnn
    go_enter Try.func47, Try.ntmps47
    go_wp2
    go_loopw [5] (fun i wr => ∃ k : Nat, k ≤ n ∧ i = .int .i64 k ∧ ds.take k = es.take k ∧ ∃ q, wr = w.drewN q) (fun i _ => n - (intOf i).toNat)
    case atStart => exact ⟨0, Nat.zero_le _, rfl, by simp, 0, rfl⟩
    case round =>
      obtain ⟨k, hk, rfl, heq, q, rfl⟩ := hrel
      have hE := Lib.hid heq
      clear heq
      by_cases hlt : k < n
      · obtain ⟨g, off, a, rfl, hg, hs, c0⟩ := hH.out.at_ hlt
        obtain ⟨g2, off2, b, rfl, hg2, hs2, d0⟩ := hH2.out.at_ hlt
        have hk0 : (0 : Int) ≤ (k : Int) := Int.natCast_nonneg _
        have hk1 : (k : Int) < (n : Int) := by omega
        by_cases hab : a = b
        · subst hab
          have hR := Lib.hid (take_next hE.out hs hs2)
          clear hs hs2
          go_wp2
          go_quiet (fail)
          go_wp2
          exact ⟨⟨k + 1, by omega, by go_num, hR.out, _, rfl⟩, by simp [intOf]; omega⟩
        · have hR := Lib.hid (ils_ne hs hs2 hab)
          have hab' : (a != b) = true := by simpa using hab
          clear hs hs2 hab
          go_wp2
          go_quiet (fail)
          go_wp2
          go_ret
          exact ⟨ret_bool hR.out, _, by rw [World.drewN_drewN]⟩
      · obtain rfl : n = k := by omega
        have hR := Lib.hid (show decide (ds = es) = true by
          have := hE.out
          rw [List.take_of_length_le (by rw [hL.out]; omega), List.take_of_length_le (by rw [hL2.out]; omega)] at this
          exact decide_eq_true this)
        go_wp2
        go_ret
        exact ⟨ret_bool hR.out, q, rfl⟩
  · have hR := Lib.hid (show decide (ds = es) = false from decide_eq_false (by rintro rfl; exact hnn (hL.out.symm.trans hL2.out)))
    have hnn' : ((n : Int) != (n2 : Int)) = true := by simp; omega
    clear hnn
    go_enter Try.func47, Try.ntmps47
    go_wp2
    go_ret
    exact ⟨ret_bool hR.out, 0, rfl⟩

end Go.Proofs.Ytjokiminlplbcaa
