/- The laws' marks in lists of lists of numbers, read again. -/
import Derived.Test.YtjokiminlplbcaaRwk
namespace Go.Proofs.Ytjokiminlplbcaa
set_option maxRecDepth 100000
set_option linter.unusedVariables false
open Go.RowKit

/-- How many numbers stand ahead of row i. -/
def offs (rs : List (List Int)) (i : Nat) : Nat := ((rs.take i).map List.length).sum
theorem offs_zero (rs : List (List Int)) : offs rs 0 = 0 := by simp [offs]
theorem offs_succ {rs : List (List Int)} {i : Nat} {ds : List Int} (h : rs[i]? = some ds) : offs rs (i + 1) = offs rs i + ds.length := by
  unfold offs
  have l1 := (List.getElem?_eq_some_iff.1 h).1
  rw [List.take_succ_eq_append_getElem l1, List.map_append, List.sum_append, (List.getElem?_eq_some_iff.1 h).2]
  simp
theorem offs_le {rs : List (List Int)} {b : Nat} (h : ∀ ds ∈ rs, ds.length ≤ b) : ∀ i, offs rs i ≤ i * b
  | 0 => by simp [offs_zero]
  | i + 1 => by
    have ih := offs_le h i
    cases hi : rs[i]? with
    | none =>
      have : rs.take (i + 1) = rs.take i := by
        have hl := List.getElem?_eq_none_iff.1 hi
        rw [List.take_of_length_le hl, List.take_of_length_le (by omega)]
      unfold offs at ih ⊢
      rw [this, Nat.succ_mul]
      omega
    | some ds =>
      have := h ds (List.mem_of_getElem? hi)
      rw [offs_succ hi, Nat.succ_mul]
      omega

/-- The rows' memory is numbered through. -/
def Mkd (w : World) (base : Nat) (A : Option Addr) (n c : Nat) (rs : List (List Int)) (vs : List Value) (m : Int) : Prop :=
  w.ownsRow base 28 1 (.slice A n c) n vs ∧ ∀ (i : Nat) (ds : List Int), rs[i]? = some ds → ∃ Ax cx, vs[i]? = some (.slice Ax ds.length cx) ∧ Ils w w.heap.size Ax ds.length (nums (m + offs rs i) ds.length)

theorem Mkd.cell {w : World} {base : Nat} {A : Option Addr} {n c k : Nat} {rs : List (List Int)} {vs : List Value} {m : Int} (h : Mkd w base A n c rs vs m) (hL : rs.length = n) (hk : k < n) :
    ∃ (g : Nat) (Ax : Option Addr) (cx : Nat) (ds : List Int), A = some ⟨g, 0, none⟩ ∧ rs[k]? = some ds ∧ w.cell? ⟨g, k, none⟩ = some (.slice Ax ds.length cx) ∧ Ils w w.heap.size Ax ds.length (nums (m + offs rs k) ds.length) := by
  obtain ⟨ds, hds⟩ : ∃ ds, rs[k]? = some ds := ⟨_, List.getElem?_eq_getElem (by omega)⟩
  obtain ⟨Ax, cx, hx, hi⟩ := h.2 k ds hds
  rcases h.1.2 with ⟨hv, hn0⟩ | ⟨g, cap, cur, hv, _⟩
  · omega
  · injection hv with e1 _ _
    subst e1
    refine ⟨g, Ax, cx, ds, rfl, hds, ?_, hi⟩
    rw [← World.ownsRow.cells h.1 (g := g) rfl k _ hx]
    congr 1
    unfold Addr.add
    split
    · (rename_i h0; simp at h0 ⊢; try omega)
    · (simp; try omega)

theorem heldIntSS_any (A : Option Addr) (n c base : Nat) (rs : List (List Int)) (vs : List Value) (m : Int) (w : World) (h : Mkd w base A n c rs vs m) (hL : rs.length = n) (hm : 0 ≤ m) (hm2 : m ≤ 1000) (hn : n ≤ 1000000) (hr : ∀ ds ∈ rs, ds.length ≤ 1000) :
    Calls Try.prog 46 #[.slice A n c, .int .i64 m] w fun e w' => e = .returned (.int .i64 (m + offs rs n)) ∧ w = w' := by
  have hH := Lib.hid h
  have hrr := Lib.hid hr
  have hof := Lib.hid (offs_le hr)
  clear h hr
  go_enter Try.func46, Try.ntmps46
  go_wp2
  go_loop [1, 5] (fun q i => ∃ k : Nat, k ≤ n ∧ i = .int .i64 k ∧ q = .int .i64 (m + offs rs k)) (fun _ i => n - (intOf i).toNat)
  case atStart => exact ⟨0, Nat.zero_le _, rfl, by simp [offs_zero]⟩
  case round =>
    obtain ⟨k, hk, rfl, rfl⟩ := hrel
    by_cases hlt : k < n
    · obtain ⟨g, Ax, cx, ds, rfl, hds, c0, hi⟩ := hH.out.cell hL hlt
      have hdl := hrr.out ds (List.mem_of_getElem? hds)
      have hok := hof.out k
      have hos := Lib.hid (offs_succ hds)
      have hk2 : k * 1000 ≤ 1000000000 := by omega
      clear hds
      have hHd := Lib.hid (heldIntS_any Ax ds.length cx (m + offs rs k) w hi (by omega) (by omega) (by omega))
      clear hi
      go_wp2_with (go_at_call 49; refine (hHd.out).mono ?_; rintro e w' ⟨rfl, rfl⟩)
      go_round
      case rel => exact ⟨k + 1, by omega, by go_num, congrArg (Value.int .i64) (by rw [hos.out]; omega)⟩
      case measure => (simp [intOf]; try omega)
    · obtain rfl : n = k := by omega
      go_wp2
      go_ret
      exact ⟨rfl, rfl⟩

theorem ils_but {w w' : World} {A : Option Addr} {n : Nat} {ds : List Int} {S : Nat → Prop} (h : Ils w w.heap.size A n ds) (hk : KeptBut w w' S) (hn : ∀ g, A.map (·.block) = some g → ¬ S g) : Ils w' w'.heap.size A n ds :=
  ⟨h.1, fun h0 => by
    obtain ⟨g, off, hA, hg, hc⟩ := h.2 h0
    refine ⟨g, off, hA, Nat.lt_of_lt_of_le hg hk.size, fun k d hd => ?_⟩
    rw [← hc k d hd]
    exact World.cell?_of_block (hk.block g hg (hn g (by rw [hA]; rfl)))⟩
theorem iown_wr' {w : World} {base : Nat} {A : Option Addr} {n c : Nat} {os : List Int} (h : IOwn w base (.slice A n c) os) : IWr w A n := by
  intro hn
  rcases h.2 with ⟨hv, h0⟩ | ⟨g, cap, cur, hv, hg, hh, h1, h2, h3, h4⟩
  · injection hv with _ e2 _
    omega
  · injection hv with e1 e2 _
    exact ⟨g, cur, e1, hh, by omega⟩
theorem own_map {A : Option Addr} {n c : Nat} : (Value.slice A n c).ownBlock = A.map (·.block) := by
  cases A <;> rfl

/-- The blocks of the rows ahead of row k. -/
def RowB (vs : List Value) (k : Nat) (b : Nat) : Prop := ∃ (i : Nat) (x : Value), i < k ∧ vs[i]? = some x ∧ x.ownBlock = some b

set_option maxHeartbeats 1000000 in
theorem markIntSS_any (A : Option Addr) (n c base : Nat) (rs : List (List Int)) (vs : List Value) (m : Int) (w : World) (h : RowsV w base (.slice A n c) rs vs) (ha : Apart vs) (hL : rs.length = n) (hm : 0 ≤ m) (hm2 : m ≤ 1000) (hn : n ≤ 1000000) (hr : ∀ ds ∈ rs, ds.length ≤ 1000) :
    Calls Try.prog 45 #[.slice A n c, .int .i64 m] w fun e w' => e = .returned (.int .i64 (m + offs rs n)) ∧ Mkd w' base A n c rs vs m ∧ KeptBut w w' (RowB vs n) := by
  have hH := Lib.hid h
  have hap := Lib.hid ha
  have hrr := Lib.hid hr
  have hof := Lib.hid (offs_le hr)
  have hvl := h.length
  have houter := Lib.hid (show ∀ (wr : World) (k : Nat), KeptBut w wr (RowB vs k) → wr.ownsRow base 28 1 (.slice A n c) n vs from fun wr k hk => by
    have := owns_but h.1 hk (fun b hb ⟨i, x, _, hx, hxb⟩ => by
      obtain ⟨ds, _, ho⟩ := h.2 i x hx
      obtain ⟨c1, h1⟩ := owns_has ho hxb
      obtain ⟨c2, h2⟩ := owns_has h.1 hb
      exact has_ne h1 h2 int_ne rfl)
    rwa [hL] at this)
  clear h ha hr
  go_enter Try.func45, Try.ntmps45
  go_wp2
  go_loopw [1, 5] (fun q i wr => ∃ k : Nat, k ≤ n ∧ i = .int .i64 k ∧ q = .int .i64 (m + offs rs k) ∧ KeptBut w wr (RowB vs k) ∧ ∀ (j : Nat) (ds : List Int), j < k → rs[j]? = some ds → ∃ Ax cx, vs[j]? = some (.slice Ax ds.length cx) ∧ Ils wr wr.heap.size Ax ds.length (nums (m + offs rs j) ds.length)) (fun _ i _ => n - (intOf i).toNat)
  case atStart => exact ⟨0, Nat.zero_le _, rfl, by simp [offs_zero], KeptBut.refl _ _, fun j ds hj => absurd hj (by omega)⟩
  case round =>
    obtain ⟨k, hk, rfl, rfl, hK, hMk⟩ := hrel
    have hKh := Lib.hid hK
    have hMh := Lib.hid hMk
    have hO := houter.out wr k hK
    clear hMk
    by_cases hlt : k < n
    · obtain ⟨g, Ax, cx, ds, hA, hvx, _, hds, hxo⟩ := hH.out.at_ hL hlt
      subst hA
      have hc0 : wr.cell? ⟨g, k, none⟩ = some (.slice Ax ds.length cx) := by
        rw [← World.ownsRow.cells hO (g := g) rfl k _ hvx]
        congr 1
        unfold Addr.add
        split
        · (rename_i h0; simp at h0 ⊢; try omega)
        · (simp; try omega)
      have hxr := hxo.but hK (fun b hb ⟨i, y, hi, hy, hyb⟩ => hap.out i k y _ hi hy hvx b hyb hb)
      have hdl := hrr.out ds (List.mem_of_getElem? hds)
      have hok := hof.out k
      have hos := Lib.hid (offs_succ hds)
      have hk2 : k * 1000 ≤ 1000000000 := by omega
      have hMa := Lib.hid (markIntS_any Ax ds.length cx (m + offs rs k) wr (iown_wr' hxr) (by omega) (by omega) (by omega))
      have hV := Lib.hid hvx
      have hDs := Lib.hid hds
      clear hxr hxo hK hds hO hvx
      go_wp2_with fail
      refine (hMa.out).mono ?_
      rintro e w5 ⟨rfl, ho5, hi5⟩
      have hK5 : KeptBut wr w5 (fun b => Ax.map (·.block) = some b) := KeptBut.of_grown ho5 (fun k e => e)
      have hrel5 := Lib.hid (show KeptBut w w5 (RowB vs (k + 1)) ∧ ∀ (j : Nat) (es : List Int), j < k + 1 → rs[j]? = some es → ∃ Ay cy, vs[j]? = some (.slice Ay es.length cy) ∧ Ils w5 w5.heap.size Ay es.length (nums (m + offs rs j) es.length) from by
        refine ⟨KeptBut.trans (hKh.out.mono (fun b _ ⟨i, x, hi, hx⟩ => ⟨i, x, by omega, hx⟩)) hK5 (fun b _ hb => ⟨k, _, Nat.lt_succ_self _, hV.out, by rw [own_map]; exact hb⟩), fun j es hj hes => ?_⟩
        by_cases hjk : j = k
        · subst hjk
          obtain rfl : ds = es := Option.some.inj (hDs.out.symm.trans hes)
          exact ⟨Ax, cx, hV.out, hi5⟩
        · obtain ⟨Ay, cy, hy, hil⟩ := hMh.out j es (by omega) hes
          exact ⟨Ay, cy, hy, ils_but hil hK5 (fun b hb hb2 => hap.out j k _ _ (by omega) hy hV.out b (by rw [own_map]; exact hb) (by rw [own_map]; exact hb2))⟩)
      clear ho5 hi5 hK5
      go_wp2
      go_roundw
      case rel => exact ⟨k + 1, by omega, by go_num, congrArg (Value.int .i64) (by rw [hos.out]; omega), hrel5.out.1, hrel5.out.2⟩
      case measure => (simp [intOf]; try omega)
    · obtain rfl : n = k := by omega
      have hF := Lib.hid (show Mkd wr base A n c rs vs m from ⟨hO, fun i ds hds => hMh.out i ds (by have := (List.getElem?_eq_some_iff.1 hds).1; omega) hds⟩)
      clear hO hK
      go_wp2
      go_ret
      exact ⟨rfl, hF.out, hKh.out⟩
end Go.Proofs.Ytjokiminlplbcaa
