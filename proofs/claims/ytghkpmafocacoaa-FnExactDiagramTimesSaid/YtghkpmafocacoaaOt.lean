/- Diagrams: the model's l11Put. -/
import Derived.Test.YtghkpmafocacoaaOe
namespace Go.Proofs.Ytghkpmafocacoaa
set_option maxRecDepth 100000
set_option linter.unusedVariables false
open Go.RowKit

theorem idx_first {ds : List Ce} {c : Ce} {k : Nat} (hk : k < ds.length) (h : gt ds k = c) (hb : ∀ j, j < k → gt ds j ≠ c) : cput ds c = (ds, k) := by
  have hg := gt_some hk
  rw [h] at hg
  have hm : c ∈ ds := List.mem_of_getElem? hg
  have hi : ds.idxOf c < ds.length := List.idxOf_lt_length_iff.2 hm
  have e1 : ds[ds.idxOf c] = c := List.getElem_idxOf hi
  have h1 : ¬ ds.idxOf c < k := fun q => hb _ q (gt_get (by rw [List.getElem?_eq_getElem hi, e1]))
  have h2 : ¬ k < ds.idxOf c := fun q => by
    have := List.not_of_lt_findIdx (p := (· == c)) (xs := ds) (i := k) q
    simp at this
    exact this (List.getElem?_eq_some_iff.1 hg).2
  unfold cput
  rw [if_pos hm, show ds.idxOf c = k by omega]
theorem idx_none {ds : List Ce} {c : Ce} (hb : ∀ j, j < ds.length → gt ds j ≠ c) : cput ds c = (ds ++ [c], ds.length) := by
  have hm : c ∉ ds := fun hm => by
    obtain ⟨i, hi, e⟩ := List.getElem_of_mem hm
    exact hb i hi (gt_get (by rw [List.getElem?_eq_getElem hi, e]))
  unfold cput
  rw [if_neg hm, List.idxOf_eq_length hm]
/-- Only the block of a list has turned, which goes to a new one at most. -/
structure Wk (w w' : World) (v v' : Value) : Prop where
  but : KeptBut w w' (fun k => v.ownBlock = some k)
  new : ∀ k, v'.ownBlock = some k → v.ownBlock = some k ∨ w.heap.size ≤ k
theorem Wk.refl (w : World) (v : Value) : Wk w w v v := ⟨KeptBut.refl _ _, fun k h => .inl h⟩
theorem Wk.trans {a b c : World} {u v x : Value} (h : Wk a b u v) (k : Wk b c v x) : Wk a c u x := by
  refine ⟨h.but.trans k.but fun i hi e => ?_, fun i e => ?_⟩
  · rcases h.new i e with e | e
    · exact e
    · omega
  · rcases k.new i e with e | e
    · exact h.new i e
    · exact .inr (Nat.le_trans h.but.size e)
theorem Wk.of_below {w w' : World} (h : Below w.heap.size w w') (v : Value) : Wk w w' v v := ⟨KeptBut.of_below h _, fun k e => .inl e⟩
/-- How a call of the model that puts cells behind others ends. -/
def Mpd (w : World) (B : Nat) (v : Value) (R : List Ce × Nat) (e : Ending) (w' : World) : Prop :=
  ∃ v', e = .returned (.tuple #[v', .int .i64 (R.2 : Nat)]) ∧ COwn w' B v' R.1 ∧ Wk w w' v v'
set_option maxHeartbeats 2000000 in
theorem l11Put_any (B : Nat) (v : Value) (ds : List Ce) (c : Ce) (w : World) (h : COwn w B v ds) (hBw : B ≤ w.heap.size) (hl : ds.length ≤ 250) :
    Calls Try.prog 128 #[v, .agg #[.int .i64 c.v, .int .i64 c.n, .int .i64 c.a, .int .i64 c.b, .int .i64 c.c]] w (Mpd w B v (cput ds c)) := by
  have eqC := eqCe
  obtain ⟨i0, hi0, hz0, hz1', hz2'⟩ := info_parts info_cell
  have hb0 : Below w.heap.size w (w.alloc (.cells #[.int .i64 c.v, .int .i64 c.n, .int .i64 c.a, .int .i64 c.b, .int .i64 c.c] 47)) := (Below.refl _ _).alloc (Nat.le_refl _) _
  have hW := Lib.hid (Has.new w 47 #[.int .i64 c.v, .int .i64 c.n, .int .i64 c.a, .int .i64 c.b, .int .i64 c.c])
  have hO0 := Lib.hid (h.below hb0)
  have hB := Lib.hid hb0
  have hF0 := Lib.hid (Wk.of_below hb0 v)
  obtain ⟨A, cp, hv, hcp1, hcp2⟩ := h.form
  subst hv
  clear h hb0
  go_enter Try.func128, Try.ntmps128
  go_wp2_with fail
  generalize w.alloc (.cells #[.int .i64 c.v, .int .i64 c.n, .int .i64 c.a, .int .i64 c.b, .int .i64 c.c] 47) = W0 at hW hO0 hB hF0 ⊢
  have hz0' : w.heap.size ≤ W0.heap.size := hB.out.size
  generalize hq : w.heap.size = q at hW hz0' ⊢
  have hqh := Lib.hid hq
  clear hq
  go_loopw [6] (fun i wr => ∃ k m : Nat, k ≤ ds.length ∧ i = .int .i64 k ∧ (∀ j, j < k → gt ds j ≠ c) ∧ wr = W0.drewN m) (fun i _ => ds.length - (intOf i).toNat)
  case atStart => exact ⟨0, 0, Nat.zero_le _, rfl, fun j hj => absurd hj (Nat.not_lt_zero _), rfl⟩
  case round =>
    obtain ⟨k, m, hk, rfl, hp, hw⟩ := hrel
    have hPh := Lib.hid hp
    have hbr : Below W0.heap.size W0 wr := by rw [hw]; exact below_drewN (Below.refl _ _) _
    have hWr := Lib.hid hw
    clear hp hw
    have hOr := Lib.hid (hO0.out.below hbr)
    have hCr := Lib.hid (hW.out.kept hbr)
    have hFr := Lib.hid (hF0.out.trans (Wk.of_below hbr _))
    have hzr := hbr.size
    clear hbr
    have hxc := hCr.out.cell
    by_cases hlt : k < ds.length
    · obtain ⟨g, off, rfl, hg, hat⟩ := (COwn.lst hOr.out).gt_ hlt
      obtain ⟨f0, f1, f2, f3, f4⟩ := hat.open_
      have hk0 : (0 : Int) ≤ (k : Int) := by omega
      have hk1 : (k : Int) < (ds.length : Int) := by omega
      have hput := Lib.hid (fun e => idx_first hlt e hPh.out)
      generalize hgt : gt ds k = t at *
      have hgth := Lib.hid hgt
      clear hat hgt
      cases hcc : ceq t c
      · have hN := Lib.hid (show ∀ j, j < k + 1 → gt ds j ≠ c from fun j hj => by
          by_cases e : j = k
          · rw [e, hgth.out]; exact ceq_not hcc
          · exact hPh.out j (by omega))
        clear hput
        go_wp2_with fail
        go_quiet (fail)
        go_wp2_with fail
        exact ⟨⟨k + 1, m + nq, by omega, by go_num, hN.out, by rw [hWr.out, World.drewN_drewN]⟩, by simp [intOf]; omega⟩
      · have hR := Lib.hid (hput.out (ceq_iff.1 hcc))
        clear hput
        go_wp2_with fail
        go_quiet (fail)
        go_wp2_with fail
        go_ret2
        rw [hR.out]
        exact ⟨_, rfl, hOr.out.below (below_drewN (Below.refl _ _) _), hFr.out.trans (Wk.of_below (below_drewN (Below.refl _ _) _) _)⟩
    · obtain rfl : k = ds.length := by omega
      have hR := Lib.hid (idx_none hPh.out)
      have hnq := Lib.hid (show ∀ j u, c.cells[j]? = some u → (wr.alloc (.cells #[.int .i64 c.v, .int .i64 c.n, .int .i64 c.a, .int .i64 c.b, .int .i64 c.c] 47)).cell? ((⟨wr.heap.size, 0, none⟩ : Addr).add j) = some u from World.news_of_block (Has.new wr 47 #[.int .i64 c.v, .int .i64 c.n, .int .i64 c.a, .int .i64 c.b, .int .i64 c.c]))
      have hOa := Lib.hid (World.ownsRow.alloc (show wr.ownsRow B 47 5 (.slice A ds.length cp) ds.length (cflat ds) from hOr.out) (.cells #[.int .i64 c.v, .int .i64 c.n, .int .i64 c.a, .int .i64 c.b, .int .i64 c.c] 47))
      have hqq : B ≤ wr.heap.size := by have := hqh.out; omega
      go_wp2_with (at_builtin; refine wpList_append_lies _ rfl (.tmp 21) (.tmp 23) 25 rfl B 47 i0 _ 5 40 Try.underlying25 hi0 hz0 hz1' hz2' rfl (by decide) (.slice A ds.length cp) ds.length (cflat ds) rfl (by exact hOa.out) ⟨wr.heap.size, 0, none⟩ 1 1 c.cells rfl rfl (by exact hnq.out) (by simp [Ce.cells, Value.oneCell']) (by omega) (by unfold maxLen; omega) (by omega) (by simp; omega) (wr.heap.size + 1) (by simp) ?_; intro gq cq w8 hown8 hgrow8 hat8 hlt8)
      have hK8 : KeptBut wr w8 (fun i => (Value.slice A ds.length cp).ownBlock = some i) := KeptBut.trans (KeptBut.alloc (KeptBut.refl wr (fun i => (Value.slice A ds.length cp).ownBlock = some i)) (.cells #[.int .i64 c.v, .int .i64 c.n, .int .i64 c.a, .int .i64 c.b, .int .i64 c.c] 47)) ⟨hgrow8.os, hgrow8.tape, hgrow8.output, hgrow8.size, fun i hi hn => hgrow8.block i hi (fun e => hn e.symm)⟩ (fun _ _ e => e)
      have hO9 := Lib.hid (show COwn w8 B (.slice (some ⟨gq, 0, none⟩) (ds.length + 1) cq) (ds ++ [c]) from by
        unfold COwn
        rw [List.length_append, List.length_singleton, cflat_append]
        simpa [cflat] using hown8)
      have hF9 := Lib.hid (hFr.out.trans (show Wk wr w8 (.slice A ds.length cp) (.slice (some ⟨gq, 0, none⟩) (ds.length + 1) cq) from ⟨hK8, fun k e => by
        obtain rfl : gq = k := by injection e with e
        rcases hat8 with e | e
        · exact .inl e
        · exact .inr (by omega)⟩))
      clear hown8 hgrow8 hat8 hK8 hlt8
      go_wp2_with fail
      go_ret2
      rw [hR.out]
      exact ⟨_, rfl, hO9.out, hF9.out⟩
end Go.Proofs.Ytghkpmafocacoaa
