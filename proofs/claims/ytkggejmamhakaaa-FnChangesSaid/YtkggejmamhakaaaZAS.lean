/- Parts of the proof: Tx, Tk, Aa. -/
import Derived.Laws.BytesArg
import Derived.Maps.AppendAt
import Derived.Laws.Strings
import Derived.Test.YtkggejmamhakaaaZAJ
import Derived.Test.YtkggejmamhakaaaZAP
import Derived.Test.YtkggejmamhakaaaZAC
import Derived.Test.YtkggejmamhakaaaZAN
import Derived.Test.YtkggejmamhakaaaZAB
import Derived.Deep.RegionLaw
import Derived.Deep.RegionHeld3
import Derived.StillTailTactics
import Derived.IntWalk
namespace Go.Proofs.Ytkggejmamhakaaa
set_option maxRecDepth 100000
set_option linter.unusedVariables false
open Go.RowKit
/-- The first k values' bytes lie in a row of cells. -/
def BFill (cs : Array Value) (ds : List Int) (n k : Nat) : Prop := cs.size = n ∧ ∀ i d, i < k → ds[i]? = some d → cs[i]? = some (.int .u8 (48 + d))
theorem BFill.step {cs : Array Value} {ds : List Int} {n k : Nat} {d : Int} (h : BFill cs ds n k) (hd : ds[k]? = some d) (hk : k < n) : BFill (cs.setIfInBounds k (.int .u8 (48 + d))) ds n (k + 1) := by
  refine ⟨by simpa using h.1, fun i e hi he => ?_⟩
  by_cases hik : i = k
  · subst hik
    obtain rfl : d = e := Option.some.inj (hd.symm.trans he)
    have := h.1
    rw [Array.getElem?_setIfInBounds, if_pos rfl, if_pos (by omega)]
  · rw [Array.getElem?_setIfInBounds, if_neg (by omega)]
    exact h.2 i e (by omega) he
end Go.Proofs.Ytkggejmamhakaaa
namespace Go.Proofs.Ytkggejmamhakaaa
set_option maxRecDepth 100000
set_option linter.unusedVariables false
open Go.RowKit
end Go.Proofs.Ytkggejmamhakaaa
namespace Go.Proofs.Ytkggejmamhakaaa
set_option maxRecDepth 100000
set_option linter.unusedVariables false
end Go.Proofs.Ytkggejmamhakaaa

namespace Go.Proofs.Ytkggejmamhakaaa
set_option maxRecDepth 100000
set_option linter.unusedVariables false
open Go.RowKit
/-- What holds of a tracer's row, stack and run. -/
structure Inv (os : List St) (row : List Int) (stk : List Rn) (now : Rn) : Prop where
  len : row.length = stk.length
  fit : now.fit
  val : ∀ d ∈ row, 0 ≤ d ∧ d ≤ 2
  at_ : ∀ (j : Nat) (r : Rn), stk[j]? = some r → r.fit ∧ r.wt ≠ 0 ∧ j ≤ r.pos ∧ ∃ s, os[r.pos]? = some s ∧ s.draws = true ∧ s.ok = true
  pos : row.length ≤ now.pos
theorem Inv.start (os : List St) : Inv os [] [] ⟨0, 0, 1⟩ := ⟨rfl, Rn.fit_start, fun d h => by simp at h, fun j r h => by simp at h, Nat.zero_le _⟩
theorem step_pos (s : St) (r : Rn) (x : Int) : r.pos + 1 ≤ (Rn.step s r x).pos := by
  show r.pos + 1 ≤ r.pos + 1 + s.jump r.st
  omega
theorem Inv.own {os : List St} {row : List Int} {stk : List Rn} {now : Rn} {s : St} (h : Inv os row stk now) (hok : s.ok = true) : Inv os row stk (Rn.step s now 0) :=
  ⟨h.len, h.fit.step hok (by decide), h.val, h.at_, Nat.le_trans h.pos (by have := step_pos s now 0; omega)⟩
theorem Inv.draw {os : List St} {row : List Int} {stk : List Rn} {now : Rn} {s : St} (h : Inv os row stk now) (hs : os[now.pos]? = some s) (hok : s.ok = true) (hd : s.draws = true) (hw : now.wt ≠ 0) : Inv os (row ++ [0]) (stk ++ [now]) (Rn.step s now 0) := by
  refine ⟨by simp [h.len], h.fit.step hok (by decide), fun d hd' => ?_, fun j r hr => ?_, ?_⟩
  · rcases List.mem_append.1 hd' with hd' | hd'
    · exact h.val d hd'
    · rw [List.mem_singleton] at hd'
      subst hd'
      decide
  · by_cases hj : j < stk.length
    · rw [List.getElem?_append_left hj] at hr
      exact h.at_ j r hr
    · rw [List.getElem?_append_right (by omega)] at hr
      have hj0 : j - stk.length = 0 := by
        have := (List.getElem?_eq_some_iff.1 hr).1
        simp at this; omega
      rw [hj0] at hr
      have hr' : now = r := by simpa using hr
      subst hr'
      refine ⟨h.fit, hw, ?_, s, hs, hd, hok⟩
      have := h.pos
      have := h.len
      omega
  · have h1 := step_pos s now 0
    have h2 := h.pos
    rw [List.length_append, List.length_singleton]
    omega
theorem Inv.up {os : List St} {row : List Int} {stk : List Rn} {now r : Rn} {s : St} {j : Nat} {d : Int} (h : Inv os row stk now) (hd : row[j]? = some d) (hd1 : d ≤ 1) (hr : stk[j]? = some r) (hs : os[r.pos]? = some s) :
    Inv os (row.take j ++ [d + 1]) (stk.take (j + 1)) (Rn.step s r (d + 1)) := by
  have hl := (List.getElem?_eq_some_iff.1 hd).1
  have hl2 := (List.getElem?_eq_some_iff.1 hr).1
  obtain ⟨hf, hw, hp, s', hs', hdr, hok⟩ := h.at_ j r hr
  obtain rfl : s' = s := Option.some.inj (hs'.symm.trans hs)
  have hdv := h.val d (List.mem_of_getElem? hd)
  refine ⟨by simp; omega, hf.step hok (by omega), fun x hx => ?_, fun i q hq => ?_, ?_⟩
  · rcases List.mem_append.1 hx with hx | hx
    · exact h.val x (List.mem_of_mem_take hx)
    · rw [List.mem_singleton] at hx
      subst hx
      omega
  · rw [List.getElem?_take] at hq
    split at hq
    · exact h.at_ i q hq
    · cases hq
  · have h1 := step_pos s' r (d + 1)
    rw [List.length_append, List.length_singleton, List.length_take]
    omega
/-- The cells of runs, one behind the other. -/
def Rn.cells (r : Rn) : List Value := [.int .i64 r.pos, .int .i64 r.st, .int .i64 r.wt]
def rnflat (rs : List Rn) : List Value := rs.flatMap Rn.cells
theorem rnflat_append (a b : List Rn) : rnflat (a ++ b) = rnflat a ++ rnflat b := List.flatMap_append
/-- The blocks that a tracer may turn. -/
def TrB (g : Nat) (vr vs : Value) (i : Nat) : Prop := i = g ∨ vr.ownBlock = some i ∨ vs.ownBlock = some i
/-- How a step of a tracer leaves memory. -/
def Trd (w w' : World) (g : Nat) (vr vs vr' vs' : Value) : Prop :=
  KeptBut w w' (TrB g vr vs) ∧ (∀ k, vr'.ownBlock = some k → vr.ownBlock = some k ∨ w.heap.size ≤ k) ∧ (∀ k, vs'.ownBlock = some k → vs.ownBlock = some k ∨ w.heap.size ≤ k)
theorem Trd.trans {a b c : World} {g : Nat} {vr vs vr' vs' vr2 vs2 : Value} (h : Trd a b g vr vs vr' vs') (k : Trd b c g vr' vs' vr2 vs2) : Trd a c g vr vs vr2 vs2 := by
  have hz := h.1.size
  refine ⟨KeptBut.trans h.1 k.1 (fun i hi e => ?_), fun i hi => ?_, fun i hi => ?_⟩
  · rcases e with e | e | e
    · exact .inl e
    · rcases h.2.1 i e with e' | e'
      · exact .inr (.inl e')
      · omega
    · rcases h.2.2 i e with e' | e'
      · exact .inr (.inr e')
      · omega
  · rcases k.2.1 i hi with e | e
    · exact h.2.1 i e
    · exact .inr (by omega)
  · rcases k.2.2 i hi with e | e
    · exact h.2.2 i e
    · exact .inr (by omega)
end Go.Proofs.Ytkggejmamhakaaa
namespace Go.Proofs.Ytkggejmamhakaaa
set_option maxRecDepth 100000
set_option linter.unusedVariables false
open Go.RowKit
theorem tty_c : (3 : TypeId) ≠ 78 := by decide
theorem Trd.below {w0 w w' : World} {g : Nat} {vr0 vs0 vr vs : Value} (h : Trd w0 w g vr0 vs0 vr vs) (hb : Below w.heap.size w w') : Trd w0 w' g vr0 vs0 vr vs :=
  ⟨KeptBut.trans h.1 (KeptBut.of_below hb (fun _ => False)) (fun _ _ e => e.elim), h.2.1, h.2.2⟩
theorem Trd.put {w0 w : World} {g : Nat} {vr0 vs0 vr vs : Value} (h : Trd w0 w g vr0 vs0 vr vs) (i : Nat) (u : Value) : Trd w0 (w.setCell ⟨g, i, none⟩ u) g vr0 vs0 vr vs :=
  ⟨h.1.put (fun _ => .inl rfl) u, h.2.1, h.2.2⟩
theorem new_run (w : World) (r : Rn) : ∀ j u, r.cells[j]? = some u → (w.alloc (.cells #[.int .i64 r.pos, .int .i64 r.st, .int .i64 r.wt] 78)).cell? ((⟨w.heap.size, 0, none⟩ : Addr).add j) = some u := by
  intro j u hu
  have hc := (Has.new w 78 #[.int .i64 r.pos, .int .i64 r.st, .int .i64 r.wt]).cell j
  have e : ((⟨w.heap.size, 0, none⟩ : Addr).add j) = ⟨w.heap.size, j, none⟩ := by
    unfold Addr.add
    split
    · (rename_i h0; simp at h0 ⊢; try omega)
    · (simp; try omega)
  rw [e, hc]
  simpa [Rn.cells] using hu
theorem info_run : (Try.prog.info? 78).map (fun i => (i.zero, i.size, i.bytes)) = some (some (.agg #[.int .i64 0, .int .i64 0, .int .i64 0]), 3, 24) := by kernel_rfl
theorem grown_but_d {w w' : World} {o : Obj} {row : Option Nat} (h : (w.alloc o).drew.grownBy w' row) : KeptBut w w' (fun i => row = some i) :=
  KeptBut.trans (KeptBut.alloc (KeptBut.refl w (fun i => row = some i)) o) ⟨h.os, h.tape, h.output, h.size, fun i hi hn => h.block i hi (fun e => hn e.symm)⟩ (fun _ _ e => e)
theorem owns_open {w : World} {base size n c : Nat} {e : TypeId} {A : Option Addr} {xs : List Value} (h : w.ownsRow base e size (.slice A n c) n xs) (hn : 0 < n) :
    ∃ b cur, A = some ⟨b, 0, none⟩ ∧ base ≤ b ∧ Has w b e cur ∧ n ≤ c ∧ c ≤ maxLen ∧ n * size ≤ cur.size ∧ ∀ i, i < n * size → w.cell? ⟨b, i, none⟩ = xs[i]? := by
  rcases h.2 with ⟨hv, h0⟩ | ⟨b, cap, cur, hv, hg, hh, h1, h2, h3, h4⟩
  · omega
  · injection hv with e1 _ e3
    subst e1 e3
    have hcs : n * size ≤ cur.size := by rw [h3]; exact Nat.mul_le_mul_right _ h1
    refine ⟨b, cur, rfl, hg, hh, h1, h2, hcs, fun i hi => ?_⟩
    rw [cell_of_row w b i cur e (0, 0) hh, ← h4, List.getElem?_take, if_pos hi]
    simp
theorem owns_set {w : World} {base n c b j : Nat} {ds : List Int} {x : Int} (h : w.ownsRow base 3 1 (.slice (some ⟨b, 0, none⟩) n c) n (ints ds)) (hj : j < n) : (w.setCell ⟨b, j, none⟩ (.int .i64 x)).ownsRow base 3 1 (.slice (some ⟨b, 0, none⟩) n c) n (ints (ds.set j x)) := by
  have hl : ds.length = n := by have := h.1; rw [ints_length] at this; omega
  refine ⟨by rw [ints_length, List.length_set]; omega, ?_⟩
  rcases h.2 with ⟨hv, h0'⟩ | ⟨b', cap, cur, hv, hg, hh, h1, h2, h3, h4⟩
  · omega
  · injection hv with e1 _ e3
    injection e1 with e1
    injection e1 with e1 _ _
    subst e1 e3
    refine .inr ⟨b, c, cur.setIfInBounds j (.int .i64 x), rfl, hg, Has.put (t := 3) hh j _, h1, h2, by simpa using h3, ?_⟩
    rw [Array.toList_setIfInBounds, List.take_set, h4]
    unfold ints
    rw [List.map_set]
theorem take_set (ds : List Int) (j : Nat) (x : Int) (hj : j < ds.length) : (ds.take (j + 1)).set j x = ds.take j ++ [x] := by
  rw [List.take_succ_eq_append_getElem hj, List.set_append_right _ _ (by rw [List.length_take]; omega)]
  rw [List.length_take, Nat.min_eq_left (by omega), Nat.sub_self]
  rfl
theorem rnflat_at : ∀ {rs : List Rn} {i q : Nat} {r : Rn} {u : Value}, rs[i]? = some r → r.cells[q]? = some u → (rnflat rs)[i * 3 + q]? = some u
  | [], i, q, r, u, h, _ => by simp at h
  | s :: rs, 0, q, r, u, h, hu => by
    have hq : s = r := by simpa using h
    subst hq
    have hl : q < 3 := by have := (List.getElem?_eq_some_iff.1 hu).1; simpa [Rn.cells] using this
    have e : rnflat (s :: rs) = s.cells ++ rnflat rs := rfl
    rw [e, Nat.zero_mul, Nat.zero_add, List.getElem?_append_left (by simpa [Rn.cells] using hl)]
    exact hu
  | s :: rs, i + 1, q, r, u, h, hu => by
    have e : rnflat (s :: rs) = s.cells ++ rnflat rs := rfl
    rw [e, List.getElem?_append_right (by simp [Rn.cells]; omega)]
    have : (i + 1) * 3 + q - s.cells.length = i * 3 + q := by simp [Rn.cells]; omega
    rw [this]
    exact rnflat_at (by simpa using h) hu
end Go.Proofs.Ytkggejmamhakaaa

namespace Go.Proofs.Ytkggejmamhakaaa
set_option maxRecDepth 100000
set_option linter.unusedVariables false
open Go.RowKit
set_option maxHeartbeats 1000000 in
theorem tallyOf_any (A : Option Addr) (n c : Nat) (ds : List Int) (w : World) (h : Ils w w.heap.size A n ds) (hn : n ≤ maxLen) (h0 : ∀ x ∈ ds, 0 ≤ x) (hs : isum ds ≤ 1000000000000000000) :
    Calls Try.prog 48 #[.slice A n c] w fun e w' => e = .returned (.agg #[.int .i64 (isum ds), .int .i64 (gcdF ds)]) ∧ Below w.heap.size w w' := by
  have hI := Lib.hid h
  have hT := Lib.hid (show ds.take n = ds from List.take_of_length_le (by rw [h.1]; exact Nat.le_refl _))
  have hn9 : n ≤ 9223372036854775807 := by unfold maxLen at hn; omega
  have hP := Lib.hid (isum_le h0)
  have hD1 := Lib.hid (show ∀ x ∈ ds, 0 ≤ x ∧ x ≤ 1000000000000000000 from fun x hx => by
    have h1 := h0 x hx
    have h2 := rsum_ge (v := fun _ => 1) (fun _ => by decide) 0 h0 x hx
    rw [rsum_one'] at h2
    omega)
  have hG := Lib.hid (gcdF_part hD1.out (by decide))
  have hB0 : Below w.heap.size w ((w.alloc (.cells #[.int .i64 0, .int .i64 0] 68)).alloc (.cells #[.int .i64 0, .int .i64 0] 68)) := ((Below.refl _ _).alloc (Nat.le_refl _) _).alloc (by simp) _
  have hR0 := Lib.hid ((Has.new w 68 #[.int .i64 0, .int .i64 0]).alloc (.cells #[.int .i64 0, .int .i64 0] 68))
  have hV0 := Lib.hid (show Has ((w.alloc (.cells #[.int .i64 0, .int .i64 0] 68)).alloc (.cells #[.int .i64 0, .int .i64 0] 68)) (w.heap.size + 1) 68 #[.int .i64 0, .int .i64 0] from by
    have := Has.new (w.alloc (.cells #[.int .i64 0, .int .i64 0] 68)) 68 #[.int .i64 0, .int .i64 0]
    simpa using this)
  have hBh := Lib.hid hB0
  clear h hn h0 hB0
  go_enter Try.func48, Try.ntmps48
  go_wp2_with fail
  go_loopg [8] n (fun gn v wr => ∃ k : Nat, k ≤ n ∧ gn = n - k ∧ v = .int .i64 k ∧ Has wr w.heap.size 68 #[.int .i64 0, .int .i64 0] ∧ Has wr (w.heap.size + 1) 68 #[.int .i64 (isum (ds.take k)), .int .i64 (gcdF (ds.take k))] ∧ Below w.heap.size w wr)
  case atStart => exact ⟨0, Nat.zero_le _, rfl, rfl, hR0.out, hV0.out, hBh.out⟩
  case round =>
    obtain ⟨k, hk, hgn, rfl, hR, hV, hB⟩ := hrel
    have hgk : gk = n - k := hgn
    have hB' := Lib.hid hB
    have hR' := Lib.hid hR
    have hV' := Lib.hid hV
    clear hgn
    by_cases hlt : k < n
    · obtain ⟨g, off, d, rfl, hg, hd, c0⟩ := (hI.out.below hB).at_ hlt
      have h1 := hP.out k
      have h2 := hP.out (k + 1)
      have h3 := hG.out k
      have h4 := hD1.out d (List.mem_of_getElem? hd)
      rw [isum_take hd] at h2
      have hS := Lib.hid (isum_take hd)
      have hF := Lib.hid (gcdF_take hd)
      have cC := Lib.hid (fun wx => commonOf_any (gcdF (ds.take k)) d wx ⟨h3.1, by omega⟩ ⟨h4.1, by omega⟩)
      have hw : IntKind.i64.wrap (isum (ds.take k) + d) = isum (ds.take k) + d := by rw [IntKind.wrap_i64]; omega
      have hk0 : (0 : Int) ≤ (k : Int) := by omega
      have hk1 : (k : Int) < (n : Int) := by omega
      have cv0 := hV.cell 0
      have cv1 := hV.cell 1
      have fv0 := hV.frozen 0
      simp at cv0 cv1
      generalize isum (ds.take k) = sk at *
      generalize gcdF (ds.take k) = gk' at *
      clear hd hB hR hV
      go_wp2_with fail
      refine (cC.out _).mono ?_
      rintro e w2 ⟨rfl, q, rfl⟩
      have hV1 : Has ((wr.setCell ⟨w.heap.size + 1, 0, none⟩ (.int .i64 (sk + d))).drewN q) (w.heap.size + 1) 68 #[.int .i64 (sk + d), .int .i64 gk'] := hV'.out.put 0 (.int .i64 (sk + d))
      have hR1 : Has ((wr.setCell ⟨w.heap.size + 1, 0, none⟩ (.int .i64 (sk + d))).drewN q) w.heap.size 68 #[.int .i64 0, .int .i64 0] := hR'.out.far (p := ⟨w.heap.size + 1, 0, none⟩) (by simp) (.int .i64 (sk + d))
      have hB1 : Below w.heap.size w ((wr.setCell ⟨w.heap.size + 1, 0, none⟩ (.int .i64 (sk + d))).drewN q) := below_drewN (hB'.out.setCell (p := ⟨w.heap.size + 1, 0, none⟩) (by simp) (.int .i64 (sk + d))) q
      clear fv0 cv0 cv1
      generalize (wr.setCell ⟨w.heap.size + 1, 0, none⟩ (.int .i64 (sk + d))).drewN q = W1 at hV1 hR1 hB1 ⊢
      have hV2 := Lib.hid (hV1.put 1 (.int .i64 (gcdI gk' d)))
      have hR2 := Lib.hid (hR1.far (p := ⟨w.heap.size + 1, 1, none⟩) (by simp) (.int .i64 (gcdI gk' d)))
      have hB2 := Lib.hid (hB1.setCell (p := ⟨w.heap.size + 1, 1, none⟩) (by simp) (.int .i64 (gcdI gk' d)))
      have fx := hV1.frozen 1
      have cx := hV1.cell 1
      simp at cx
      clear hV1 hR1 hB1
      go_wp2_with fail
      go_roundg (n - (k + 1))
      case measure => omega
      case rel => exact ⟨k + 1, by omega, rfl, by go_num, hR2.out, by rw [hS.out, hF.out]; exact hV2.out, hB2.out⟩
    · obtain rfl : k = n := by omega
      rw [hT.out] at hV hV'
      have cv0 := hV.cell
      have cr0 := hR.cell
      have fr0 := hR.frozen
      simp at cv0
      clear hB hR hV
      go_wp2_with fail
      refine bodyPost_ret (v := .agg #[.int .i64 (isum ds), .int .i64 (gcdF ds)]) (by simp [results, Try.results48, go_sem, cr0]) rfl ⟨rfl, ?_⟩
      refine Below.setCell ?_ (by simp) _
      refine Below.setCell ?_ (by simp) _
      exact hB'.out
/-- The first k numbers divided. -/
def divK (ds : List Int) (g : Int) (k : Nat) : List Int := (ds.take k).map (fun d => d / g) ++ ds.drop k
theorem divK_zero (ds : List Int) (g : Int) : divK ds g 0 = ds := by simp [divK]
theorem divK_len (ds : List Int) (g : Int) (k : Nat) : (divK ds g k).length = ds.length := by
  unfold divK
  rw [List.length_append, List.length_map, List.length_take, List.length_drop]
  omega
theorem divK_at {ds : List Int} {g d : Int} {k : Nat} (h : ds[k]? = some d) : (divK ds g k)[k]? = some d := by
  obtain ⟨hl, he⟩ := List.getElem?_eq_some_iff.1 h
  unfold divK
  rw [List.getElem?_append_right (by rw [List.length_map, List.length_take]; omega), List.length_map, List.length_take, List.getElem?_drop, show k + (k - min k ds.length) = k by omega]
  exact h
theorem divK_set {ds : List Int} {g d : Int} {k : Nat} (h : ds[k]? = some d) : (divK ds g k).set k (d / g) = divK ds g (k + 1) := by
  obtain ⟨hl, he⟩ := List.getElem?_eq_some_iff.1 h
  have e : ((ds.take k).map (fun d => d / g)).length = k := by rw [List.length_map, List.length_take]; omega
  unfold divK
  rw [List.set_append_right _ _ (by omega), e, Nat.sub_self, List.drop_eq_getElem_cons hl, he, List.set_cons_zero, List.take_succ_eq_append_getElem hl, he, List.map_append, List.append_assoc]
  rfl
theorem divK_all {ds : List Int} {g : Int} {n : Nat} (h : ds.length ≤ n) : divK ds g n = ds.map (fun d => d / g) := by
  unfold divK
  rw [List.take_of_length_le h, List.drop_eq_nil_of_le h, List.append_nil]
set_option maxHeartbeats 1000000 in
theorem divided_any (A : Option Addr) (n c : Nat) (ds : List Int) (g : Int) (w : World) (h : Ils w w.heap.size A n ds) (hn : n ≤ 1048576) (hg : 0 ≤ g ∧ g ≤ 1000000000000000000) (h0 : ∀ x ∈ ds, 0 ≤ x ∧ x ≤ 1000000000000000000) :
    Calls Try.prog 49 #[.slice A n c, .int .i64 g] w (Wtsd w (divL ds g)) := by
  have hL := h.1
  have hD0 := Lib.hid h0
  have cC := Lib.hid (copied_any A n c ds w h hn)
  clear h h0
  by_cases hg0 : g = 0
  · have hR := Lib.hid (show divL ds g = ds by unfold divL; exact if_pos hg0)
    go_enter Try.func49, Try.ntmps49
    go_wp2_with fail
    refine cC.out.mono ?_
    rintro e w1 ⟨rfl, hO, hb⟩
    have hO' := Lib.hid hO
    clear hO
    go_wp2_with fail
    go_ret
    exact ⟨_, rfl, by rw [hR.out]; exact hO'.out, hb⟩
  · have hR := Lib.hid (show divL ds g = divK ds g n by rw [divK_all (by omega)]; unfold divL; exact if_neg hg0)
    have hgp : 0 < g := by omega
    go_enter Try.func49, Try.ntmps49
    go_wp2_with fail
    refine cC.out.mono ?_
    rintro e w1 ⟨rfl, hO, hb⟩
    have hO' := Lib.hid (show w1.ownsRow w.heap.size 3 1 (.slice (some ⟨w.heap.size, 0, none⟩) n n) n (ints (divK ds g 0)) from by
      rw [divK_zero]
      have := hO
      unfold IOwn at this
      rwa [hL] at this)
    have hb' := Lib.hid hb
    clear hO hb
    go_wp2_with fail
    go_loopg [14] n (fun gn v wr => ∃ k : Nat, k ≤ n ∧ gn = n - k ∧ v = .int .i64 k ∧ wr.ownsRow w.heap.size 3 1 (.slice (some ⟨w.heap.size, 0, none⟩) n n) n (ints (divK ds g k)) ∧ Below w.heap.size w wr)
    case atStart => exact ⟨0, Nat.zero_le _, rfl, rfl, hO'.out, hb'.out⟩
    case round =>
      obtain ⟨k, hk, hgn, rfl, hown, hB⟩ := hrel
      have hgk : gk = n - k := hgn
      have hB' := Lib.hid hB
      have hOw := Lib.hid hown
      clear hgn
      by_cases hlt : k < n
      · obtain ⟨d, hd⟩ : ∃ d, ds[k]? = some d := ⟨_, List.getElem?_eq_getElem (by omega)⟩
        obtain ⟨b, cur, hbe, hwb, hH, _, _, _, hcl⟩ := owns_open hown (by omega)
        have hbe' : w.heap.size = b := by injection hbe with e; injection e
        subst hbe'
        have hc1 := hcl k (by omega)
        rw [ints_get (divK_at hd)] at hc1
        have hfz := hH.frozen k
        have hd1 := hD0.out d (List.mem_of_getElem? hd)
        have hS := Lib.hid (divK_set (g := g) hd)
        have hO2 := Lib.hid (owns_set (x := d / g) hOw.out hlt)
        have hB2 := Lib.hid (hB'.out.setCell (p := ⟨w.heap.size, k, none⟩) (Nat.le_refl _) (.int .i64 (d / g)))
        have hk0 : (0 : Int) ≤ (k : Int) := by omega
        have hk1 : (k : Int) < (n : Int) := by omega
        clear hown hB hbe hwb hH hcl hd
        go_wp2_with fail
        go_roundg (n - (k + 1))
        case measure => omega
        case rel => exact ⟨k + 1, by omega, rfl, by go_num, by rw [← hS.out]; exact hO2.out, hB2.out⟩
      · obtain rfl : k = n := by omega
        have hF := Lib.hid (show Wtsd w (divL ds g) (.returned (.slice (some ⟨w.heap.size, 0, none⟩) k k)) wr from ⟨_, rfl, by rw [hR.out]; unfold IOwn; rw [divK_len, hL]; exact hown, hB⟩)
        clear hown hB
        go_wp2_with fail
        go_ret
        exact hF.out
theorem tally_common (x y : Int) (wx : World) : (Instr.field 68 (.agg #[.int .i64 x, .int .i64 y]) 1).run Try.prog wx = .ok (.int .i64 y) wx := by kernel_rfl
end Go.Proofs.Ytkggejmamhakaaa
