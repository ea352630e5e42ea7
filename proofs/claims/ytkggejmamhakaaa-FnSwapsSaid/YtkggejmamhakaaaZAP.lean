/- Parts of the proof: Swx, Tx, Tk, Aa. -/
import Derived.Deep.LoopGhost
import Derived.Deep.RegionHeld3
import Derived.Deep.RegionLaw
import Derived.StillTailTactics
import Derived.IntWalk
import Derived.Test.YtkggejmamhakaaaZAN
import Derived.Test.YtkggejmamhakaaaZAE
import Derived.Test.YtkggejmamhakaaaZAJ
import Derived.Test.YtkggejmamhakaaaZAH
import Derived.Laws.BytesArg
import Derived.Maps.AppendAt
import Derived.Laws.Strings
import Derived.Test.YtkggejmamhakaaaZAC
import Derived.Test.YtkggejmamhakaaaZAB
namespace Go.Proofs.Ytkggejmamhakaaa
set_option maxRecDepth 100000
set_option linter.unusedVariables false
open Go.RowKit
end Go.Proofs.Ytkggejmamhakaaa
namespace Go.Proofs.Ytkggejmamhakaaa
set_option maxRecDepth 100000
set_option linter.unusedVariables false
open Go.RowKit
def St.weighs (s : St) : Bool := s.k == 4 || s.k == 5
theorem isWeigh_any (s : St) (w : World) :
    Calls Try.prog 117 #[.agg #[.int .i64 s.k, .int .i64 s.a, .int .i64 s.b, .int .i64 s.c, .int .i64 s.u, .int .i64 s.v, .int .i64 s.x]] w fun e w' => e = .returned (.bool s.weighs) ∧ Below w.heap.size w w' := by
  have hB : Below w.heap.size w (w.alloc (.cells #[.int .i64 s.k, .int .i64 s.a, .int .i64 s.b, .int .i64 s.c, .int .i64 s.u, .int .i64 s.v, .int .i64 s.x] 63)) := (Below.refl _ _).alloc (Nat.le_refl _) _
  cases h4 : (s.k == 4)
  · cases h5 : (s.k == 5)
    · have hR := Lib.hid (show s.weighs = false by unfold St.weighs; rw [h4, h5]; rfl)
      go_enter Try.func117, Try.ntmps117
      go_wp2
      go_ret
      exact ⟨ret_bool hR.out, hB⟩
    · have hR := Lib.hid (show s.weighs = true by unfold St.weighs; rw [h4, h5]; rfl)
      go_enter Try.func117, Try.ntmps117
      go_wp2
      go_ret
      exact ⟨ret_bool hR.out, hB⟩
  · have hR := Lib.hid (show s.weighs = true by unfold St.weighs; rw [h4]; rfl)
    go_enter Try.func117, Try.ntmps117
    go_wp2
    go_ret
    exact ⟨ret_bool hR.out, hB⟩
end Go.Proofs.Ytkggejmamhakaaa
namespace Go.Proofs.Ytkggejmamhakaaa
set_option maxRecDepth 100000
set_option linter.unusedVariables false
open Go.RowKit
/-- The numbers from place k on lie in a row of cells. -/
def LFill (cs : Array Value) (lv : Nat → Int) (m k : Nat) : Prop := cs.size = m + 1 ∧ ∀ j, k ≤ j → j ≤ m → cs[j]? = some (.int .i64 (lv j))
theorem LFill.step {cs : Array Value} {lv : Nat → Int} {m k : Nat} {x : Int} (h : LFill cs lv m (k + 1)) (hk : k ≤ m) (hx : x = lv k) : LFill (cs.setIfInBounds k (.int .i64 x)) lv m k := by
  refine ⟨by simpa using h.1, fun j h1 h2 => ?_⟩
  by_cases hjk : j = k
  · subst hjk
    rw [Array.getElem?_setIfInBounds, if_pos rfl, if_pos (by rw [h.1]; omega), hx]
  · rw [Array.getElem?_setIfInBounds, if_neg (by omega)]
    exact h.2 j (by omega) h2
end Go.Proofs.Ytkggejmamhakaaa

namespace Go.Proofs.Ytkggejmamhakaaa
set_option maxRecDepth 100000
set_option linter.unusedVariables false
open Go.RowKit
/-- The first k values' bytes lie in a row of cells. -/
def BFill (cs : Array Value) (ds : List Int) (n k : Nat) : Prop := cs.size = n ∧ ∀ i d, i < k → ds[i]? = some d → cs[i]? = some (.int .u8 (48 + d))
theorem BFill.step {cs : Array Value} {ds : List Int} {n k : Nat} {d : Int} (h : BFill cs ds n k) (hd : ds[k]? = some d) (hk : k < n) : BFill (cs.setIfInBounds k (.int .u8 (48 + d))) ds n (k + 1) := by
  refine ⟨by simpa using h.1, fun i e hi he => ?_⟩
  by_cases hik : i = k
  · subst hik
    obtain rfl : d = e := Option.some.inj (hd.symm.trans he)
    have := h.1
    rw [Array.getElem?_setIfInBounds, if_pos rfl, if_pos (by omega)]
  · rw [Array.getElem?_setIfInBounds, if_neg (by omega)]
    exact h.2 i e (by omega) he
end Go.Proofs.Ytkggejmamhakaaa
namespace Go.Proofs.Ytkggejmamhakaaa
set_option maxRecDepth 100000
set_option linter.unusedVariables false
open Go.RowKit
end Go.Proofs.Ytkggejmamhakaaa
namespace Go.Proofs.Ytkggejmamhakaaa
set_option maxRecDepth 100000
set_option linter.unusedVariables false
end Go.Proofs.Ytkggejmamhakaaa

namespace Go.Proofs.Ytkggejmamhakaaa
set_option maxRecDepth 100000
set_option linter.unusedVariables false
open Go.RowKit
/-- What holds of a tracer's row, stack and run. -/
structure Inv (os : List St) (row : List Int) (stk : List Rn) (now : Rn) : Prop where
  len : row.length = stk.length
  fit : now.fit
  val : ∀ d ∈ row, 0 ≤ d ∧ d ≤ 2
  at_ : ∀ (j : Nat) (r : Rn), stk[j]? = some r → r.fit ∧ r.wt ≠ 0 ∧ j ≤ r.pos ∧ ∃ s, os[r.pos]? = some s ∧ s.draws = true ∧ s.ok = true
  pos : row.length ≤ now.pos
theorem Inv.start (os : List St) : Inv os [] [] ⟨0, 0, 1⟩ := ⟨rfl, Rn.fit_start, fun d h => by simp at h, fun j r h => by simp at h, Nat.zero_le _⟩
theorem step_pos (s : St) (r : Rn) (x : Int) : r.pos + 1 ≤ (Rn.step s r x).pos := by
  show r.pos + 1 ≤ r.pos + 1 + s.jump r.st
  omega
theorem Inv.own {os : List St} {row : List Int} {stk : List Rn} {now : Rn} {s : St} (h : Inv os row stk now) (hok : s.ok = true) : Inv os row stk (Rn.step s now 0) :=
  ⟨h.len, h.fit.step hok (by decide), h.val, h.at_, Nat.le_trans h.pos (by have := step_pos s now 0; omega)⟩
theorem Inv.draw {os : List St} {row : List Int} {stk : List Rn} {now : Rn} {s : St} (h : Inv os row stk now) (hs : os[now.pos]? = some s) (hok : s.ok = true) (hd : s.draws = true) (hw : now.wt ≠ 0) : Inv os (row ++ [0]) (stk ++ [now]) (Rn.step s now 0) := by
  refine ⟨by simp [h.len], h.fit.step hok (by decide), fun d hd' => ?_, fun j r hr => ?_, ?_⟩
  · rcases List.mem_append.1 hd' with hd' | hd'
    · exact h.val d hd'
    · rw [List.mem_singleton] at hd'
      subst hd'
      decide
  · by_cases hj : j < stk.length
    · rw [List.getElem?_append_left hj] at hr
      exact h.at_ j r hr
    · rw [List.getElem?_append_right (by omega)] at hr
      have hj0 : j - stk.length = 0 := by
        have := (List.getElem?_eq_some_iff.1 hr).1
        simp at this; omega
      rw [hj0] at hr
      have hr' : now = r := by simpa using hr
      subst hr'
      refine ⟨h.fit, hw, ?_, s, hs, hd, hok⟩
      have := h.pos
      have := h.len
      omega
  · have h1 := step_pos s now 0
    have h2 := h.pos
    rw [List.length_append, List.length_singleton]
    omega
theorem Inv.up {os : List St} {row : List Int} {stk : List Rn} {now r : Rn} {s : St} {j : Nat} {d : Int} (h : Inv os row stk now) (hd : row[j]? = some d) (hd1 : d ≤ 1) (hr : stk[j]? = some r) (hs : os[r.pos]? = some s) :
    Inv os (row.take j ++ [d + 1]) (stk.take (j + 1)) (Rn.step s r (d + 1)) := by
  have hl := (List.getElem?_eq_some_iff.1 hd).1
  have hl2 := (List.getElem?_eq_some_iff.1 hr).1
  obtain ⟨hf, hw, hp, s', hs', hdr, hok⟩ := h.at_ j r hr
  obtain rfl : s' = s := Option.some.inj (hs'.symm.trans hs)
  have hdv := h.val d (List.mem_of_getElem? hd)
  refine ⟨by simp; omega, hf.step hok (by omega), fun x hx => ?_, fun i q hq => ?_, ?_⟩
  · rcases List.mem_append.1 hx with hx | hx
    · exact h.val x (List.mem_of_mem_take hx)
    · rw [List.mem_singleton] at hx
      subst hx
      omega
  · rw [List.getElem?_take] at hq
    split at hq
    · exact h.at_ i q hq
    · cases hq
  · have h1 := step_pos s' r (d + 1)
    rw [List.length_append, List.length_singleton, List.length_take]
    omega
/-- The cells of runs, one behind the other. -/
def Rn.cells (r : Rn) : List Value := [.int .i64 r.pos, .int .i64 r.st, .int .i64 r.wt]
def rnflat (rs : List Rn) : List Value := rs.flatMap Rn.cells
/-- The blocks that a tracer may turn. -/
def TrB (g : Nat) (vr vs : Value) (i : Nat) : Prop := i = g ∨ vr.ownBlock = some i ∨ vs.ownBlock = some i
/-- How a step of a tracer leaves memory. -/
def Trd (w w' : World) (g : Nat) (vr vs vr' vs' : Value) : Prop :=
  KeptBut w w' (TrB g vr vs) ∧ (∀ k, vr'.ownBlock = some k → vr.ownBlock = some k ∨ w.heap.size ≤ k) ∧ (∀ k, vs'.ownBlock = some k → vs.ownBlock = some k ∨ w.heap.size ≤ k)
theorem Trd.trans {a b c : World} {g : Nat} {vr vs vr' vs' vr2 vs2 : Value} (h : Trd a b g vr vs vr' vs') (k : Trd b c g vr' vs' vr2 vs2) : Trd a c g vr vs vr2 vs2 := by
  have hz := h.1.size
  refine ⟨KeptBut.trans h.1 k.1 (fun i hi e => ?_), fun i hi => ?_, fun i hi => ?_⟩
  · rcases e with e | e | e
    · exact .inl e
    · rcases h.2.1 i e with e' | e'
      · exact .inr (.inl e')
      · omega
    · rcases h.2.2 i e with e' | e'
      · exact .inr (.inr e')
      · omega
  · rcases k.2.1 i hi with e | e
    · exact h.2.1 i e
    · exact .inr (by omega)
  · rcases k.2.2 i hi with e | e
    · exact h.2.2 i e
    · exact .inr (by omega)
end Go.Proofs.Ytkggejmamhakaaa
namespace Go.Proofs.Ytkggejmamhakaaa
set_option maxRecDepth 100000
set_option linter.unusedVariables false
open Go.RowKit
theorem Trd.below {w0 w w' : World} {g : Nat} {vr0 vs0 vr vs : Value} (h : Trd w0 w g vr0 vs0 vr vs) (hb : Below w.heap.size w w') : Trd w0 w' g vr0 vs0 vr vs :=
  ⟨KeptBut.trans h.1 (KeptBut.of_below hb (fun _ => False)) (fun _ _ e => e.elim), h.2.1, h.2.2⟩
theorem Trd.put {w0 w : World} {g : Nat} {vr0 vs0 vr vs : Value} (h : Trd w0 w g vr0 vs0 vr vs) (i : Nat) (u : Value) : Trd w0 (w.setCell ⟨g, i, none⟩ u) g vr0 vs0 vr vs :=
  ⟨h.1.put (fun _ => .inl rfl) u, h.2.1, h.2.2⟩
theorem owns_open {w : World} {base size n c : Nat} {e : TypeId} {A : Option Addr} {xs : List Value} (h : w.ownsRow base e size (.slice A n c) n xs) (hn : 0 < n) :
    ∃ b cur, A = some ⟨b, 0, none⟩ ∧ base ≤ b ∧ Has w b e cur ∧ n ≤ c ∧ c ≤ maxLen ∧ n * size ≤ cur.size ∧ ∀ i, i < n * size → w.cell? ⟨b, i, none⟩ = xs[i]? := by
  rcases h.2 with ⟨hv, h0⟩ | ⟨b, cap, cur, hv, hg, hh, h1, h2, h3, h4⟩
  · omega
  · injection hv with e1 _ e3
    subst e1 e3
    have hcs : n * size ≤ cur.size := by rw [h3]; exact Nat.mul_le_mul_right _ h1
    refine ⟨b, cur, rfl, hg, hh, h1, h2, hcs, fun i hi => ?_⟩
    rw [cell_of_row w b i cur e (0, 0) hh, ← h4, List.getElem?_take, if_pos hi]
    simp
theorem take_set (ds : List Int) (j : Nat) (x : Int) (hj : j < ds.length) : (ds.take (j + 1)).set j x = ds.take j ++ [x] := by
  rw [List.take_succ_eq_append_getElem hj, List.set_append_right _ _ (by rw [List.length_take]; omega)]
  rw [List.length_take, Nat.min_eq_left (by omega), Nat.sub_self]
  rfl
end Go.Proofs.Ytkggejmamhakaaa

namespace Go.Proofs.Ytkggejmamhakaaa
set_option maxRecDepth 100000
set_option linter.unusedVariables false
open Go.RowKit
set_option maxHeartbeats 1000000 in
theorem tallyOf_any (A : Option Addr) (n c : Nat) (ds : List Int) (w : World) (h : Ils w w.heap.size A n ds) (hn : n ≤ maxLen) (h0 : ∀ x ∈ ds, 0 ≤ x) (hs : isum ds ≤ 1000000000000000000) :
    Calls Try.prog 48 #[.slice A n c] w fun e w' => e = .returned (.agg #[.int .i64 (isum ds), .int .i64 (gcdF ds)]) ∧ Below w.heap.size w w' := by
  have hI := Lib.hid h
  have hT := Lib.hid (show ds.take n = ds from List.take_of_length_le (by rw [h.1]; exact Nat.le_refl _))
  have hn9 : n ≤ 9223372036854775807 := by unfold maxLen at hn; omega
  have hP := Lib.hid (isum_le h0)
  have hD1 := Lib.hid (show ∀ x ∈ ds, 0 ≤ x ∧ x ≤ 1000000000000000000 from fun x hx => by
    have h1 := h0 x hx
    have h2 := rsum_ge (v := fun _ => 1) (fun _ => by decide) 0 h0 x hx
    rw [rsum_one'] at h2
    omega)
  have hG := Lib.hid (gcdF_part hD1.out (by decide))
  have hB0 : Below w.heap.size w ((w.alloc (.cells #[.int .i64 0, .int .i64 0] 68)).alloc (.cells #[.int .i64 0, .int .i64 0] 68)) := ((Below.refl _ _).alloc (Nat.le_refl _) _).alloc (by simp) _
  have hR0 := Lib.hid ((Has.new w 68 #[.int .i64 0, .int .i64 0]).alloc (.cells #[.int .i64 0, .int .i64 0] 68))
  have hV0 := Lib.hid (show Has ((w.alloc (.cells #[.int .i64 0, .int .i64 0] 68)).alloc (.cells #[.int .i64 0, .int .i64 0] 68)) (w.heap.size + 1) 68 #[.int .i64 0, .int .i64 0] from by
    have := Has.new (w.alloc (.cells #[.int .i64 0, .int .i64 0] 68)) 68 #[.int .i64 0, .int .i64 0]
    simpa using this)
  have hBh := Lib.hid hB0
  clear h hn h0 hB0
  go_enter Try.func48, Try.ntmps48
  go_wp2_with fail
  go_loopg [8] n (fun gn v wr => ∃ k : Nat, k ≤ n ∧ gn = n - k ∧ v = .int .i64 k ∧ Has wr w.heap.size 68 #[.int .i64 0, .int .i64 0] ∧ Has wr (w.heap.size + 1) 68 #[.int .i64 (isum (ds.take k)), .int .i64 (gcdF (ds.take k))] ∧ Below w.heap.size w wr)
  case atStart => exact ⟨0, Nat.zero_le _, rfl, rfl, hR0.out, hV0.out, hBh.out⟩
  case round =>
    obtain ⟨k, hk, hgn, rfl, hR, hV, hB⟩ := hrel
    have hgk : gk = n - k := hgn
    have hB' := Lib.hid hB
    have hR' := Lib.hid hR
    have hV' := Lib.hid hV
    clear hgn
    by_cases hlt : k < n
    · obtain ⟨g, off, d, rfl, hg, hd, c0⟩ := (hI.out.below hB).at_ hlt
      have h1 := hP.out k
      have h2 := hP.out (k + 1)
      have h3 := hG.out k
      have h4 := hD1.out d (List.mem_of_getElem? hd)
      rw [isum_take hd] at h2
      have hS := Lib.hid (isum_take hd)
      have hF := Lib.hid (gcdF_take hd)
      have cC := Lib.hid (fun wx => commonOf_any (gcdF (ds.take k)) d wx ⟨h3.1, by omega⟩ ⟨h4.1, by omega⟩)
      have hw : IntKind.i64.wrap (isum (ds.take k) + d) = isum (ds.take k) + d := by rw [IntKind.wrap_i64]; omega
      have hk0 : (0 : Int) ≤ (k : Int) := by omega
      have hk1 : (k : Int) < (n : Int) := by omega
      have cv0 := hV.cell 0
      have cv1 := hV.cell 1
      have fv0 := hV.frozen 0
      simp at cv0 cv1
      generalize isum (ds.take k) = sk at *
      generalize gcdF (ds.take k) = gk' at *
      clear hd hB hR hV
      go_wp2_with fail
      refine (cC.out _).mono ?_
      rintro e w2 ⟨rfl, q, rfl⟩
      have hV1 : Has ((wr.setCell ⟨w.heap.size + 1, 0, none⟩ (.int .i64 (sk + d))).drewN q) (w.heap.size + 1) 68 #[.int .i64 (sk + d), .int .i64 gk'] := hV'.out.put 0 (.int .i64 (sk + d))
      have hR1 : Has ((wr.setCell ⟨w.heap.size + 1, 0, none⟩ (.int .i64 (sk + d))).drewN q) w.heap.size 68 #[.int .i64 0, .int .i64 0] := hR'.out.far (p := ⟨w.heap.size + 1, 0, none⟩) (by simp) (.int .i64 (sk + d))
      have hB1 : Below w.heap.size w ((wr.setCell ⟨w.heap.size + 1, 0, none⟩ (.int .i64 (sk + d))).drewN q) := below_drewN (hB'.out.setCell (p := ⟨w.heap.size + 1, 0, none⟩) (by simp) (.int .i64 (sk + d))) q
      clear fv0 cv0 cv1
      generalize (wr.setCell ⟨w.heap.size + 1, 0, none⟩ (.int .i64 (sk + d))).drewN q = W1 at hV1 hR1 hB1 ⊢
      have hV2 := Lib.hid (hV1.put 1 (.int .i64 (gcdI gk' d)))
      have hR2 := Lib.hid (hR1.far (p := ⟨w.heap.size + 1, 1, none⟩) (by simp) (.int .i64 (gcdI gk' d)))
      have hB2 := Lib.hid (hB1.setCell (p := ⟨w.heap.size + 1, 1, none⟩) (by simp) (.int .i64 (gcdI gk' d)))
      have fx := hV1.frozen 1
      have cx := hV1.cell 1
      simp at cx
      clear hV1 hR1 hB1
      go_wp2_with fail
      go_roundg (n - (k + 1))
      case measure => omega
      case rel => exact ⟨k + 1, by omega, rfl, by go_num, hR2.out, by rw [hS.out, hF.out]; exact hV2.out, hB2.out⟩
    · obtain rfl : k = n := by omega
      rw [hT.out] at hV hV'
      have cv0 := hV.cell
      have cr0 := hR.cell
      have fr0 := hR.frozen
      simp at cv0
      clear hB hR hV
      go_wp2_with fail
      refine bodyPost_ret (v := .agg #[.int .i64 (isum ds), .int .i64 (gcdF ds)]) (by simp [results, Try.results48, go_sem, cr0]) rfl ⟨rfl, ?_⟩
      refine Below.setCell ?_ (by simp) _
      refine Below.setCell ?_ (by simp) _
      exact hB'.out
theorem tally_common (x y : Int) (wx : World) : (Instr.field 68 (.agg #[.int .i64 x, .int .i64 y]) 1).run Try.prog wx = .ok (.int .i64 y) wx := by kernel_rfl
end Go.Proofs.Ytkggejmamhakaaa
