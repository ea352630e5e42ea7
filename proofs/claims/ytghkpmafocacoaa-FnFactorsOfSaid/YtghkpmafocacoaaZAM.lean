/- Parts of the proof: Sm, Ag, An, Ca, Tx, Tk, Aa, Cb, Cn, Ry, Rz, G3, Ts, FA, FB, FD. -/
import Derived.Deep.AppendLies
import Derived.Deep.LoopGhost
import Derived.Test.YtghkpmafocacoaaZAI
import Derived.Test.YtghkpmafocacoaaZAA
import Derived.Test.YtghkpmafocacoaaZAE
import Derived.Test.YtghkpmafocacoaaZAG
import Derived.Laws.BytesArg
import Derived.Maps.AppendAt
import Derived.Laws.Strings
import Derived.Test.YtghkpmafocacoaaZAK
import Derived.Test.YtghkpmafocacoaaZAC
import Derived.Deep.RegionLaw
import Derived.Deep.RegionHeld3
import Derived.StillTailTactics
import Derived.IntWalk
import Derived.Test.YtghkpmafocacoaaZAJ
import Derived.Test.YtghkpmafocacoaaZAL
import Derived.BigQuiet
namespace Go.Proofs.Ytghkpmafocacoaa
set_option maxRecDepth 100000
set_option linter.unusedVariables false
open Go.RowKit
theorem new_one (w : World) (x : Value) (t : TypeId) : ∀ j u, [x][j]? = some u → (w.alloc (.cells #[x] t)).cell? ((⟨w.heap.size, 0, none⟩ : Addr).add j) = some u := by
  intro j u hu
  have hj : j = 0 := by
    have := (List.getElem?_eq_some_iff.1 hu).1
    simp at this; exact this
  subst hj
  have hu' : x = u := by simpa using hu
  subst hu'
  have h := (Has.new w t #[x]).cell 0
  simp [Addr.add] at h ⊢
/-- How weights are told. -/
def Wtsd (w : World) (os : List Int) (e : Ending) (w' : World) : Prop := ∃ v, e = .returned v ∧ IOwn w' w.heap.size v os ∧ Below w.heap.size w w'
def zs (n : Nat) : List Int := List.replicate n 0
theorem zs_len (n : Nat) : (zs n).length = n := List.length_replicate
end Go.Proofs.Ytghkpmafocacoaa

namespace Go.Proofs.Ytghkpmafocacoaa
set_option maxRecDepth 100000
set_option linter.unusedVariables false
open Go.RowKit
/-- The greatest number that divides both. -/
def gcdI (a b : Int) : Int := (Nat.gcd a.toNat b.toNat : Nat)
end Go.Proofs.Ytghkpmafocacoaa

namespace Go.Proofs.Ytghkpmafocacoaa
set_option maxRecDepth 100000
set_option linter.unusedVariables false
open Go.RowKit
/-- All numbers are from 0 to m. -/
def numsOk (m : Int) (ds : List Int) : Bool := ds.all fun d => inB d 0 m
theorem numsOk_no {m : Int} {ds : List Int} {k : Nat} {d : Int} (h : ds[k]? = some d) (hd : inB d 0 m = false) : numsOk m ds = false := by
  unfold numsOk
  rw [List.all_eq_false]
  exact ⟨d, List.mem_of_getElem? h, by rw [hd]; decide⟩
theorem numsOk_step {m : Int} {ds : List Int} {k : Nat} {d : Int} (h : numsOk m (ds.take k) = true) (hd : ds[k]? = some d) (hi : inB d 0 m = true) : numsOk m (ds.take (k + 1)) = true := by
  obtain ⟨hl, he⟩ := List.getElem?_eq_some_iff.1 hd
  unfold numsOk at h ⊢
  rw [List.take_succ_eq_append_getElem hl, he, List.all_append, h]
  simp [hi]
/-- The greatest number that divides all. -/
def gcdF (ds : List Int) : Int := ds.foldl gcdI 0
end Go.Proofs.Ytghkpmafocacoaa

namespace Go.Proofs.Ytghkpmafocacoaa
set_option maxRecDepth 100000
set_option linter.unusedVariables false
open Go.RowKit
/-- What the weights of a statement have in common. -/
def com (s : St) : Int := gcdF [s.u, s.v, s.x]
/-- Which kinds may be the first one of a change, and which the second one (6: none). -/
def may1 (c k : Int) : Bool := if c = 0 then decide (k ≤ 5) else if c = 1 then k == 2 || k == 4 else if c = 2 then decide (k ≤ 3) else if c = 3 then decide (2 ≤ k) && decide (k ≤ 5) else k == 0
def may2 (c k : Int) : Bool := if c = 0 then decide (k ≤ 5) else if c = 1 then k == 4 else if c = 2 then decide (k ≤ 3) else if c = 3 then true else k == 3 || k == 5
def kindO : Option St → Int
  | none => 6
  | some b => b.k
/-- Nothing hangs on which of two that set x, y and read rx, ry is first. -/
def swapB (x rx y ry : Int) : Bool := (bits .and .i64 (bitN x) (bits .or .i64 (bitN y) ry) == 0) && (bits .and .i64 (bitN y) rx == 0)
def swapOk (a b : St) : Bool := swapB a.sets a.reads b.sets b.reads
def fitR (c : Int) (a b : St) : Bool :=
  if c = 1 then a.a == b.a && wOk (a.u * b.u) (a.v * b.v) (a.x * b.x)
  else if c = 2 then a.a == b.a && (bits .and .i64 b.reads (bitN a.a) == 0)
  else if c = 4 then a.b == -1 && a.a == b.b
  else swapOk a b
def fitB (c : Int) (a : St) (ob : Option St) : Bool := if c = 3 then decide (1 < com a) else match ob with
  | none => false
  | some b => fitR c a b
def fits (c : Int) (a : St) (ob : Option St) : Bool := may1 c a.k && may2 c (kindO ob) && fitB c a ob
def setW (a : St) (u v x : Int) : St := ⟨a.k, a.a, a.b, a.c, u, v, x⟩
def scaled (a : St) : St := setW a (a.u / com a) (a.v / com a) (a.x / com a)
def folded (a b : St) : St := setW a (a.u * b.u) (a.v * b.v) (a.x * b.x)
def moved (b : St) (n : Int) : St := ⟨if b.k = 5 then 4 else 2, b.a, 0, 0, b.wgt (n % 3), b.wgt ((1 + n) % 3), b.wgt ((2 + n) % 3)⟩
/-- What stands in a window behind a change. -/
def chg (c : Int) (a : St) : Option St → List St
  | none => [scaled a]
  | some b => if c = 0 then [b, a] else if c = 1 then [folded a b] else if c = 2 then [b] else if c = 3 then [scaled a, b] else [a, moved b a.c]
theorem plain_iff {ps : List St} : plainOk ps = true ↔ ps.length ≤ 10 ∧ ∀ s ∈ ps, s.ok = true ∧ s.k < 6 := by
  unfold plainOk
  rw [Bool.and_eq_true, List.all_eq_true]
  constructor
  · rintro ⟨h1, h2⟩
    obtain ⟨os, ho⟩ := Option.isSome_iff_exists.1 h1
    obtain ⟨h3, _, h4, _⟩ := unrolled_ok ho
    exact ⟨h4, fun s hs => ⟨List.all_eq_true.1 h3 s hs, of_decide_eq_true (h2 s hs)⟩⟩
  · rintro ⟨h1, h2⟩
    have h3 : unrolled ps = some ps := unrolled_yes h1 (List.all_eq_true.2 fun s hs => (h2 s hs).1) (unr_self ps fun s hs => by
      have := (h2 s hs).2
      unfold St.notLoop
      simp; omega) (by omega)
    exact ⟨by rw [h3]; rfl, fun s hs => decide_eq_true (h2 s hs).2⟩
theorem plain_self {ps : List St} (h : plainOk ps = true) : unrolled ps = some ps := by
  obtain ⟨h1, h2⟩ := plain_iff.1 h
  exact unrolled_yes h1 (List.all_eq_true.2 fun s hs => (h2 s hs).1) (unr_self ps fun s hs => by
      have := (h2 s hs).2
      unfold St.notLoop
      simp; omega) (by omega)
theorem sets_bd (s : St) (h : s.ok = true) : -1 ≤ s.sets ∧ s.sets ≤ 3 := by
  unfold St.sets
  have := ok_rng (k := s.k) (a := s.a) (b := s.b) (c := s.c) (u := s.u) (v := s.v) (x := s.x) h
  split <;> omega
end Go.Proofs.Ytghkpmafocacoaa

namespace Go.Proofs.Ytghkpmafocacoaa
set_option maxRecDepth 100000
set_option linter.unusedVariables false
open Go.RowKit
/-- The first k values' bytes lie in a row of cells. -/
def BFill (cs : Array Value) (ds : List Int) (n k : Nat) : Prop := cs.size = n ∧ ∀ i d, i < k → ds[i]? = some d → cs[i]? = some (.int .u8 (48 + d))
theorem BFill.step {cs : Array Value} {ds : List Int} {n k : Nat} {d : Int} (h : BFill cs ds n k) (hd : ds[k]? = some d) (hk : k < n) : BFill (cs.setIfInBounds k (.int .u8 (48 + d))) ds n (k + 1) := by
  refine ⟨by simpa using h.1, fun i e hi he => ?_⟩
  by_cases hik : i = k
  · subst hik
    obtain rfl : d = e := Option.some.inj (hd.symm.trans he)
    have := h.1
    rw [Array.getElem?_setIfInBounds, if_pos rfl, if_pos (by omega)]
  · rw [Array.getElem?_setIfInBounds, if_neg (by omega)]
    exact h.2 i e (by omega) he
end Go.Proofs.Ytghkpmafocacoaa
namespace Go.Proofs.Ytghkpmafocacoaa
set_option maxRecDepth 100000
set_option linter.unusedVariables false
open Go.RowKit
end Go.Proofs.Ytghkpmafocacoaa
namespace Go.Proofs.Ytghkpmafocacoaa
set_option maxRecDepth 100000
set_option linter.unusedVariables false
end Go.Proofs.Ytghkpmafocacoaa

namespace Go.Proofs.Ytghkpmafocacoaa
set_option maxRecDepth 100000
set_option linter.unusedVariables false
open Go.RowKit
/-- What holds of a tracer's row, stack and run. -/
structure Inv (os : List St) (row : List Int) (stk : List Rn) (now : Rn) : Prop where
  len : row.length = stk.length
  fit : now.fit
  val : ∀ d ∈ row, 0 ≤ d ∧ d ≤ 2
  at_ : ∀ (j : Nat) (r : Rn), stk[j]? = some r → r.fit ∧ r.wt ≠ 0 ∧ j ≤ r.pos ∧ ∃ s, os[r.pos]? = some s ∧ s.draws = true ∧ s.ok = true
  pos : row.length ≤ now.pos
theorem Inv.start (os : List St) : Inv os [] [] ⟨0, 0, 1⟩ := ⟨rfl, Rn.fit_start, fun d h => by simp at h, fun j r h => by simp at h, Nat.zero_le _⟩
theorem step_pos (s : St) (r : Rn) (x : Int) : r.pos + 1 ≤ (Rn.step s r x).pos := by
  show r.pos + 1 ≤ r.pos + 1 + s.jump r.st
  omega
theorem Inv.own {os : List St} {row : List Int} {stk : List Rn} {now : Rn} {s : St} (h : Inv os row stk now) (hok : s.ok = true) : Inv os row stk (Rn.step s now 0) :=
  ⟨h.len, h.fit.step hok (by decide), h.val, h.at_, Nat.le_trans h.pos (by have := step_pos s now 0; omega)⟩
theorem Inv.draw {os : List St} {row : List Int} {stk : List Rn} {now : Rn} {s : St} (h : Inv os row stk now) (hs : os[now.pos]? = some s) (hok : s.ok = true) (hd : s.draws = true) (hw : now.wt ≠ 0) : Inv os (row ++ [0]) (stk ++ [now]) (Rn.step s now 0) := by
  refine ⟨by simp [h.len], h.fit.step hok (by decide), fun d hd' => ?_, fun j r hr => ?_, ?_⟩
  · rcases List.mem_append.1 hd' with hd' | hd'
    · exact h.val d hd'
    · rw [List.mem_singleton] at hd'
      subst hd'
      decide
  · by_cases hj : j < stk.length
    · rw [List.getElem?_append_left hj] at hr
      exact h.at_ j r hr
    · rw [List.getElem?_append_right (by omega)] at hr
      have hj0 : j - stk.length = 0 := by
        have := (List.getElem?_eq_some_iff.1 hr).1
        simp at this; omega
      rw [hj0] at hr
      have hr' : now = r := by simpa using hr
      subst hr'
      refine ⟨h.fit, hw, ?_, s, hs, hd, hok⟩
      have := h.pos
      have := h.len
      omega
  · have h1 := step_pos s now 0
    have h2 := h.pos
    rw [List.length_append, List.length_singleton]
    omega
theorem Inv.up {os : List St} {row : List Int} {stk : List Rn} {now r : Rn} {s : St} {j : Nat} {d : Int} (h : Inv os row stk now) (hd : row[j]? = some d) (hd1 : d ≤ 1) (hr : stk[j]? = some r) (hs : os[r.pos]? = some s) :
    Inv os (row.take j ++ [d + 1]) (stk.take (j + 1)) (Rn.step s r (d + 1)) := by
  have hl := (List.getElem?_eq_some_iff.1 hd).1
  have hl2 := (List.getElem?_eq_some_iff.1 hr).1
  obtain ⟨hf, hw, hp, s', hs', hdr, hok⟩ := h.at_ j r hr
  obtain rfl : s' = s := Option.some.inj (hs'.symm.trans hs)
  have hdv := h.val d (List.mem_of_getElem? hd)
  refine ⟨by simp; omega, hf.step hok (by omega), fun x hx => ?_, fun i q hq => ?_, ?_⟩
  · rcases List.mem_append.1 hx with hx | hx
    · exact h.val x (List.mem_of_mem_take hx)
    · rw [List.mem_singleton] at hx
      subst hx
      omega
  · rw [List.getElem?_take] at hq
    split at hq
    · exact h.at_ i q hq
    · cases hq
  · have h1 := step_pos s' r (d + 1)
    rw [List.length_append, List.length_singleton, List.length_take]
    omega
/-- The cells of runs, one behind the other. -/
def Rn.cells (r : Rn) : List Value := [.int .i64 r.pos, .int .i64 r.st, .int .i64 r.wt]
def rnflat (rs : List Rn) : List Value := rs.flatMap Rn.cells
theorem rnflat_append (a b : List Rn) : rnflat (a ++ b) = rnflat a ++ rnflat b := List.flatMap_append
/-- The blocks that a tracer may turn. -/
def TrB (g : Nat) (vr vs : Value) (i : Nat) : Prop := i = g ∨ vr.ownBlock = some i ∨ vs.ownBlock = some i
/-- How a step of a tracer leaves memory. -/
def Trd (w w' : World) (g : Nat) (vr vs vr' vs' : Value) : Prop :=
  KeptBut w w' (TrB g vr vs) ∧ (∀ k, vr'.ownBlock = some k → vr.ownBlock = some k ∨ w.heap.size ≤ k) ∧ (∀ k, vs'.ownBlock = some k → vs.ownBlock = some k ∨ w.heap.size ≤ k)
theorem Trd.trans {a b c : World} {g : Nat} {vr vs vr' vs' vr2 vs2 : Value} (h : Trd a b g vr vs vr' vs') (k : Trd b c g vr' vs' vr2 vs2) : Trd a c g vr vs vr2 vs2 := by
  have hz := h.1.size
  refine ⟨KeptBut.trans h.1 k.1 (fun i hi e => ?_), fun i hi => ?_, fun i hi => ?_⟩
  · rcases e with e | e | e
    · exact .inl e
    · rcases h.2.1 i e with e' | e'
      · exact .inr (.inl e')
      · omega
    · rcases h.2.2 i e with e' | e'
      · exact .inr (.inr e')
      · omega
  · rcases k.2.1 i hi with e | e
    · exact h.2.1 i e
    · exact .inr (by omega)
  · rcases k.2.2 i hi with e | e
    · exact h.2.2 i e
    · exact .inr (by omega)
end Go.Proofs.Ytghkpmafocacoaa
namespace Go.Proofs.Ytghkpmafocacoaa
set_option maxRecDepth 100000
set_option linter.unusedVariables false
open Go.RowKit
theorem tty_c : (3 : TypeId) ≠ 154 := by decide
theorem Trd.below {w0 w w' : World} {g : Nat} {vr0 vs0 vr vs : Value} (h : Trd w0 w g vr0 vs0 vr vs) (hb : Below w.heap.size w w') : Trd w0 w' g vr0 vs0 vr vs :=
  ⟨KeptBut.trans h.1 (KeptBut.of_below hb (fun _ => False)) (fun _ _ e => e.elim), h.2.1, h.2.2⟩
theorem Trd.put {w0 w : World} {g : Nat} {vr0 vs0 vr vs : Value} (h : Trd w0 w g vr0 vs0 vr vs) (i : Nat) (u : Value) : Trd w0 (w.setCell ⟨g, i, none⟩ u) g vr0 vs0 vr vs :=
  ⟨h.1.put (fun _ => .inl rfl) u, h.2.1, h.2.2⟩
theorem new_run (w : World) (r : Rn) : ∀ j u, r.cells[j]? = some u → (w.alloc (.cells #[.int .i64 r.pos, .int .i64 r.st, .int .i64 r.wt] 154)).cell? ((⟨w.heap.size, 0, none⟩ : Addr).add j) = some u := by
  intro j u hu
  have hc := (Has.new w 154 #[.int .i64 r.pos, .int .i64 r.st, .int .i64 r.wt]).cell j
  have e : ((⟨w.heap.size, 0, none⟩ : Addr).add j) = ⟨w.heap.size, j, none⟩ := by
    unfold Addr.add
    split
    · (rename_i h0; simp at h0 ⊢; try omega)
    · (simp; try omega)
  rw [e, hc]
  simpa [Rn.cells] using hu
theorem info_run : (Try.prog.info? 154).map (fun i => (i.zero, i.size, i.bytes)) = some (some (.agg #[.int .i64 0, .int .i64 0, .int .i64 0]), 3, 24) := by kernel_rfl
theorem grown_but_d {w w' : World} {o : Obj} {row : Option Nat} (h : (w.alloc o).drew.grownBy w' row) : KeptBut w w' (fun i => row = some i) :=
  KeptBut.trans (KeptBut.alloc (KeptBut.refl w (fun i => row = some i)) o) ⟨h.os, h.tape, h.output, h.size, fun i hi hn => h.block i hi (fun e => hn e.symm)⟩ (fun _ _ e => e)
theorem owns_open {w : World} {base size n c : Nat} {e : TypeId} {A : Option Addr} {xs : List Value} (h : w.ownsRow base e size (.slice A n c) n xs) (hn : 0 < n) :
    ∃ b cur, A = some ⟨b, 0, none⟩ ∧ base ≤ b ∧ Has w b e cur ∧ n ≤ c ∧ c ≤ maxLen ∧ n * size ≤ cur.size ∧ ∀ i, i < n * size → w.cell? ⟨b, i, none⟩ = xs[i]? := by
  rcases h.2 with ⟨hv, h0⟩ | ⟨b, cap, cur, hv, hg, hh, h1, h2, h3, h4⟩
  · omega
  · injection hv with e1 _ e3
    subst e1 e3
    have hcs : n * size ≤ cur.size := by rw [h3]; exact Nat.mul_le_mul_right _ h1
    refine ⟨b, cur, rfl, hg, hh, h1, h2, hcs, fun i hi => ?_⟩
    rw [cell_of_row w b i cur e (0, 0) hh, ← h4, List.getElem?_take, if_pos hi]
    simp
theorem owns_set {w : World} {base n c b j : Nat} {ds : List Int} {x : Int} (h : w.ownsRow base 3 1 (.slice (some ⟨b, 0, none⟩) n c) n (ints ds)) (hj : j < n) : (w.setCell ⟨b, j, none⟩ (.int .i64 x)).ownsRow base 3 1 (.slice (some ⟨b, 0, none⟩) n c) n (ints (ds.set j x)) := by
  have hl : ds.length = n := by have := h.1; rw [ints_length] at this; omega
  refine ⟨by rw [ints_length, List.length_set]; omega, ?_⟩
  rcases h.2 with ⟨hv, h0'⟩ | ⟨b', cap, cur, hv, hg, hh, h1, h2, h3, h4⟩
  · omega
  · injection hv with e1 _ e3
    injection e1 with e1
    injection e1 with e1 _ _
    subst e1 e3
    refine .inr ⟨b, c, cur.setIfInBounds j (.int .i64 x), rfl, hg, Has.put (t := 3) hh j _, h1, h2, by simpa using h3, ?_⟩
    rw [Array.toList_setIfInBounds, List.take_set, h4]
    unfold ints
    rw [List.map_set]
theorem take_set (ds : List Int) (j : Nat) (x : Int) (hj : j < ds.length) : (ds.take (j + 1)).set j x = ds.take j ++ [x] := by
  rw [List.take_succ_eq_append_getElem hj, List.set_append_right _ _ (by rw [List.length_take]; omega)]
  rw [List.length_take, Nat.min_eq_left (by omega), Nat.sub_self]
  rfl
theorem rnflat_at : ∀ {rs : List Rn} {i q : Nat} {r : Rn} {u : Value}, rs[i]? = some r → r.cells[q]? = some u → (rnflat rs)[i * 3 + q]? = some u
  | [], i, q, r, u, h, _ => by simp at h
  | s :: rs, 0, q, r, u, h, hu => by
    have hq : s = r := by simpa using h
    subst hq
    have hl : q < 3 := by have := (List.getElem?_eq_some_iff.1 hu).1; simpa [Rn.cells] using this
    have e : rnflat (s :: rs) = s.cells ++ rnflat rs := rfl
    rw [e, Nat.zero_mul, Nat.zero_add, List.getElem?_append_left (by simpa [Rn.cells] using hl)]
    exact hu
  | s :: rs, i + 1, q, r, u, h, hu => by
    have e : rnflat (s :: rs) = s.cells ++ rnflat rs := rfl
    rw [e, List.getElem?_append_right (by simp [Rn.cells]; omega)]
    have : (i + 1) * 3 + q - s.cells.length = i * 3 + q := by simp [Rn.cells]; omega
    rw [this]
    exact rnflat_at (by simpa using h) hu
end Go.Proofs.Ytghkpmafocacoaa

namespace Go.Proofs.Ytghkpmafocacoaa
set_option maxRecDepth 100000
set_option linter.unusedVariables false
open Go.RowKit
theorem numbersOk_any (A : Option Addr) (n c : Nat) (ds : List Int) (m : Int) (w : World) (h : Ils w w.heap.size A n ds) (hn : n ≤ maxLen) :
    Calls Try.prog 110 #[.slice A n c, .int .i64 m] w fun e w' => e = .returned (.bool (numsOk m ds)) ∧ Below w.heap.size w w' := by
  have hI := Lib.hid h
  have hT := Lib.hid (show ds.take n = ds from List.take_of_length_le (by rw [h.1]; exact Nat.le_refl _))
  have hn9 : n ≤ 9223372036854775807 := by unfold maxLen at hn; omega
  have cW := Lib.hid (fun d wx => within_any d 0 m wx)
  clear h hn
  go_enter Try.func110, Try.ntmps110
  go_wp2_with fail
  go_loopg [9] n (fun gn v wr => ∃ k : Nat, k ≤ n ∧ gn = n - k ∧ v = .int .i64 k ∧ numsOk m (ds.take k) = true ∧ Below w.heap.size w wr)
  case atStart => exact ⟨0, Nat.zero_le _, rfl, rfl, rfl, Below.refl _ _⟩
  case round =>
    obtain ⟨k, hk, hgn, rfl, hok, hB⟩ := hrel
    have hgk : gk = n - k := hgn
    have hB' := Lib.hid hB
    have hOk := Lib.hid hok
    clear hgn hok
    by_cases hlt : k < n
    · obtain ⟨g, off, d, rfl, hg, hd, c0⟩ := (hI.out.below hB).at_ hlt
      have hk0 : (0 : Int) ≤ (k : Int) := by omega
      have hk1 : (k : Int) < (n : Int) := by omega
      have hD := Lib.hid hd
      clear hB hd
      cases hin : inB d 0 m
      · have hR := Lib.hid (numsOk_no hD.out hin)
        go_wp2_with fail
        refine (cW.out d _).mono ?_
        rw [hin]
        rintro e w2 ⟨rfl, rfl⟩
        go_wp2_with fail
        go_ret
        exact ⟨ret_bool hR.out, hB'.out⟩
      · have hR := Lib.hid (numsOk_step hOk.out hD.out hin)
        go_wp2_with fail
        refine (cW.out d _).mono ?_
        rw [hin]
        rintro e w2 ⟨rfl, rfl⟩
        go_wp2_with fail
        go_roundg (n - (k + 1))
        case measure => omega
        case rel => exact ⟨k + 1, by omega, rfl, by go_num, hR.out, hB'.out⟩
    · obtain rfl : k = n := by omega
      have hR := Lib.hid (show numsOk m ds = true by rw [← hOk.out, hT.out])
      clear hB hOk
      go_wp2_with fail
      go_ret
      exact ⟨ret_bool hR.out, hB'.out⟩
end Go.Proofs.Ytghkpmafocacoaa

namespace Go.Proofs.Ytghkpmafocacoaa
set_option maxRecDepth 100000
set_option linter.unusedVariables false
open Go.RowKit
theorem Has.newAt {w : World} {n : Nat} {t : TypeId} {cs : Array Value} (h : w.heap.size = n) : Has (w.alloc (.cells cs t)) n t cs := h ▸ Has.new w t cs
end Go.Proofs.Ytghkpmafocacoaa

namespace Go.Proofs.Ytghkpmafocacoaa
set_option maxRecDepth 100000
set_option linter.unusedVariables false
open Go.RowKit
/-- What a statement reads or sets. -/
def touch (s : St) : Int := if 0 ≤ s.sets then bits .or .i64 s.reads (bitN s.sets) else s.reads
theorem shl_bit : ∀ x : Fin 4, wrap64 (2 ^ ((x : Int)).toNat) = bitN x := by decide +kernel
theorem l6Touch_any (s : St) (w : World) (h : s.ok = true) :
    Calls Try.prog 159 #[.agg #[.int .i64 s.k, .int .i64 s.a, .int .i64 s.b, .int .i64 s.c, .int .i64 s.u, .int .i64 s.v, .int .i64 s.x]] w fun e w' => e = .returned (.int .i64 (touch s)) ∧ Below w.heap.size w w' := by
  have hsb := sets_bd s h
  have hrb := reads_bd s
  have cR : Hid (∀ wx : World, Calls Try.prog 178 #[.agg #[.int .i64 s.k, .int .i64 s.a, .int .i64 s.b, .int .i64 s.c, .int .i64 s.u, .int .i64 s.v, .int .i64 s.x]] wx fun e w' => e = .returned (.int .i64 s.reads) ∧ Below wx.heap.size wx w') := Lib.hid (fun wx => specStmtReads_any s.k s.a s.b s.c s.u s.v s.x wx)
  have cS : Hid (∀ wx : World, Calls Try.prog 158 #[.agg #[.int .i64 s.k, .int .i64 s.a, .int .i64 s.b, .int .i64 s.c, .int .i64 s.u, .int .i64 s.v, .int .i64 s.x]] wx fun e w' => e = .returned (.int .i64 s.sets) ∧ Below wx.heap.size wx w') := Lib.hid (fun wx => specStmtSets_any s.k s.a s.b s.c s.u s.v s.x wx)
  have h1 := Has.new w 116 #[.int .i64 s.k, .int .i64 s.a, .int .i64 s.b, .int .i64 s.c, .int .i64 s.u, .int .i64 s.v, .int .i64 s.x]
  have hH := Lib.hid h1
  have hB := Lib.hid (show Below w.heap.size w (w.alloc (.cells #[.int .i64 s.k, .int .i64 s.a, .int .i64 s.b, .int .i64 s.c, .int .i64 s.u, .int .i64 s.v, .int .i64 s.x] 116)) from (Below.refl _ _).alloc (Nat.le_refl _) _)
  clear h1 h
  go_enter Try.func159, Try.ntmps159
  go_wp2_with fail
  refine (cR.out _).mono ?_
  rintro e w1 ⟨rfl, hb1⟩
  have hH1 := Lib.hid (hH.out.kept hb1)
  have hB1 := Lib.hid (hB.out.trans (hb1.mono (by simp)))
  have hcs := hH1.out.cell
  have hz1 := hb1.size
  clear hb1
  go_wp2_with fail
  refine (cS.out _).mono ?_
  rintro e w2 ⟨rfl, hb2⟩
  have hH2 := Lib.hid (hH1.out.kept hb2)
  have hB2 := Lib.hid (hB1.out.trans (hb2.mono (by simp at hz1; omega)))
  clear hcs
  have hcs := hH2.out.cell
  have hz2 := hb2.size
  clear hb2
  by_cases hs : 0 ≤ s.sets
  · have hT := Lib.hid (show touch s = bits .or .i64 s.reads (bitN s.sets) from if_pos hs)
    have hsh := Lib.hid (show wrap64 (2 ^ s.sets.toNat) = bitN s.sets from by
      have := shl_bit ⟨s.sets.toNat, by omega⟩
      dsimp only at this
      rwa [Int.toNat_of_nonneg hs] at this)
    go_wp2_with fail
    refine (cS.out _).mono ?_
    rintro e w3 ⟨rfl, hb3⟩
    have hB3 := Lib.hid (hB2.out.trans (hb3.mono (by simp at hz1; omega)))
    clear hb3
    go_wp2_with fail
    go_ret
    exact ⟨ret_int (by rw [hT.out, ← hsh.out]), hB3.out⟩
  · have hT := Lib.hid (show touch s = s.reads from if_neg hs)
    go_wp2_with fail
    go_ret
    exact ⟨ret_int hT.out, hB2.out⟩
end Go.Proofs.Ytghkpmafocacoaa
namespace Go.Proofs.Ytghkpmafocacoaa
set_option maxRecDepth 100000
set_option linter.unusedVariables false
open Go.RowKit
end Go.Proofs.Ytghkpmafocacoaa

namespace Go.Proofs.Ytghkpmafocacoaa
set_option maxRecDepth 100000
set_option linter.unusedVariables false
open Go.RowKit
section
variable {P : Program} {ops : Array Oper} {Q : Exit → Act → World → Prop} {md : Region.Mode}
def openOps (listed : Array Bool) : Nat := (listed.toList.filter fun b => !b).length
theorem open_list : ∀ (l : List Bool) (i : Nat), l[i]? = some false → ((l.set i true).filter fun b => !b).length + 1 = (l.filter fun b => !b).length
  | [], i, h => by simp at h
  | b :: l, 0, h => by
    have e : b = false := by simpa using h
    subst e
    simp
  | b :: l, i + 1, h => by
    have ih := open_list l i (by simpa using h)
    cases b <;> simp <;> omega
theorem open_set {listed : Array Bool} {i : Nat} (h : listed[i]? = some false) : openOps (listed.setIfInBounds i true) + 1 = openOps listed := by
  unfold openOps
  rw [Array.toList_setIfInBounds]
  exact open_list _ _ (by simpa using h)
theorem getD_false {listed : Array Bool} {i : Nat} (h : listed.getD i true = false) : listed[i]? = some false := by
  rw [Array.getD_eq_getD_getElem?] at h
  cases he : listed[i]? with
  | none => rw [he] at h; cases h
  | some b => rw [he] at h; simp at h; rw [h]
theorem open_none {listed : Array Bool} (h : openOps listed = 0) {i : Nat} : listed[i]? ≠ some false := fun e => by
  have := open_set e
  omega
/-- A REGION THAT DRAWS ITS ORDER, by what holds of what is listed: one proof for each operation. -/
theorem wpAny_inv {I : Array Bool → Act → World → Prop} (hs : ∀ listed a w, I listed a w → ∀ i ∈ Region.ready md ops listed, wpOp P ops Q i (I (listed.setIfInBounds i true)) a w)
    (he : ∀ listed a w, I listed a w → Region.ready md ops listed = [] → Q .normal a w) : ∀ (fuel : Nat) (listed : Array Bool) (a : Act) (w : World), I listed a w → openOps listed ≤ fuel → wpAny P md ops Q fuel listed a w
  | 0, listed, a, w, h, hf => by
    have hr : Region.ready md ops listed = [] := by
      apply List.eq_nil_iff_forall_not_mem.2
      intro i hi
      exact open_none (by omega) (getD_false (mem_ready.1 hi).1)
    exact ⟨hr, he listed a w h hr⟩
  | fuel + 1, listed, a, w, h, hf => by
    refine ⟨fun hr => he listed a w h hr, fun i hi => wpOp_mono (fun a' w' h' => ?_) (hs listed a w h i hi)⟩
    have := open_set (getD_false (mem_ready.1 hi).1)
    exact wpAny_inv hs he fuel _ a' w' h' (by omega)
/-- Where nothing is ready, all is listed. -/
theorem ready_done {listed : Array Bool} (hz : listed.size = ops.size) (hlt : (List.range ops.size).all (fun k => ((ops[k]?).map fun o => o.after.all fun e => decide (e.on < k)).getD true) = true) (hr : Region.ready md ops listed = []) :
    ∀ k, k < ops.size → listed.getD k false = true := by
  intro k
  induction k using Nat.strongRecOn with
  | _ k ih =>
    intro hk
    apply Classical.byContradiction
    intro h0
    have hkl : k < listed.size := by omega
    have hb : listed[k]? = some false := by
      rw [Array.getElem?_eq_getElem hkl]
      rw [Array.getD_eq_getD_getElem?, Array.getElem?_eq_getElem hkl] at h0
      simp at h0
      rw [h0]
    have hm : k ∈ Region.ready md ops listed := by
      refine mem_ready.2 ⟨by rw [Array.getD_eq_getD_getElem?, hb]; rfl, ops[k], Array.getElem?_eq_getElem hk, fun e he _ => ?_⟩
      have h1 := List.all_eq_true.1 hlt k (List.mem_range.2 hk)
      rw [Array.getElem?_eq_getElem hk] at h1
      have h2 : ops[k].after.all (fun e => decide (e.on < k)) = true := h1
      have h3 := Array.all_eq_true_iff_forall_mem.1 h2 e he
      have h4 : e.on < k := by simpa using h3
      exact ih e.on h4 (by omega)
    rw [hr] at hm
    cases hm
theorem listed_ne {listed : Array Bool} {i k : Nat} (hk : i ≠ k) (e : (listed.setIfInBounds i true).getD k false = true) : listed.getD k false = true := by
  rwa [getD_set_ne false hk] at e
end
/-- All blocks that are known are as they were. -/
def Kp (w w' : World) : Prop := ∀ b t cs, Has w b t cs → Has w' b t cs
theorem Kp.alloc (w : World) (o : Obj) : Kp w (w.alloc o) := fun _ _ _ h => h.alloc o
theorem Kp.below {w w' : World} (h : Below w.heap.size w w') : Kp w w' := fun _ _ _ k => k.kept h
end Go.Proofs.Ytghkpmafocacoaa

namespace Go.Proofs.Ytghkpmafocacoaa
open Go.RowKit Region
section
variable {P : Program} {ops : Array Oper} {Q : Exit → Act → World → Prop} {md : Region.Mode}
/-- What is listed has all that it needs listed. -/
def Clsd (md : Region.Mode) (ops : Array Oper) (listed : Array Bool) : Prop := ∀ k o, ops[k]? = some o → listed.getD k false = true → ∀ e ∈ o.after, Region.binds md e = true → listed.getD e.on false = true
/-- All but the last one are needed by a later one. -/
def feeds (md : Region.Mode) (ops : Array Oper) : Bool := (List.range (ops.size - 1)).all fun k => (List.range ops.size).any fun j => decide (k < j) && ((ops[j]?).map fun o => o.after.any fun e => Region.binds md e && decide (e.on = k)).getD false
theorem set_true_getD {listed : Array Bool} {i k : Nat} (h : (listed.setIfInBounds i true).getD k false = true) : k = i ∨ listed.getD k false = true := by
  by_cases hk : i = k
  · exact .inl hk.symm
  · exact .inr (listed_ne hk h)
theorem clsd_set {listed : Array Bool} {i : Nat} (h : Clsd md ops listed) (hi : i ∈ Region.ready md ops listed) : Clsd md ops (listed.setIfInBounds i true) := by
  intro k o ho hk e he hb
  obtain ⟨_, o', ho', hd⟩ := mem_ready.1 hi
  rcases set_true_getD hk with rfl | hk'
  · rw [ho] at ho'
    injection ho' with ho'
    subst ho'
    exact getD_set_true (hd e he hb)
  · exact getD_set_true (h k o ho hk' e he hb)
theorem feeds_all {listed : Array Bool} {n : Nat} (hn : ops.size = n + 1) (hf : feeds md ops = true) (hc : Clsd md ops listed) (hl : ∀ o, ops[n]? = some o → ∀ e ∈ o.after, Region.binds md e = true → listed.getD e.on false = true) : ∀ d k, n ≤ k + d → k < n → listed.getD k false = true
  | 0, k, h1, h2 => by omega
  | d + 1, k, h1, h2 => by
    have h3 := List.all_eq_true.1 hf k (List.mem_range.2 (by omega))
    obtain ⟨j, hj, h4⟩ := List.any_eq_true.1 h3
    rw [Bool.and_eq_true] at h4
    have hjn := List.mem_range.1 hj
    have hkj := of_decide_eq_true h4.1
    obtain ⟨o, ho⟩ : ∃ o, ops[j]? = some o := ⟨_, Array.getElem?_eq_getElem hjn⟩
    have h5 := h4.2
    rw [ho] at h5
    have h6 : (o.after.any fun e => Region.binds md e && decide (e.on = k)) = true := h5
    obtain ⟨e, he, h7⟩ : ∃ e ∈ o.after, (Region.binds md e && decide (e.on = k)) = true := by
      rw [← Array.any_toList] at h6
      obtain ⟨e, he, h7⟩ := List.any_eq_true.1 h6
      exact ⟨e, Array.mem_toList_iff.1 he, h7⟩
    rw [Bool.and_eq_true] at h7
    have hk := of_decide_eq_true h7.2
    rw [← hk]
    by_cases hjl : j = n
    · subst hjl
      exact hl o ho e he h7.1
    · exact hc j o ho (feeds_all hn hf hc hl d j (by omega) (by omega)) e he h7.1
theorem wpAny_last {I : Array Bool → Act → World → Prop} {n : Nat} (hn : ops.size = n + 1) (hf : feeds md ops = true)
    (hlt : (List.range ops.size).all (fun k => ((ops[k]?).map fun o => o.after.all fun e => decide (e.on < k)).getD true) = true)
    (hs : ∀ listed a w, I listed a w → ∀ i, i < n → i ∈ Region.ready md ops listed → wpOp P ops Q i (I (listed.setIfInBounds i true)) a w)
    (hl : ∀ listed a w, I listed a w → (∀ k, k < n → listed.getD k false = true) → wpOp P ops Q n (fun a w => Q .normal a w) a w) (listed : Array Bool) (a : Act) (w : World) (hI : I listed a w) (hz : listed.size = n + 1) (h0 : (List.range (n + 1)).all (fun k => !listed.getD k true) = true) (fuel : Nat) (hfu : openOps listed ≤ fuel) : wpAny P md ops Q fuel listed a w := by
  have hfalse : ∀ k, k < n + 1 → listed.getD k false = false := fun k hk => by
    have := List.all_eq_true.1 h0 k (List.mem_range.2 hk)
    rw [Array.getD_eq_getD_getElem?, Array.getElem?_eq_getElem (by omega)] at this ⊢
    simpa using this
  refine wpAny_inv (I := fun li a w => (li.size = n + 1 ∧ li.getD n false = false ∧ Clsd md ops li ∧ I li a w) ∨ ((∀ k, k < n + 1 → li.getD k true = true) ∧ Q .normal a w)) ?_ ?_ fuel listed a w (.inl ⟨hz, hfalse n (by omega), ?_, hI⟩) hfu
  · rintro li a w (⟨hz, hno, hc, hI⟩ | ⟨hall, hq⟩) i hi
    · obtain ⟨h0, o, ho, hd⟩ := mem_ready.1 hi
      have hin : i < n + 1 := by
        have := (Array.getElem?_eq_some_iff.1 ho).1
        omega
      by_cases hil : i = n
      · subst hil
        have hA := feeds_all hn hf hc (fun o' ho' => by
          rw [ho] at ho'
          injection ho' with ho'
          subst ho'
          exact hd) i
        have hB := fun k (hk : k < i) => hA k (by omega) hk
        refine wpOp_mono (fun a' w' h' => .inr ⟨fun k hk => ?_, h'⟩) (hl li a w hI hB)
        by_cases hki : k = i
        · subst hki
          rw [Array.getD_eq_getD_getElem?, Array.getElem?_setIfInBounds_self_of_lt (by omega)]
          rfl
        · have h1 := getD_set_true (i := i) (hB k (by omega))
          rw [Array.getD_eq_getD_getElem?, Array.getElem?_eq_getElem (by simp; omega)] at h1 ⊢
          exact h1
      · refine wpOp_mono (fun a' w' h' => .inl ⟨by simpa using hz, ?_, clsd_set hc hi, h'⟩) (hs li a w hI i (by omega) hi)
        cases hx : (li.setIfInBounds i true).getD n false
        · rfl
        · rw [listed_ne hil hx] at hno
          cases hno
    · obtain ⟨h0, o, ho, hd⟩ := mem_ready.1 hi
      have hin : i < n + 1 := by
        have := (Array.getElem?_eq_some_iff.1 ho).1
        omega
      rw [hall i hin] at h0
      cases h0
  · rintro li a w (⟨hz, hno, hc, hI⟩ | ⟨hall, hq⟩) hr
    · exfalso
      have := ready_done (by omega) hlt hr n (by omega)
      rw [this] at hno
      cases hno
    · exact hq
  · intro k o ho hk
    have hkn : k < n + 1 := by
      have := (Array.getElem?_eq_some_iff.1 ho).1
      omega
    rw [hfalse k hkn] at hk
    cases hk
end
end Go.Proofs.Ytghkpmafocacoaa

namespace Go.Proofs.Ytghkpmafocacoaa
set_option maxRecDepth 100000
set_option linter.unusedVariables false
open Go.RowKit
structure Fac where
  vs : List Int
  ns : List Int
def vAt (vs : List Int) (i : Nat) : Int := vs.getD i 0
def vOkAt (vs : List Int) (i : Nat) : Bool := inB (vAt vs i) 0 3 && (decide (i = 0) || decide (vAt vs (i - 1) < vAt vs i))
def varsOk (vs : List Int) : Bool := (List.range vs.length).all (vOkAt vs)
def facOk (M : Int) (F : Fac) : Bool := varsOk F.vs && (numsOk M F.ns && decide (F.ns.length = 3 ^ F.vs.length))
/-- The index of a number: the first variable changes first. -/
def idx (vs : List Int) (st : Int) : Int := vs.foldr (fun v at_ => 3 * at_ + valueAt st v) 0
def fAt (F : Fac) (st : Int) : Int := F.ns.getD (idx F.vs st).toNat 0
def over (L : Int) : List Int := ((List.range 4).filter fun v => tb L v).map fun (v : Nat) => (v : Int)
def setOf (vs : List Int) : Int := vs.foldl (fun s v => bor s (bitN v)) 0
/-- The state that has the values of an index, and 0 for all other variables. -/
def stF : List Int → Int → Int → Int
  | [], _, x => x
  | v :: r, i, x => stF r (i / 3) (withValue x v (i % 3))
def stOf (vs : List Int) (i : Int) : Int := stF vs i 0
theorem vars_five {vs : List Int} (h : varsOk vs = true) : ∀ i, i < vs.length → (0 ≤ vAt vs i ∧ vAt vs i ≤ 3) ∧ (0 < i → vAt vs (i - 1) < vAt vs i) := fun i hi => by
  have := List.all_eq_true.1 h i (List.mem_range.2 hi)
  unfold vOkAt at this
  rw [Bool.and_eq_true, Bool.or_eq_true] at this
  refine ⟨inB_iff.1 this.1, fun h0 => ?_⟩
  rcases this.2 with h1 | h1
  · have := of_decide_eq_true h1; omega
  · exact of_decide_eq_true h1
/-- Ascending variables are those of their set. -/
theorem vars_over {vs : List Int} (h : varsOk vs = true) : ∃ L : Fin 16, vs = over (L.val : Int) := by
  have hv := vars_five h
  match vs, hv with
  | [], _ => exact ⟨0, by decide⟩
  | [a], hv =>
    have h0 := hv 0 (by simp)
    simp [vAt] at h0
    obtain rfl | rfl | rfl | rfl : a = 0 ∨ a = 1 ∨ a = 2 ∨ a = 3 := by omega
    · exact ⟨1, by decide⟩
    · exact ⟨2, by decide⟩
    · exact ⟨4, by decide⟩
    · exact ⟨8, by decide⟩
  | [a, b], hv =>
    have h0 := hv 0 (by simp)
    have h1 := hv 1 (by simp)
    simp [vAt] at h0 h1
    have : (a = 0 ∧ b = 1) ∨ (a = 0 ∧ b = 2) ∨ (a = 0 ∧ b = 3) ∨ (a = 1 ∧ b = 2) ∨ (a = 1 ∧ b = 3) ∨ (a = 2 ∧ b = 3) := by omega
    obtain ⟨rfl, rfl⟩ | ⟨rfl, rfl⟩ | ⟨rfl, rfl⟩ | ⟨rfl, rfl⟩ | ⟨rfl, rfl⟩ | ⟨rfl, rfl⟩ := this
    · exact ⟨3, by decide⟩
    · exact ⟨5, by decide⟩
    · exact ⟨9, by decide⟩
    · exact ⟨6, by decide⟩
    · exact ⟨10, by decide⟩
    · exact ⟨12, by decide⟩
  | [a, b, c], hv =>
    have h0 := hv 0 (by simp)
    have h1 := hv 1 (by simp)
    have h2 := hv 2 (by simp)
    simp [vAt] at h0 h1 h2
    have : (a = 0 ∧ b = 1 ∧ c = 2) ∨ (a = 0 ∧ b = 1 ∧ c = 3) ∨ (a = 0 ∧ b = 2 ∧ c = 3) ∨ (a = 1 ∧ b = 2 ∧ c = 3) := by omega
    obtain ⟨rfl, rfl, rfl⟩ | ⟨rfl, rfl, rfl⟩ | ⟨rfl, rfl, rfl⟩ | ⟨rfl, rfl, rfl⟩ := this
    · exact ⟨7, by decide⟩
    · exact ⟨11, by decide⟩
    · exact ⟨13, by decide⟩
    · exact ⟨14, by decide⟩
  | [a, b, c, d], hv =>
    have h0 := hv 0 (by simp)
    have h1 := hv 1 (by simp)
    have h2 := hv 2 (by simp)
    have h3 := hv 3 (by simp)
    simp [vAt] at h0 h1 h2 h3
    obtain ⟨rfl, rfl, rfl, rfl⟩ : a = 0 ∧ b = 1 ∧ c = 2 ∧ d = 3 := by omega
    exact ⟨15, by decide⟩
  | a :: b :: c :: d :: e :: r, hv =>
    have h0 := hv 0 (by simp)
    have h1 := hv 1 (by simp)
    have h2 := hv 2 (by simp)
    have h3 := hv 3 (by simp)
    have h4 := hv 4 (by simp)
    simp [vAt] at h0 h1 h2 h3 h4
    omega
theorem over_ok : ∀ L : Fin 16, varsOk (over (L.val : Int)) = true ∧ setOf (over (L.val : Int)) = L.val ∧ (over (L.val : Int)).length ≤ 4 := by decide +kernel
/-- An index and its state, there and back. -/
theorem idx_st : ∀ L : Fin 16, ∀ st : Fin 81, (0 ≤ idx (over (L.val : Int)) (st.val : Int) ∧ idx (over (L.val : Int)) (st.val : Int) < ((3 ^ (over (L.val : Int)).length : Nat) : Int)) ∧
    (0 ≤ stOf (over (L.val : Int)) (idx (over (L.val : Int)) (st.val : Int)) ∧ stOf (over (L.val : Int)) (idx (over (L.val : Int)) (st.val : Int)) ≤ 80) ∧
    ∀ v : Fin 4, tb (L.val : Int) v.val = true → valueAt (stOf (over (L.val : Int)) (idx (over (L.val : Int)) (st.val : Int))) (v.val : Int) = valueAt (st.val : Int) (v.val : Int) := by decide +kernel
theorem st_idx : ∀ L : Fin 16, ∀ i : Fin 81, i.val < 3 ^ (over (L.val : Int)).length → idx (over (L.val : Int)) (stOf (over (L.val : Int)) (i.val : Int)) = i.val ∧ 0 ≤ stOf (over (L.val : Int)) (i.val : Int) ∧ stOf (over (L.val : Int)) (i.val : Int) ≤ 80 := by decide +kernel
theorem fin_of {L : Fin 16} {st : Int} (hs : 0 ≤ st ∧ st ≤ 80) : ∃ q : Fin 81, st = (q.val : Int) := ⟨⟨st.toNat, by omega⟩, by show st = (st.toNat : Int); omega⟩
/-- A list of numbers by the states of a set of variables is a factor with just these numbers. -/
def facBy_ (L : Int) (g : Int → Int) : Fac := ⟨over L, (List.range (3 ^ (over L).length)).map fun (i : Nat) => g (stOf (over L) i)⟩
theorem facBy_at (L : Fin 16) {g : Int → Int} (hg : ∀ a b : Int, 0 ≤ a ∧ a ≤ 80 → 0 ≤ b ∧ b ≤ 80 → (∀ v : Fin 4, tb (L.val : Int) v.val = true → valueAt a (v.val : Int) = valueAt b (v.val : Int)) → g a = g b) {st : Int} (hs : 0 ≤ st ∧ st ≤ 80) : fAt (facBy_ (L.val : Int) g) st = g st := by
  obtain ⟨q, rfl⟩ := fin_of (L := L) hs
  obtain ⟨h1, h2, h3⟩ := idx_st L q
  unfold fAt facBy_
  dsimp only
  rw [List.getD_eq_getElem?_getD, List.getElem?_map, List.getElem?_range (by omega)]
  show g (stOf (over (L.val : Int)) ((idx (over (L.val : Int)) (q.val : Int)).toNat : Int)) = g q.val
  rw [Int.toNat_of_nonneg h1.1]
  exact hg _ _ h2 hs h3
theorem nat_three {v : Int} (hv : 0 ≤ v ∧ v ≤ 3) : ∃ V : Fin 4, v = (V.val : Int) ∧ V.val = v.toNat := ⟨⟨v.toNat, by omega⟩, by show v = (v.toNat : Int); omega, rfl⟩
end Go.Proofs.Ytghkpmafocacoaa

namespace Go.Proofs.Ytghkpmafocacoaa
set_option maxRecDepth 100000
set_option linter.unusedVariables false
open Go.RowKit
end Go.Proofs.Ytghkpmafocacoaa
namespace Go.Proofs.Ytghkpmafocacoaa
set_option maxRecDepth 100000
set_option linter.unusedVariables false
open Go.RowKit
theorem l2Draws_any (s : St) (w : World) :
    Calls Try.prog 118 #[.agg #[.int .i64 s.k, .int .i64 s.a, .int .i64 s.b, .int .i64 s.c, .int .i64 s.u, .int .i64 s.v, .int .i64 s.x]] w fun e w' => e = .returned (.bool s.draws) ∧ Below w.heap.size w w' := by
  cases hd : s.draws
  · obtain ⟨h2, h3⟩ := draws_no hd
    clear hd
    go_enter Try.func118, Try.ntmps118
    go_wp2
    go_ret
    exact ⟨rfl, (Below.refl _ _).alloc (Nat.le_refl _) _⟩
  · rcases draws_yes hd with h2 | ⟨h2, h3⟩
    all_goals
      clear hd
      go_enter Try.func118, Try.ntmps118
      go_wp2
      go_ret
      exact ⟨rfl, (Below.refl _ _).alloc (Nat.le_refl _) _⟩
end Go.Proofs.Ytghkpmafocacoaa

namespace Go.Proofs.Ytghkpmafocacoaa
set_option maxRecDepth 100000
set_option linter.unusedVariables false
open Go.RowKit
theorem setOf_append (vs : List Int) (v : Int) : setOf (vs ++ [v]) = bor (setOf vs) (bitN v) := by unfold setOf; rw [List.foldl_append]; rfl
theorem setOf_take {vs : List Int} {k : Nat} {v : Int} (h : vs[k]? = some v) : setOf (vs.take (k + 1)) = bor (setOf (vs.take k)) (bitN v) := by
  obtain ⟨hl, he⟩ := List.getElem?_eq_some_iff.1 h
  rw [List.take_succ_eq_append_getElem hl, setOf_append, he]
theorem setOf_bd {vs : List Int} (h : ∀ v ∈ vs, 0 ≤ v ∧ v ≤ 3) : ∀ k, 0 ≤ setOf (vs.take k) ∧ setOf (vs.take k) ≤ 15
  | 0 => by rw [List.take_zero]; decide
  | k + 1 => by
    cases hk : vs[k]? with
    | none =>
      have hl := List.getElem?_eq_none_iff.1 hk
      have := setOf_bd h k
      rwa [List.take_of_length_le (by omega)] at this ⊢
    | some v =>
      rw [setOf_take hk]
      exact bor_bd (setOf_bd h k).2 (bitN_le v).2
theorem shl_in {a : Int} (ha : 0 ≤ a ∧ a ≤ 3) : IntKind.i64.wrap (2 ^ a.toNat) = bitN a := by
  obtain ⟨k, rfl, hk⟩ := nat4 ha.1 ha.2
  obtain rfl | rfl | rfl | rfl : k = 0 ∨ k = 1 ∨ k = 2 ∨ k = 3 := by omega
  all_goals decide +kernel
theorem stF_bd : ∀ {vs : List Int}, (∀ v ∈ vs, 0 ≤ v ∧ v ≤ 3) → ∀ {i x : Int}, 0 ≤ i → 0 ≤ x ∧ x ≤ 80 → 0 ≤ stF vs i x ∧ stF vs i x ≤ 80
  | [], _, _, _, _, hx => hx
  | v :: r, h, i, x, hi, hx => stF_bd (fun u hu => h u (List.mem_cons_of_mem v hu)) (by omega) (with_bd hx (h v List.mem_cons_self) (by omega))
theorem idx_bd : ∀ {vs : List Int}, (∀ v ∈ vs, 0 ≤ v ∧ v ≤ 3) → ∀ {st : Int}, 0 ≤ st ∧ st ≤ 80 → 0 ≤ idx vs st ∧ idx vs st < ((3 ^ vs.length : Nat) : Int)
  | [], _, _, _ => by simp [idx]
  | v :: r, h, st, hs => by
    have ih := idx_bd (fun u hu => h u (List.mem_cons_of_mem v hu)) hs
    have hv := value_bd hs (h v List.mem_cons_self)
    have e : idx (v :: r) st = 3 * idx r st + valueAt st v := rfl
    rw [e, List.length_cons, Nat.pow_succ, Int.natCast_mul]
    have h3 : ((3 : Nat) : Int) = 3 := rfl
    rw [h3]
    omega
theorem pow_four {n : Nat} (h : n ≤ 4) : 3 ^ n ≤ 81 := by
  have := Nat.pow_le_pow_right (n := 3) (by decide) h
  omega
end Go.Proofs.Ytghkpmafocacoaa

namespace Go.Proofs.Ytghkpmafocacoaa
set_option maxRecDepth 100000
set_option linter.unusedVariables false
open Go.RowKit
/-- The variables of a set below one. -/
def overT (L : Int) (k : Nat) : List Int := ((List.range k).filter fun v => tb L v).map fun (v : Nat) => (v : Int)
theorem overT_succ (L : Int) (k : Nat) : overT L (k + 1) = overT L k ++ if tb L k = true then [(k : Int)] else [] := by
  unfold overT
  rw [List.range_succ, List.filter_append, List.map_append]
  congr 1
  cases h : tb L k
  · rw [List.filter_cons_of_neg (by simp [h])]; rfl
  · rw [List.filter_cons_of_pos (by simp [h])]; rfl
theorem overT_len (L : Int) (k : Nat) : (overT L k).length ≤ k := by
  unfold overT
  rw [List.length_map]
  exact Nat.le_trans (List.length_filter_le _ _) (by rw [List.length_range]; exact Nat.le_refl _)
theorem shr1_allF : ∀ n : Fin 16, ∀ k : Fin 4, (((n.val : Int) / 2 ^ k.val).tmod 2 == 1) = tb (n.val : Int) k.val := by decide +kernel
theorem shr1_tbF {L : Int} (hL : 0 ≤ L ∧ L ≤ 15) {k : Nat} (hk : k ≤ 3) : ((L / 2 ^ k).tmod 2 == 1) = tb L k := by
  obtain ⟨n, rfl⟩ := fin16 hL
  exact shr1_allF n ⟨k, by omega⟩
theorem l8Over_any (L : Int) (w : World) (hL : 0 ≤ L ∧ L ≤ 15) :
    Calls Try.prog 88 #[.int .i64 L] w (Wtsd w (over L)) := by
  have hB0 : Below w.heap.size w (w.alloc (.cells #[] 3)) := (Below.refl _ _).alloc (Nat.le_refl _) _
  have hN := Lib.hid (show IOwn (w.alloc (.cells #[] 3)) w.heap.size (.slice (some ⟨w.heap.size, 0, none⟩) 0 0) [] from
    ⟨rfl, .inr ⟨w.heap.size, 0, #[], rfl, Nat.le_refl _, Has.new w _ _, Nat.le_refl _, Nat.zero_le _, rfl, rfl⟩⟩)
  obtain ⟨i0, hi0, hz0, hz1', hz2'⟩ := info_parts info_int
  go_enter Try.func88, Try.ntmps88
  go_wp2_with fail
  go_loopg [3, 4] 4 (fun gn o v wr => ∃ k : Nat, k ≤ 4 ∧ gn = 4 - k ∧ v = .int .i64 k ∧ IOwn wr w.heap.size o (overT L k) ∧ Below w.heap.size w wr)
  case atStart => exact ⟨0, Nat.zero_le _, rfl, rfl, hN.out, hB0⟩
  case round =>
    obtain ⟨k, hk, hgn, rfl, hO, hb⟩ := hrel
    have hgk : gk = 4 - k := hgn
    obtain ⟨Ao, co, hvo, _, _⟩ := hO.form
    subst hvo
    have hz := hb.size
    have hOh := Lib.hid hO
    have hbh := Lib.hid hb
    have hol := overT_len L k
    clear hgn hO hb
    by_cases hlt : k < 4
    · have hsh := shr1_tbF hL (show k ≤ 3 by omega)
      have hst := Lib.hid (overT_succ L k)
      have hk0 : (0 : Int) ≤ (k : Int) := by omega
      have hk64 : (k : Int) ≤ 64 := by omega
      cases ht : tb L k
      · rw [ht] at hsh
        have hR := Lib.hid (show overT L (k + 1) = overT L k by rw [hst.out, ht, if_neg (by decide), List.append_nil])
        clear ht
        go_wp2_with fail
        go_roundg (4 - (k + 1))
        case measure => omega
        case rel => exact ⟨k + 1, by omega, rfl, by go_num, by rw [hR.out]; exact hOh.out, hbh.out⟩
      · rw [ht] at hsh
        have hR := Lib.hid (show overT L (k + 1) = overT L k ++ [(k : Int)] by rw [hst.out, ht, if_pos rfl])
        have hO3 := Lib.hid (hOh.out.alloc (.cells #[.int .i64 k] 3))
        have hnw := Lib.hid (new_one wr (.int .i64 k) 3)
        have hB3 := Lib.hid (hbh.out.alloc hz (.cells #[.int .i64 k] 3))
        clear ht
        go_wp2_with (at_builtin; refine wpList_append_lies _ rfl (.tmp 15) (.tmp 17) 31 rfl w.heap.size 3 i0 _ 1 8 Try.underlying31 hi0 hz0 hz1' hz2' rfl (by decide) (.slice Ao (overT L k).length co) (overT L k).length (ints (overT L k)) rfl (by exact hO3.out) ⟨wr.heap.size, 0, none⟩ 1 1 [.int .i64 k] rfl rfl (by exact hnw.out) (by simp [Value.oneCell']) (by omega) (by unfold maxLen; omega) (by omega) (by exact hB3.out.size) (wr.heap.size + 1) (by simp) ?_; intro gr cr2 w4 hown4 hgrow4 hat4 hlt4)
        have hF := Lib.hid (IOwn.append_ (news := [(k : Int)]) hO3.out hown4 hgrow4 hB3.out (by exact hB3.out.size))
        clear hown4 hgrow4 hat4
        go_wp2_with fail
        go_roundg (4 - (k + 1))
        case measure => omega
        case rel => exact ⟨k + 1, by omega, rfl, by go_num, by rw [hR.out]; exact hF.out.1, hF.out.2⟩
    · obtain rfl : k = 4 := by omega
      have hF := Lib.hid (show Wtsd w (over L) (.returned (.slice Ao (overT L 4).length co)) wr from ⟨_, rfl, hOh.out, hbh.out⟩)
      clear hOh hbh
      go_wp2_with fail
      go_ret
      exact hF.out
theorem p3_pow : ∀ k : Nat, p3 k = ((3 ^ k : Nat) : Int)
  | 0 => rfl
  | k + 1 => by
    rw [Nat.pow_succ, Int.natCast_mul, ← p3_pow k]; rfl
def FacW (w : World) (B : Nat) (A1 : Option Addr) (n1 : Nat) (A2 : Option Addr) (n2 : Nat) (F : Fac) : Prop := Ils w B A1 n1 F.vs ∧ Ils w B A2 n2 F.ns
theorem FacW.below {w w' : World} {A1 A2 : Option Addr} {n1 n2 : Nat} {F : Fac} (h : FacW w w.heap.size A1 n1 A2 n2 F) (hb : Below w.heap.size w w') : FacW w' w'.heap.size A1 n1 A2 n2 F := ⟨(h.1.below hb).more hb.size, (h.2.below hb).more hb.size⟩
theorem fAt_get {F : Fac} (hl : F.ns.length = 3 ^ F.vs.length) (hv : ∀ v ∈ F.vs, 0 ≤ v ∧ v ≤ 3) {st : Int} (hs : 0 ≤ st ∧ st ≤ 80) : ∃ q : Nat, idx F.vs st = (q : Int) ∧ q < F.ns.length ∧ F.ns[q]? = some (fAt F st) := by
  have hb := idx_bd hv hs
  refine ⟨(idx F.vs st).toNat, by omega, by omega, ?_⟩
  unfold fAt
  rw [List.getD_eq_getElem?_getD, List.getElem?_eq_getElem (by omega)]
  rfl
theorem facOk_no {F : Fac} {M : Int} {k : Nat} (hk : k < F.vs.length) (h : vOkAt F.vs k = false) : facOk M F = false := by
  unfold facOk
  rw [show varsOk F.vs = false from ?_, Bool.false_and]
  cases hv : varsOk F.vs
  · rfl
  · have := List.all_eq_true.1 hv k (List.mem_range.2 hk)
    rw [h] at this
    cases this
theorem vars_all {vs : List Int} (h : ∀ i, i < vs.length → vOkAt vs i = true) : varsOk vs = true := List.all_eq_true.2 fun i hi => h i (List.mem_range.1 hi)
theorem vars_len {vs : List Int} (h : varsOk vs = true) : vs.length ≤ 4 ∧ ∀ v ∈ vs, 0 ≤ v ∧ v ≤ 3 := by
  refine ⟨?_, fun v hv => ?_⟩
  · obtain ⟨L, rfl⟩ := vars_over h
    exact (over_ok L).2.2
  · obtain ⟨i, hi, rfl⟩ := List.getElem_of_mem hv
    have := (vars_five h i hi).1
    unfold vAt at this
    rwa [List.getD_eq_getElem?_getD, List.getElem?_eq_getElem hi] at this
theorem fac_parts {M : Int} {F : Fac} (h : facOk M F = true) : varsOk F.vs = true ∧ numsOk M F.ns = true ∧ F.ns.length = 3 ^ F.vs.length ∧ F.vs.length ≤ 4 ∧ (∀ v ∈ F.vs, 0 ≤ v ∧ v ≤ 3) := by
  unfold facOk at h
  rw [Bool.and_eq_true, Bool.and_eq_true] at h
  exact ⟨h.1, h.2.1, of_decide_eq_true h.2.2, (vars_len h.1).1, (vars_len h.1).2⟩
end Go.Proofs.Ytghkpmafocacoaa

namespace Go.Proofs.Ytghkpmafocacoaa
set_option maxRecDepth 100000
set_option linter.unusedVariables false
open Go.RowKit
theorem idx_append : ∀ (vs : List Int) (v st : Int), idx (vs ++ [v]) st = idx vs st + ((3 ^ vs.length : Nat) : Int) * valueAt st v
  | [], v, st => by simp [idx]
  | u :: r, v, st => by
    have ih := idx_append r v st
    have e1 : idx (u :: r ++ [v]) st = 3 * idx (r ++ [v]) st + valueAt st u := rfl
    have e2 : idx (u :: r) st = 3 * idx r st + valueAt st u := rfl
    have e3 : ((3 ^ (u :: r).length : Nat) : Int) = 3 * ((3 ^ r.length : Nat) : Int) := by
      rw [List.length_cons, Nat.pow_succ, Int.natCast_mul, Int.mul_comm]; rfl
    rw [e1, e2, e3, ih, Int.mul_add, Int.mul_assoc]
    omega
theorem idx_take {vs : List Int} {k : Nat} {v st : Int} (h : vs[k]? = some v) : idx (vs.take (k + 1)) st = idx (vs.take k) st + ((3 ^ k : Nat) : Int) * valueAt st v := by
  obtain ⟨hl, he⟩ := List.getElem?_eq_some_iff.1 h
  rw [List.take_succ_eq_append_getElem hl, idx_append, he, List.length_take, Nat.min_eq_left (by omega)]
/-- The bit of a variable against those of lesser ones. -/
theorem bit_gt : ∀ L : Fin 16, ∀ v : Fin 4, (bitN (v.val : Int) ≤ (L.val : Int)) ↔ ¬ ((over (L.val : Int)).length = 0 ∨ vAt (over (L.val : Int)) ((over (L.val : Int)).length - 1) < (v.val : Int)) := by decide +kernel
theorem vAt_take {vs : List Int} {k i : Nat} (h : i < k) : vAt (vs.take k) i = vAt vs i := by
  unfold vAt
  rw [List.getD_eq_getElem?_getD, List.getD_eq_getElem?_getD, List.getElem?_take, if_pos h]
theorem vars_take {vs : List Int} {k : Nat} (hk : k ≤ vs.length) (h : ∀ i, i < k → vOkAt vs i = true) : varsOk (vs.take k) = true := vars_all fun i hi => by
  have hi' : i < k := by rw [List.length_take] at hi; omega
  have := h i hi'
  unfold vOkAt at this ⊢
  rw [vAt_take hi', vAt_take (show i - 1 < k by omega)]
  exact this
theorem vOk_bit {vs : List Int} {k : Nat} {v : Int} (hk : vs[k]? = some v) (h : ∀ i, i < k → vOkAt vs i = true) : vOkAt vs k = !decide (bitN v ≤ setOf (vs.take k)) := by
  have hl := (List.getElem?_eq_some_iff.1 hk).1
  have ht := vars_take (by omega) h
  obtain ⟨L, hL⟩ := vars_over ht
  have hlen : (over (L.val : Int)).length = k := by rw [← hL, List.length_take]; omega
  have hv : vAt vs k = v := by
    unfold vAt
    rw [List.getD_eq_getElem?_getD, hk]
    rfl
  rw [hL, (over_ok L).2.1]
  unfold vOkAt
  rw [hv]
  cases hin : inB v 0 3
  · have hb : bitN v = 0 := by unfold bitN; rw [hin]; rfl
    rw [hb, decide_eq_true (show (0 : Int) ≤ (L.val : Int) by omega)]
    rfl
  · obtain ⟨V, rfl, _⟩ := nat_three (inB_iff.1 hin)
    have hg := bit_gt L V
    rw [hlen] at hg
    rw [Bool.true_and, Bool.eq_iff_iff, Bool.or_eq_true, decide_eq_true_eq, decide_eq_true_eq, Bool.not_eq_true', decide_eq_false_iff_not, hg, Classical.not_not]
    by_cases h0 : k = 0
    · exact ⟨fun _ => .inl h0, fun _ => .inl h0⟩
    · rw [← hL, vAt_take (show k - 1 < k by omega)]
/-- Counted up: what the values of a set's last variables are next. -/
def cu (L : Int) : Nat → Int → Int
  | 0, st => st
  | j + 1, st => if tb L (4 - (j + 1)) = false then cu L j st else if 0 < (valueAt st ((4 - (j + 1) : Nat) : Int) + 1) % 3 then withValue st ((4 - (j + 1) : Nat) : Int) ((valueAt st ((4 - (j + 1) : Nat) : Int) + 1) % 3) else cu L j (withValue st ((4 - (j + 1) : Nat) : Int) ((valueAt st ((4 - (j + 1) : Nat) : Int) + 1) % 3))
theorem cu_st : ∀ L : Fin 16, ∀ i : Fin 81, i.val < 3 ^ (over (L.val : Int)).length → cu (L.val : Int) 4 (stOf (over (L.val : Int)) (i.val : Int)) = stOf (over (L.val : Int)) ((i.val : Int) + 1) := by decide +kernel
theorem cu_st_ {L : Int} (hL : 0 ≤ L ∧ L ≤ 15) {i : Nat} (hi : i < 3 ^ (over L).length) : cu L 4 (stOf (over L) (i : Int)) = stOf (over L) ((i + 1 : Nat) : Int) := by
  obtain ⟨n, rfl⟩ := fin16 hL
  have := pow_four (over_ok n).2.2
  have := cu_st n ⟨i, by omega⟩ hi
  rw [Int.natCast_add]
  exact this
theorem stOf_zero {L : Int} : ∀ (vs : List Int), (∀ v ∈ vs, 0 ≤ v ∧ v ≤ 3) → stOf vs 0 = 0 := by
  intro vs h
  unfold stOf
  induction vs with
  | nil => rfl
  | cons v r ih =>
    have e : stF (v :: r) 0 0 = stF r (0 / 3) (withValue 0 v (0 % 3)) := rfl
    obtain ⟨V, rfl, _⟩ := nat_three (h v List.mem_cons_self)
    have hw : ∀ V : Fin 4, withValue 0 (V.val : Int) (0 % 3) = 0 := by decide +kernel
    rw [e, hw V]
    exact ih fun u hu => h u (List.mem_cons_of_mem _ hu)
theorem over_in {L : Int} (hL : 0 ≤ L ∧ L ≤ 15) : ∀ v ∈ over L, 0 ≤ v ∧ v ≤ 3 := by
  obtain ⟨n, rfl⟩ := fin16 hL
  exact (vars_len (over_ok n).1).2
theorem over_len {L : Int} (hL : 0 ≤ L ∧ L ≤ 15) : (over L).length ≤ 4 := by
  obtain ⟨n, rfl⟩ := fin16 hL
  exact (over_ok n).2.2
theorem stOver_bd {L : Int} (hL : 0 ≤ L ∧ L ≤ 15) {i : Nat} : 0 ≤ stOf (over L) (i : Int) ∧ stOf (over L) (i : Int) ≤ 80 := stF_bd (over_in hL) (Int.natCast_nonneg _) (by decide)
theorem facBy_len (L : Int) (g : Int → Int) : (facBy_ L g).ns.length = 3 ^ (over L).length := by
  unfold facBy_
  simp
/-- The first numbers of a factor by states. -/
def facPre (L : Int) (g : Int → Int) (k : Nat) : List Int := (List.range k).map fun (i : Nat) => g (stOf (over L) (i : Int))
theorem facPre_succ (L : Int) (g : Int → Int) (k : Nat) : facPre L g (k + 1) = facPre L g k ++ [g (stOf (over L) (k : Int))] := by
  unfold facPre
  rw [List.range_succ, List.map_append]
  rfl
theorem facPre_len (L : Int) (g : Int → Int) (k : Nat) : (facPre L g k).length = k := by unfold facPre; simp
theorem facPre_all (L : Int) (g : Int → Int) : facPre L g (3 ^ (over L).length) = (facBy_ L g).ns := rfl
/-- The product of many factors' numbers. -/
def prodAt (Fs : List Fac) (st : Int) : Int := Fs.foldl (fun m F => m * fAt F st) 1
theorem prod_take {Fs : List Fac} {k : Nat} {F : Fac} (h : Fs[k]? = some F) (st : Int) : prodAt (Fs.take (k + 1)) st = prodAt (Fs.take k) st * fAt F st := by
  obtain ⟨hl, he⟩ := List.getElem?_eq_some_iff.1 h
  unfold prodAt
  rw [List.take_succ_eq_append_getElem hl, List.foldl_append, he]
  rfl
theorem fAt_bd {M : Int} {F : Fac} (h : facOk M F = true) (hM : 0 ≤ M) (st : Int) : 0 ≤ fAt F st ∧ fAt F st ≤ M := by
  obtain ⟨_, h2, _, _, _⟩ := fac_parts h
  unfold fAt
  rw [List.getD_eq_getElem?_getD]
  cases hg : F.ns[(idx F.vs st).toNat]? with
  | none => exact ⟨Int.le_refl 0, hM⟩
  | some d => exact inB_iff.1 (List.all_eq_true.1 h2 d (List.mem_of_getElem? hg))
theorem prod_bd {M : Int} {Fs : List Fac} (hM : 1 ≤ M) (h : ∀ F ∈ Fs, facOk M F = true) (st : Int) : ∀ k, 0 ≤ prodAt (Fs.take k) st ∧ prodAt (Fs.take k) st ≤ M ^ k
  | 0 => by simp [prodAt]
  | k + 1 => by
    have ih := prod_bd hM h st k
    have hp : (0 : Int) ≤ M ^ k := Int.pow_nonneg (by omega)
    cases hk : Fs[k]? with
    | none =>
      have hl := List.getElem?_eq_none_iff.1 hk
      rw [List.take_of_length_le (by omega)] at ih ⊢
      refine ⟨ih.1, Int.le_trans ih.2 ?_⟩
      rw [Int.pow_succ]
      have := Int.mul_le_mul_of_nonneg_left hM hp
      omega
    | some F =>
      have hF := fAt_bd (h F (List.mem_of_getElem? hk)) (by omega) st
      rw [prod_take hk, Int.pow_succ]
      exact ⟨Int.mul_nonneg ih.1 hF.1, Int.mul_le_mul ih.2 hF.2 hF.1 hp⟩
end Go.Proofs.Ytghkpmafocacoaa
