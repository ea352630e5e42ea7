/- Parts of the proof: K4, Fl, Gh, Gi, Gj, Gk, FT, FU, Gn, Ra, FY, K8, Gg, K3, K9, Dr. -/
import Derived.Test.YtghkpmafocacoaaZAC
import Derived.Test.YtghkpmafocacoaaZAE
import Derived.Test.YtghkpmafocacoaaZAG
import Derived.Test.YtghkpmafocacoaaZAA
import Derived.Test.YtghkpmafocacoaaZAI
import Derived.Test.YtghkpmafocacoaaZAH
import Derived.Deep.QuietTactic
import Derived.BigQuiet
import Derived.StillTailTactics
import Derived.Deep.RegionHeld3
import Derived.Deep.RegionLaw
import Derived.Laws.AppendOwnNone
import Derived.Deep.MidRow
import Derived.Deep.WholeRow
namespace Go.Proofs.Ytghkpmafocacoaa
set_option maxRecDepth 100000
set_option linter.unusedVariables false
open Go.RowKit
/-- The greatest number of a factor, or 1. -/
def mB (F : Fac) : Int := F.ns.foldl max 1
def pb (Fs : List Fac) : Int := Fs.foldr (fun F k => mB F * k) 1
end Go.Proofs.Ytghkpmafocacoaa

namespace Go.Proofs.Ytghkpmafocacoaa
set_option maxRecDepth 100000
set_option linter.unusedVariables false
open Go.RowKit
theorem Ils.but {w w' : World} {B n : Nat} {A : Option Addr} {ds : List Int} {S : Nat → Prop} (h : Ils w B A n ds) (hk : KeptBut w w' S) (hB : B ≤ w.heap.size) (hn : ∀ a, A = some a → ¬ S a.block) : Ils w' w'.heap.size A n ds := by
  refine ⟨h.1, fun h0 => ?_⟩
  obtain ⟨g, off, e, hg, hc⟩ := h.2 h0
  have hgw : g < w.heap.size := Nat.lt_of_lt_of_le hg hB
  refine ⟨g, off, e, Nat.lt_of_lt_of_le hgw hk.size, fun k d hd => (World.cell?_of_block ?_).trans (hc k d hd)⟩
  exact hk.block g hgw (hn _ e)
theorem Pl.and {P R : World → Prop} {lo hi : Nat} {w : World} (h : Pl P lo hi w) (k : Pl R lo hi w) : Pl (fun w => P w ∧ R w) lo hi w :=
  ⟨⟨h.1, k.1⟩, h.2.1, fun a b ha hs hab hk => ⟨h.2.2 a b ha.1 hs hab hk, k.2.2 a b ha.2 hs hab hk⟩⟩
/-- A factor of the call's own, with the bounds of its blocks. -/
def FcB (lo hi : Nat) (v1 : Value) (n1 : Nat) (v2 : Value) (n2 : Nat) (F : Fac) (w : World) : Prop := OwnB lo hi 3 1 n1 v1 (ints F.vs) w ∧ OwnB lo hi 3 1 n2 v2 (ints F.ns) w
theorem FcB.fac {w : World} {lo hi n1 c1 n2 c2 : Nat} {A1 A2 : Option Addr} {F : Fac} (h : FcB lo hi (.slice A1 n1 c1) n1 (.slice A2 n2 c2) n2 F w) : FacW w w.heap.size A1 n1 A2 n2 F := ⟨ownI_lst h.1.1, ownI_lst h.2.1⟩
end Go.Proofs.Ytghkpmafocacoaa
namespace Go.Proofs.Ytghkpmafocacoaa
set_option maxRecDepth 100000
set_option linter.unusedVariables false
open Go.ChangeShapes Go.WideShapes Go.RowKit Go.Deep
section
variable {H : Type} {enc : TypeId × Value → H} {w : World} {base : Nat}
end
end Go.Proofs.Ytghkpmafocacoaa

namespace Go.Proofs.Ytghkpmafocacoaa
set_option maxRecDepth 100000
set_option linter.unusedVariables false
open Go.RowKit
/-- The rows of a list of factors. -/
def rowsF (Fs : List Fac) : List (List Int) := Fs.flatMap fun F => [F.vs, F.ns]
theorem rowsF_cons (F : Fac) (Fs : List Fac) : rowsF (F :: Fs) = F.vs :: F.ns :: rowsF Fs := rfl
theorem rowsF_len : ∀ Fs : List Fac, (rowsF Fs).length = Fs.length * 2
  | [] => rfl
  | F :: r => by
    rw [rowsF_cons, List.length_cons, List.length_cons, List.length_cons, rowsF_len r]
    omega
theorem rowsF_get : ∀ {Fs : List Fac} {k : Nat} {F : Fac}, Fs[k]? = some F → (rowsF Fs)[k * 2]? = some F.vs ∧ (rowsF Fs)[k * 2 + 1]? = some F.ns
  | [], k, F, h => by simp at h
  | H :: r, 0, F, h => by
    have e : H = F := by simpa using h
    subst e
    exact ⟨rfl, rfl⟩
  | H :: r, k + 1, F, h => by
    have ih := rowsF_get (Fs := r) (k := k) (F := F) (by simpa using h)
    have e1 : (k + 1) * 2 = k * 2 + 1 + 1 := by omega
    rw [rowsF_cons, e1, List.getElem?_cons_succ, List.getElem?_cons_succ, List.getElem?_cons_succ, List.getElem?_cons_succ]
    exact ih
end Go.Proofs.Ytghkpmafocacoaa
namespace Go.Proofs.Ytghkpmafocacoaa
set_option maxRecDepth 100000
set_option linter.unusedVariables false
open Go.ChangeShapes Go.WideShapes Go.RowKit Go.Deep
section
variable {H : Type} {enc : TypeId × Value → H} {w : World} {base : Nat}
end
end Go.Proofs.Ytghkpmafocacoaa

namespace Go.Proofs.Ytghkpmafocacoaa
set_option maxRecDepth 100000
set_option linter.unusedVariables false
open Go.RowKit
/-- A list of factors that a call has made: the outer cells are vs. -/
def RowsF (w : World) (base : Nat) (v : Value) (Fs : List Fac) (vs : List Value) : Prop :=
  w.ownsRow base 56 2 v Fs.length vs ∧ ∀ (i : Nat) (x : Value), vs[i]? = some x → ∃ ds, (rowsF Fs)[i]? = some ds ∧ IOwn w base x ds
theorem fac_ne_int : (3 : TypeId) ≠ 56 := by decide
theorem RowsF.nil (w : World) (base : Nat) : RowsF w base (.slice none 0 0) [] [] := ⟨World.ownsRow_nil w base _ _, fun i x h => by simp at h⟩
theorem RowsF.length {w : World} {base : Nat} {v : Value} {Fs : List Fac} {vs : List Value} (h : RowsF w base v Fs vs) : vs.length = Fs.length * 2 := h.1.1
theorem RowsF.le {w : World} {base base' : Nat} {v : Value} {Fs : List Fac} {vs : List Value} (h : RowsF w base v Fs vs) (hb : base' ≤ base) : RowsF w base' v Fs vs := ⟨owns_le h.1 hb, fun i x hx => by
  obtain ⟨ds, h1, h2⟩ := h.2 i x hx
  exact ⟨ds, h1, owns_le h2 hb⟩⟩
theorem RowsF.but {w w' : World} {base : Nat} {v : Value} {Fs : List Fac} {vs : List Value} {S : Nat → Prop} (h : RowsF w base v Fs vs) (hk : KeptBut w w' S) (hn : ∀ k, v.ownBlock = some k → ¬ S k) (hi : ∀ k cur, Has w k 3 cur → base ≤ k → (∃ x ∈ vs, x.ownBlock = some k) → ¬ S k) : RowsF w' base v Fs vs := by
  refine ⟨owns_but h.1 hk hn, fun i x hx => ?_⟩
  obtain ⟨ds, hd, ho⟩ := h.2 i x hx
  refine ⟨ds, hd, ho.but hk fun k hkb => ?_⟩
  obtain ⟨cur, hc⟩ := owns_has ho hkb
  exact hi k cur hc (World.ownsRow.lt ho k hkb).1 ⟨x, List.mem_of_getElem? hx, hkb⟩
theorem RowsF.below {w w' : World} {base : Nat} {v : Value} {Fs : List Fac} {vs : List Value} (h : RowsF w base v Fs vs) (hb : Below w.heap.size w w') : RowsF w' base v Fs vs :=
  h.but (KeptBut.of_below hb (fun _ => False)) (fun _ _ e => e) (fun _ _ _ _ _ e => e)
theorem RowsF.form {w : World} {base : Nat} {v : Value} {Fs : List Fac} {vs : List Value} (h : RowsF w base v Fs vs) : ∃ A c, v = .slice A Fs.length c ∧ Fs.length ≤ c ∧ c ≤ maxLen := by
  rcases h.1.2 with ⟨hv, hn⟩ | ⟨g, cap, cur, hv, _, _, h1, h2, _⟩
  · exact ⟨none, 0, by rw [hv, hn], by omega, by simp [maxLen]⟩
  · exact ⟨_, cap, hv, h1, h2⟩
theorem cell_add {w : World} {g k : Nat} : w.cell? ((⟨g, 0, none⟩ : Addr).add k) = w.cell? ⟨g, k, none⟩ := by
  congr 1
  unfold Addr.add
  split
  · (rename_i h0; simp at h0 ⊢; try omega)
  · (simp; try omega)
theorem RowsF.at_ {w : World} {base : Nat} {A : Option Addr} {n c k : Nat} {Fs : List Fac} {vs : List Value} (h : RowsF w base (.slice A n c) Fs vs) (hn : Fs.length = n) (hk : k < n) :
    ∃ (g : Nat) (F : Fac) (A1 : Option Addr) (c1 : Nat) (A2 : Option Addr) (c2 : Nat), A = some ⟨g, 0, none⟩ ∧ Fs[k]? = some F ∧ vs[k * 2]? = some (.slice A1 F.vs.length c1) ∧ vs[k * 2 + 1]? = some (.slice A2 F.ns.length c2) ∧ w.cell? ⟨g, k * 2, none⟩ = some (.slice A1 F.vs.length c1) ∧ w.cell? ⟨g, k * 2 + 1, none⟩ = some (.slice A2 F.ns.length c2) ∧ IOwn w base (.slice A1 F.vs.length c1) F.vs ∧ IOwn w base (.slice A2 F.ns.length c2) F.ns ∧ g < w.heap.size := by
  have hvl := h.length
  obtain ⟨F, hF⟩ : ∃ F, Fs[k]? = some F := ⟨_, List.getElem?_eq_getElem (by omega)⟩
  obtain ⟨r1, r2⟩ := rowsF_get hF
  obtain ⟨x, hx⟩ : ∃ x, vs[k * 2]? = some x := ⟨_, List.getElem?_eq_getElem (by omega)⟩
  obtain ⟨y, hy⟩ : ∃ y, vs[k * 2 + 1]? = some y := ⟨_, List.getElem?_eq_getElem (by omega)⟩
  obtain ⟨ds, hds, hxo⟩ := h.2 _ x hx
  obtain ⟨es, hes, hyo⟩ := h.2 _ y hy
  obtain rfl : F.vs = ds := Option.some.inj (r1.symm.trans hds)
  obtain rfl : F.ns = es := Option.some.inj (r2.symm.trans hes)
  obtain ⟨A1, c1, rfl, _, _⟩ := IOwn.form hxo
  obtain ⟨A2, c2, rfl, _, _⟩ := IOwn.form hyo
  rcases h.1.2 with ⟨hv, hn0⟩ | ⟨g, cap, cur, hv, _⟩
  · omega
  · injection hv with e1 _ _
    subst e1
    refine ⟨g, F, A1, c1, A2, c2, rfl, hF, hx, hy, ?_, ?_, hxo, hyo, (World.ownsRow.lt h.1 g rfl).2⟩
    · rw [← World.ownsRow.cells h.1 (g := g) rfl _ _ hx, cell_add]
    · rw [← World.ownsRow.cells h.1 (g := g) rfl _ _ hy, cell_add]
theorem RowsF.flst {w : World} {base : Nat} {A : Option Addr} {n c : Nat} {Fs : List Fac} {vs : List Value} (h : RowsF w base (.slice A n c) Fs vs) (hn : Fs.length = n) : FLst w w.heap.size A n Fs := by
  refine ⟨hn, fun h0 => ?_⟩
  obtain ⟨g, _, _, _, _, _, e, _, _, _, _, _, _, _, hg⟩ := h.at_ hn h0
  refine ⟨g, 0, e, hg, fun k F hF => ?_⟩
  have hk : k < n := by have := (List.getElem?_eq_some_iff.1 hF).1; omega
  obtain ⟨g', F', A1, c1, A2, c2, e', hF', _, _, h1, h2, h3, h4, _⟩ := h.at_ hn hk
  obtain rfl : F' = F := Option.some.inj (hF'.symm.trans hF)
  obtain rfl : g' = g := by rw [e] at e'; injection e' with e'; injection e' with e' _ _; exact e'.symm
  rw [Nat.zero_add]
  exact ⟨A1, _, c1, A2, _, c2, h1, h2, h3.lst, h4.lst⟩
end Go.Proofs.Ytghkpmafocacoaa

namespace Go.Proofs.Ytghkpmafocacoaa
set_option maxRecDepth 100000
set_option linter.unusedVariables false
open Go.RowKit
theorem info_fac : (Try.prog.info? 56).map (fun i => (i.zero, i.size, i.bytes)) = some (some (.agg #[.slice none 0 0, .slice none 0 0]), 2, 48) := by kernel_rfl
end Go.Proofs.Ytghkpmafocacoaa

namespace Go.Proofs.Ytghkpmafocacoaa
set_option maxRecDepth 100000
set_option linter.unusedVariables false
open Go.RowKit
/-- The rows' memory is numbered through. -/
def MkdF (w : World) (base : Nat) (A : Option Addr) (n c : Nat) (Fs : List Fac) (vs : List Value) (m : Int) : Prop :=
  w.ownsRow base 56 2 (.slice A n c) n vs ∧ ∀ (i : Nat) (ds : List Int), (rowsF Fs)[i]? = some ds → ∃ Ax cx, vs[i]? = some (.slice Ax ds.length cx) ∧ Ils w w.heap.size Ax ds.length (nums (m + offs (rowsF Fs) i) ds.length)
theorem MkdF.cell {w : World} {base : Nat} {A : Option Addr} {n c k : Nat} {Fs : List Fac} {vs : List Value} {m : Int} (h : MkdF w base A n c Fs vs m) (hL : Fs.length = n) (hk : k < n) :
    ∃ (g : Nat) (F : Fac) (A1 : Option Addr) (c1 : Nat) (A2 : Option Addr) (c2 : Nat), A = some ⟨g, 0, none⟩ ∧ Fs[k]? = some F ∧ w.cell? ⟨g, k * 2, none⟩ = some (.slice A1 F.vs.length c1) ∧ w.cell? ⟨g, k * 2 + 1, none⟩ = some (.slice A2 F.ns.length c2) ∧ Ils w w.heap.size A1 F.vs.length (nums (m + offs (rowsF Fs) (k * 2)) F.vs.length) ∧ Ils w w.heap.size A2 F.ns.length (nums (m + offs (rowsF Fs) (k * 2 + 1)) F.ns.length) := by
  obtain ⟨F, hF⟩ : ∃ F, Fs[k]? = some F := ⟨_, List.getElem?_eq_getElem (by omega)⟩
  obtain ⟨r1, r2⟩ := rowsF_get hF
  obtain ⟨A1, c1, hx, hi⟩ := h.2 _ _ r1
  obtain ⟨A2, c2, hy, hj⟩ := h.2 _ _ r2
  rcases h.1.2 with ⟨hv, hn0⟩ | ⟨g, cap, cur, hv, _⟩
  · omega
  · injection hv with e1 _ _
    subst e1
    refine ⟨g, F, A1, c1, A2, c2, rfl, hF, ?_, ?_, hi, hj⟩
    · rw [← World.ownsRow.cells h.1 (g := g) rfl _ _ hx, cell_add]
    · rw [← World.ownsRow.cells h.1 (g := g) rfl _ _ hy, cell_add]
end Go.Proofs.Ytghkpmafocacoaa
namespace Go.Proofs.Ytghkpmafocacoaa
set_option maxRecDepth 100000
set_option linter.unusedVariables false
open Go.RowKit
end Go.Proofs.Ytghkpmafocacoaa

namespace Go.Proofs.Ytghkpmafocacoaa
set_option maxRecDepth 100000
set_option linter.unusedVariables false
open Go.RowKit
/-- Sums over some values of a variable. -/
def sv (F : Fac) (v st : Int) (a : Nat) : Nat → Int
  | 0 => 0
  | m + 1 => sv F v st a m + fAt F (withValue st v ((a + m : Nat) : Int))
end Go.Proofs.Ytghkpmafocacoaa

namespace Go.Proofs.Ytghkpmafocacoaa
set_option maxRecDepth 100000
set_option linter.unusedVariables false
open Go.RowKit
theorem FcV.below {w w' : World} {base : Nat} {v1 v2 : Value} {F : Fac} (h : FcV w base v1 v2 F) (hb : Below w.heap.size w w') : FcV w' base v1 v2 F := ⟨h.1.below hb, h.2.1.below hb, h.2.2⟩
theorem FcV.none_ (w : World) (base : Nat) : FcV w base (.slice none 0 0) (.slice none 0 0) ⟨[], []⟩ := ⟨IOwn.nil _ _, IOwn.nil _ _, fun b h => by cases h⟩
theorem FcV.le {w : World} {base base' : Nat} {v1 v2 : Value} {F : Fac} (h : FcV w base v1 v2 F) (hb : base' ≤ base) : FcV w base' v1 v2 F := ⟨owns_le h.1 hb, owns_le h.2.1 hb, h.2.2⟩
theorem FcV.put2 {w : World} {base g : Nat} {v1 v2 : Value} {F : Fac} {cs : Array Value} (h : FcV w base v1 v2 F) (hg : Has w g 56 cs) (x y : Value) : FcV ((w.setCell ⟨g, 0, none⟩ x).setCell ⟨g, 1, none⟩ y) base v1 v2 F := by
  have hk := ((KeptBut.refl w (fun i => i = g)).put (p := ⟨g, 0, none⟩) (fun _ => rfl) x).put (p := ⟨g, 1, none⟩) (fun _ => rfl) y
  exact ⟨h.1.but hk (fun k hk e => iown_ne h.1 hg (by decide) k hk e), h.2.1.but hk (fun k hk e => iown_ne h.2.1 hg (by decide) k hk e), h.2.2⟩
theorem FcV.fac {w : World} {base n1 c1 n2 c2 : Nat} {A1 A2 : Option Addr} {F : Fac} (h : FcV w base (.slice A1 n1 c1) (.slice A2 n2 c2) F) : FacW w w.heap.size A1 n1 A2 n2 F := ⟨h.1.lst, h.2.1.lst⟩
end Go.Proofs.Ytghkpmafocacoaa

namespace Go.Proofs.Ytghkpmafocacoaa
set_option maxRecDepth 100000
set_option linter.unusedVariables false
open Go.RowKit
/-- Behind an append of one factor. -/
theorem RowsF.append_ {w w' : World} {base : Nat} {v v' u1 u2 : Value} {Fs : List Fac} {vs : List Value} {F : Fac} (h : RowsF w base v Fs vs) (hx : FcV w base u1 u2 F)
    (hN : w'.ownsRow base 56 2 v' (Fs.length + 1) (vs ++ [u1, u2])) (hg : w.grownBy w' v.ownBlock) : RowsF w' base v' (Fs ++ [F]) (vs ++ [u1, u2]) := by
  have hk : KeptBut w w' (fun i => v.ownBlock = some i) := KeptBut.of_grown hg fun k e => e
  have hrow : ∀ y es, IOwn w base y es → IOwn w' base y es := fun y es hy => hy.but hk fun k hkb e => by
    obtain ⟨c1, h1⟩ := owns_has hy hkb
    obtain ⟨c2, h2⟩ := owns_has h.1 e
    exact has_ne h1 h2 fac_ne_int rfl
  have hrf : rowsF (Fs ++ [F]) = rowsF Fs ++ [F.vs, F.ns] := by unfold rowsF; rw [List.flatMap_append]; rfl
  have hrl := rowsF_len Fs
  have hvl := h.length
  refine ⟨by rw [List.length_append]; exact hN, fun i y hy => ?_⟩
  rw [hrf]
  by_cases hi : i < vs.length
  · rw [List.getElem?_append_left hi] at hy
    obtain ⟨es, he, ho⟩ := h.2 i y hy
    exact ⟨es, by rw [List.getElem?_append_left (by omega)]; exact he, hrow y es ho⟩
  · rw [List.getElem?_append_right (by omega)] at hy
    rw [List.getElem?_append_right (by omega), hrl, ← hvl]
    have hi2 := (List.getElem?_eq_some_iff.1 hy).1
    simp at hi2
    obtain h0 | h0 : i - vs.length = 0 ∨ i - vs.length = 1 := by omega
    · rw [h0] at hy ⊢
      have hy' : u1 = y := by simpa using hy
      subst hy'
      exact ⟨F.vs, rfl, hrow _ _ hx.1⟩
    · rw [h0] at hy ⊢
      have hy' : u2 = y := by simpa using hy
      subst hy'
      exact ⟨F.ns, rfl, hrow _ _ hx.2.1⟩
end Go.Proofs.Ytghkpmafocacoaa

namespace Go.Proofs.Ytghkpmafocacoaa
open Go.RowKit Region
section
variable {P : Program} {ops : Array Oper} {Q : Exit → Act → World → Prop} {md : Region.Mode}
/-- Operations one behind the other. -/
def wpSeq (P : Program) (ops : Array Oper) (Q : Exit → Act → World → Prop) : Nat → Nat → Act → World → Prop
  | _, 0, a, w => Q .normal a w
  | i, c + 1, a, w => wpOp P ops Q i (wpSeq P ops Q (i + 1) c) a w
/-- All of the first ones are needed by a later one of them, or by the one behind them. -/
def feedsTo (md : Region.Mode) (ops : Array Oper) (n : Nat) : Bool := (List.range n).all fun k => (List.range (n + 1)).any fun j => decide (k < j) && ((ops[j]?).map fun o => o.after.any fun e => Region.binds md e && decide (e.on = k)).getD false
/-- Each one behind those needs the one ahead of it. -/
def chained (md : Region.Mode) (ops : Array Oper) (n c : Nat) : Bool := (List.range c).all fun i => decide (i = 0) || ((ops[n + i]?).map fun o => o.after.any fun e => Region.binds md e && decide (e.on + 1 = n + i)).getD false
theorem feedsTo_all {listed : Array Bool} {n : Nat} (hn : n < ops.size) (hf : feedsTo md ops n = true) (hc : Clsd md ops listed) (hl : ∀ o, ops[n]? = some o → ∀ e ∈ o.after, Region.binds md e = true → listed.getD e.on false = true) : ∀ d k, n ≤ k + d → k < n → listed.getD k false = true
  | 0, k, h1, h2 => by omega
  | d + 1, k, h1, h2 => by
    have h3 := List.all_eq_true.1 hf k (List.mem_range.2 (by omega))
    obtain ⟨j, hj, h4⟩ := List.any_eq_true.1 h3
    rw [Bool.and_eq_true] at h4
    have hjn := List.mem_range.1 hj
    have hkj := of_decide_eq_true h4.1
    obtain ⟨o, ho⟩ : ∃ o, ops[j]? = some o := ⟨_, Array.getElem?_eq_getElem (by omega)⟩
    have h5 := h4.2
    rw [ho] at h5
    have h6 : (o.after.any fun e => Region.binds md e && decide (e.on = k)) = true := h5
    obtain ⟨e, he, h7⟩ : ∃ e ∈ o.after, (Region.binds md e && decide (e.on = k)) = true := by
      rw [← Array.any_toList] at h6
      obtain ⟨e, he, h7⟩ := List.any_eq_true.1 h6
      exact ⟨e, Array.mem_toList_iff.1 he, h7⟩
    rw [Bool.and_eq_true] at h7
    have hk := of_decide_eq_true h7.2
    rw [← hk]
    by_cases hjl : j = n
    · subst hjl
      exact hl o ho e he h7.1
    · exact hc j o ho (feedsTo_all hn hf hc hl d j (by omega) (by omega)) e he h7.1
theorem getD_any {listed : Array Bool} {k : Nat} (hk : k < listed.size) (d d' : Bool) : listed.getD k d = listed.getD k d' := by
  rw [Array.getD_eq_getD_getElem?, Array.getD_eq_getD_getElem?, Array.getElem?_eq_getElem hk]
  rfl
theorem wpAny_tail {I : Array Bool → Act → World → Prop} {n c : Nat} (hn : ops.size = n + (c + 1)) (hf : feedsTo md ops n = true) (hch : chained md ops n (c + 1) = true)
    (hlt : (List.range ops.size).all (fun k => ((ops[k]?).map fun o => o.after.all fun e => decide (e.on < k)).getD true) = true)
    (hs : ∀ listed a w, I listed a w → ∀ i, i < n → i ∈ Region.ready md ops listed → wpOp P ops Q i (I (listed.setIfInBounds i true)) a w)
    (hl : ∀ listed a w, I listed a w → (∀ k, k < n → listed.getD k false = true) → wpSeq P ops Q n (c + 1) a w) (listed : Array Bool) (a : Act) (w : World) (hI : I listed a w) (hz : listed.size = n + (c + 1)) (h0 : (List.range (n + (c + 1))).all (fun k => !listed.getD k true) = true) (fuel : Nat) (hfu : openOps listed ≤ fuel) : wpAny P md ops Q fuel listed a w := by
  have hfalse : ∀ k, k < n + (c + 1) → listed.getD k false = false := fun k hk => by
    have := List.all_eq_true.1 h0 k (List.mem_range.2 hk)
    rw [getD_any (by omega) true false] at this
    simpa using this
  refine wpAny_inv (I := fun li a w => li.size = n + (c + 1) ∧ ((∀ k, n ≤ k → k < n + (c + 1) → li.getD k false = false) ∧ Clsd md ops li ∧ I li a w ∨ ∃ i, n < i ∧ i ≤ n + (c + 1) ∧ (∀ k, k < i → li.getD k false = true) ∧ (∀ k, i ≤ k → k < n + (c + 1) → li.getD k false = false) ∧ wpSeq P ops Q i (n + (c + 1) - i) a w)) ?_ ?_ fuel listed a w ⟨hz, .inl ⟨fun k _ hk => hfalse k hk, ?_, hI⟩⟩ hfu
  · rintro li a w ⟨hz, h⟩ i hi
    obtain ⟨h0, o, ho, hd⟩ := mem_ready.1 hi
    have hin : i < n + (c + 1) := by
      have := (Array.getElem?_eq_some_iff.1 ho).1
      omega
    have hi0 : li.getD i false = false := by rw [getD_any (by omega) false true]; exact h0
    have hset : ∀ k, k < n + (c + 1) → k ≠ i → (li.setIfInBounds i true).getD k false = li.getD k false := fun k hk hne => getD_set_ne false (Ne.symm hne)
    have hself : (li.setIfInBounds i true).getD i false = true := by
      rw [Array.getD_eq_getD_getElem?, Array.getElem?_setIfInBounds_self_of_lt (by omega)]
      rfl
    rcases h with ⟨hno, hc, hI⟩ | ⟨j, hj1, hj2, hjt, hjf, hq⟩
    · by_cases hil : i < n
      · refine wpOp_mono (fun a' w' h' => ⟨by simpa using hz, .inl ⟨fun k h1 h2 => ?_, clsd_set hc hi, h'⟩⟩) (hs li a w hI i hil hi)
        rw [hset k h2 (by omega)]
        exact hno k h1 h2
      · have hin0 : i = n := by
          apply Classical.byContradiction
          intro hne
          have h1 := List.all_eq_true.1 hch (i - n) (List.mem_range.2 (by omega))
          rw [Bool.or_eq_true] at h1
          rcases h1 with h1 | h1
          · have := of_decide_eq_true h1; omega
          · have e1 : n + (i - n) = i := by omega
            rw [e1, ho] at h1
            have h6 : (o.after.any fun e => Region.binds md e && decide (e.on + 1 = i)) = true := h1
            rw [← Array.any_toList] at h6
            obtain ⟨e, he, h7⟩ := List.any_eq_true.1 h6
            rw [Bool.and_eq_true] at h7
            have h8 := of_decide_eq_true h7.2
            have h9 := hd e (Array.mem_toList_iff.1 he) h7.1
            rw [hno e.on (by omega) (by omega)] at h9
            cases h9
        subst hin0
        have hB := fun k (hk : k < i) => feedsTo_all (by omega) hf hc (fun o' ho' => by
          rw [ho] at ho'
          injection ho' with ho'
          subst ho'
          exact hd) i k (by omega) hk
        refine wpOp_mono (fun a' w' h' => ⟨by simpa using hz, .inr ⟨i + 1, by omega, by omega, fun k hk => ?_, fun k h1 h2 => ?_, ?_⟩⟩) (hl li a w hI hB)
        · by_cases hki : k = i
          · subst hki; exact hself
          · rw [hset k (by omega) hki]; exact hB k (by omega)
        · rw [hset k h2 (by omega)]; exact hno k (by omega) h2
        · have e1 : i + (c + 1) - (i + 1) = c := by omega
          rw [e1]
          exact h'
    · have hij : i = j := by
        apply Classical.byContradiction
        intro hne
        by_cases hlt' : i < j
        · rw [hjt i hlt'] at hi0
          cases hi0
        · have h1 := List.all_eq_true.1 hch (i - n) (List.mem_range.2 (by omega))
          rw [Bool.or_eq_true] at h1
          rcases h1 with h1 | h1
          · have := of_decide_eq_true h1; omega
          · have e1 : n + (i - n) = i := by omega
            rw [e1, ho] at h1
            have h6 : (o.after.any fun e => Region.binds md e && decide (e.on + 1 = i)) = true := h1
            rw [← Array.any_toList] at h6
            obtain ⟨e, he, h7⟩ := List.any_eq_true.1 h6
            rw [Bool.and_eq_true] at h7
            have h8 := of_decide_eq_true h7.2
            have h9 := hd e (Array.mem_toList_iff.1 he) h7.1
            rw [hjf e.on (by omega) (by omega)] at h9
            cases h9
      subst hij
      obtain ⟨d, hd'⟩ : ∃ d, n + (c + 1) - i = d + 1 := ⟨n + (c + 1) - i - 1, by omega⟩
      rw [hd'] at hq
      refine wpOp_mono (fun a' w' h' => ⟨by simpa using hz, .inr ⟨i + 1, by omega, by omega, fun k hk => ?_, fun k h1 h2 => ?_, ?_⟩⟩) hq
      · by_cases hki : k = i
        · subst hki; exact hself
        · rw [hset k (by omega) hki]; exact hjt k (by omega)
      · rw [hset k h2 (by omega)]; exact hjf k (by omega) h2
      · have e1 : n + (c + 1) - (i + 1) = d := by omega
        rw [e1]
        exact h'
  · rintro li a w ⟨hz, h⟩ hr
    have hall := ready_done (by omega) hlt hr
    rcases h with ⟨hno, hc, hI⟩ | ⟨i, hi1, hi2, hit, hif, hq⟩
    · have h1 := hno n (by omega) (by omega)
      rw [hall n (by omega)] at h1
      cases h1
    · have hin : i = n + (c + 1) := by
        apply Classical.byContradiction
        intro hne
        have h1 := hif i (by omega) (by omega)
        rw [hall i (by omega)] at h1
        cases h1
      subst hin
      rw [Nat.sub_self] at hq
      exact hq
  · intro k o ho hk
    have hkn : k < n + (c + 1) := by
      have := (Array.getElem?_eq_some_iff.1 ho).1
      omega
    rw [hfalse k hkn] at hk
    cases hk
end
end Go.Proofs.Ytghkpmafocacoaa

namespace Go.Proofs.Ytghkpmafocacoaa
set_option maxRecDepth 100000
set_option linter.unusedVariables false
open Go.RowKit
theorem grown_but_ {w w' : World} {row : Option Nat} (h : w.grownBy w' row) : KeptBut w w' (fun i => row = some i) := ⟨h.os, h.tape, h.output, h.size, fun i hi hn => h.block i hi (fun e => hn e.symm)⟩
/-- A factor in a variable, a number of which is appended. -/
theorem FacN.grow {w wx w6 : World} {G gr cr n : Nat} {v1 v2 : Value} {vs ds : List Int} {x : Int} (h : FacN w wx G v1 v2 vs ds) (hl : ds.length = n) (hG : w.heap.size < G) (hd : ∀ b, v1.ownBlock = some b → v2.ownBlock ≠ some b)
    (hown : w6.ownsRow w.heap.size 3 1 (.slice (some ⟨gr, 0, none⟩) (n + 1) cr) (n + 1) (ints ds ++ [.int .i64 x])) (hgrow : wx.grownBy w6 v2.ownBlock) (hat : v2.ownBlock = some gr ∨ gr = wx.heap.size) :
    FacN w (w6.setCell ⟨G, 1, none⟩ (.slice (some ⟨gr, 0, none⟩) (n + 1) cr)) G v1 (.slice (some ⟨gr, 0, none⟩) (n + 1) cr) vs (ds ++ [x]) ∧ (∀ b, v1.ownBlock = some b → (Value.slice (some ⟨gr, 0, none⟩) (n + 1) cr).ownBlock ≠ some b) := by
  subst hl
  obtain ⟨h1, h2, h3, h4, h5⟩ := h
  have hA := IOwn.append_ (news := [x]) h1 hown hgrow h5 h5.size
  have hK := grown_but_ hgrow
  have k2 := h2.but hK (fun k e1 e2 => hd k e1 e2)
  have k3 := h3.but hK (fun e => iown_ne h1 h3 (by decide) G e rfl)
  have k4 := h4.but hK (fun e => iown_ne h1 h4 (by decide) _ e rfl)
  have hp : KeptBut w6 (w6.setCell ⟨G, 1, none⟩ (.slice (some ⟨gr, 0, none⟩) (ds.length + 1) cr)) (fun i => i = G) := (KeptBut.refl w6 (fun i => i = G)).put (p := ⟨G, 1, none⟩) (fun _ => rfl) _
  refine ⟨⟨hA.1.but hp (fun k e1 e2 => iown_ne hA.1 k3 (by decide) k e1 e2), k2.but hp (fun k e1 e2 => iown_ne k2 k3 (by decide) k e1 e2), ?_, ?_, hA.2.setCell (p := ⟨G, 1, none⟩) (Nat.le_of_lt hG) _⟩, ?_⟩
  · have := k3.put 1 (.slice (some ⟨gr, 0, none⟩) (ds.length + 1) cr)
    exact this
  · have hne : w.heap.size ≠ G := by omega
    exact k4.far (p := ⟨G, 1, none⟩) hne _
  · intro b hb e
    have e1 : gr = b := by simpa [Value.ownBlock] using e
    subst e1
    rcases hat with hat | hat
    · exact hd _ hb hat
    · obtain ⟨c1, g1⟩ := owns_has h2 hb
      have := g1.lt
      omega
end Go.Proofs.Ytghkpmafocacoaa

namespace Go.Proofs.Ytghkpmafocacoaa
set_option maxRecDepth 100000
set_option linter.unusedVariables false
set_option pp.deepTerms true
set_option pp.maxSteps 1000000
open Go.RowKit
/-- The slices of a list of factors that are nil have no room. -/
def Nilf (w : World) (A : Option Addr) (n : Nat) : Prop := ∀ g off, A = some ⟨g, off, none⟩ → ∀ j, j < n * 2 → ∀ (A1 : Option Addr) (n1 c1 : Nat), w.cell? ⟨g, off + j, none⟩ = some (.slice A1 n1 c1) → A1 = none → c1 = 0
theorem Nilf.below {w w' : World} {B n : Nat} {A : Option Addr} {Fs : List Fac} (h : Nilf w A n) (hF : FLst w B A n Fs) (hb : Below B w w') : Nilf w' A n := fun g off e j hj A1 n1 c1 hc => by
  obtain ⟨g', off', e', hg, _⟩ := hF.2 (by omega)
  have : g = g' := by rw [e] at e'; injection e' with e'; injection e' with e' _ _
  subst this
  exact h g off e j hj A1 n1 c1 ((hb.cell (p := ⟨g, off + j, none⟩) hg).symm.trans hc)
end Go.Proofs.Ytghkpmafocacoaa

namespace Go.Proofs.Ytghkpmafocacoaa
set_option maxRecDepth 100000
set_option linter.unusedVariables false
open Go.RowKit
theorem st_all : ∀ i : Fin 81, stOf (over 15) (i.val : Int) = (i.val : Int) := by decide +kernel
theorem list_parts {Fs : List Fac} (h : listOk Fs = true) : Fs.length ≤ 8 ∧ ∀ F ∈ Fs, facOk 9 F = true := by
  unfold listOk at h
  rw [Bool.and_eq_true] at h
  exact ⟨of_decide_eq_true h.1, fun F hF => List.all_eq_true.1 h.2 F hF⟩
theorem nine_pow {k : Nat} (h : k ≤ 8) : (9 : Int) ^ k ≤ 1000000000000000000 := by
  obtain rfl | rfl | rfl | rfl | rfl | rfl | rfl | rfl | rfl : k = 0 ∨ k = 1 ∨ k = 2 ∨ k = 3 ∨ k = 4 ∨ k = 5 ∨ k = 6 ∨ k = 7 ∨ k = 8 := by omega
  all_goals decide
theorem fac15 (Fs : List Fac) : (facBy_ 15 (prodAt Fs)).ns = (List.range 81).map fun (i : Nat) => prodAt Fs (i : Int) := by
  have e : 3 ^ (over 15).length = 81 := by decide
  unfold facBy_
  dsimp only
  rw [e]
  refine List.map_congr_left fun i hi => ?_
  rw [st_all ⟨i, List.mem_range.1 hi⟩]
theorem field_two (x y : Value) (w : World) : (Instr.field 56 (.agg #[x, y]) 1).run Try.prog w = .ok y w := by kernel_rfl
theorem ListOfFactors_any (A : Option Addr) (n c : Nat) (Fs : List Fac) (w : World) (h : FLst w w.heap.size A n Fs) (hn : n ≤ maxLen) (hsm : smallF Fs) :
    Calls Try.prog 56 #[.slice A n c] w (Lbd w (lofTo Fs) (listOk Fs)) := by
  have hI := Lib.hid h
  have hl := h.1
  have cK := Lib.hid (factorsOk_any A n c Fs w h hn hsm)
  have hnh := Lib.hid hn
  clear h hn hsm
  cases hk : listOk Fs
  · have hT : lofTo Fs = [] := by unfold lofTo; rw [hk]; rfl
    rw [hT]
    rw [hk] at cK
    clear hk hT
    go_enter Try.func56, Try.ntmps56
    go_wp2_with fail
    refine cK.out.mono ?_
    rintro e w1 ⟨rfl, hb⟩
    go_wp2_with fail
    go_ret2
    exact ⟨_, rfl, IOwn.nil _ _, hb⟩
  · have hT : lofTo Fs = (facBy_ 15 (prodAt Fs)).ns := by unfold lofTo; rw [hk, if_pos rfl, fac15]
    rw [hT]
    rw [hk] at cK
    obtain ⟨h8, hf⟩ := list_parts hk
    have cT := Lib.hid (fun wx hx => timesOver_any A n c Fs 15 9 wx hx hnh.out (by decide) (by decide) hf (fun k hk => nine_pow (by omega)))
    clear hk hT hf
    go_enter Try.func56, Try.ntmps56
    go_wp2_with fail
    refine cK.out.mono ?_
    rintro e w1 ⟨rfl, hb⟩
    have hI1 := Lib.hid ((hI.out.below hb).more hb.size)
    have hbh := Lib.hid hb
    clear hb
    go_wp2_with fail
    refine (cT.out _ hI1.out).mono ?_
    rintro e w2 ⟨v1, v2, rfl, hV, hb2⟩
    obtain ⟨D1, e1, rfl, _, _⟩ := hV.1.form
    obtain ⟨D2, e2, rfl, _, _⟩ := hV.2.1.form
    have hB2 := Lib.hid (hbh.out.trans (hb2.mono hbh.out.size))
    have hO := Lib.hid (show IOwn w2 w.heap.size (.slice D2 (facBy_ 15 (prodAt Fs)).ns.length e2) (facBy_ 15 (prodAt Fs)).ns from owns_le hV.2.1 hbh.out.size)
    clear hb2
    have hfi : ∀ wx : World, (Instr.field 56 (.agg #[.slice D1 (facBy_ 15 (prodAt Fs)).vs.length e1, .slice D2 (facBy_ 15 (prodAt Fs)).ns.length e2]) 1).run Try.prog wx = .ok (.slice D2 (facBy_ 15 (prodAt Fs)).ns.length e2) wx := fun wx => field_two _ _ wx
    go_wp2_with fail
    go_ret2
    exact ⟨_, rfl, hO.out, hB2.out⟩
end Go.Proofs.Ytghkpmafocacoaa

namespace Go.Proofs.Ytghkpmafocacoaa
set_option maxRecDepth 100000
set_option linter.unusedVariables false
open Go.RowKit
/-- The cells of widths. -/
def ArrN (cs : Array Value) (ls : List Nat) : Prop := cs.size = 16 ∧ ∀ q : Nat, q < 16 → cs[q]? = some (.int .i64 ((ls.getD q 0 : Nat) : Int))
theorem ArrN.one {cs : Array Value} {ls : List Nat} (h : ArrN cs ls) : cs.all (·.oneCell') = true := by
  refine Array.all_eq_true_iff_forall_mem.2 fun u hu => ?_
  obtain ⟨i, hi, rfl⟩ := Array.mem_iff_getElem.1 hu
  have h2 := h.2 i (by rw [← h.1]; exact hi)
  rw [Array.getElem?_eq_getElem hi] at h2
  rw [Option.some.inj h2]; rfl
theorem ArrN.put {cs : Array Value} {ls : List Nat} (h : ArrN cs ls) (hl : ls.length = 16) {q : Nat} (hq : q < 16) (x : Nat) : ArrN (cs.setIfInBounds q (.int .i64 (x : Int))) (ls.set q x) := by
  refine ⟨by simpa using h.1, fun j hj => ?_⟩
  by_cases hjq : q = j
  · subst hjq
    rw [Array.getElem?_setIfInBounds, if_pos rfl, if_pos (by rw [h.1]; exact hq), List.getD_eq_getElem?_getD, List.getElem?_set_self (by omega)]
    rfl
  · rw [Array.getElem?_setIfInBounds, if_neg hjq, h.2 j hj, List.getD_eq_getElem?_getD, List.getD_eq_getElem?_getD, List.getElem?_set_ne hjq]
theorem ArrN.zero : ArrN (List.toArray (List.replicate 16 (.int .i64 0))) (zN 16) := by
  refine ⟨by simp, fun q hq => ?_⟩
  have : (zN 16).getD q 0 = 0 := by
    unfold zN
    rw [List.getD_eq_getElem?_getD, List.getElem?_replicate]
    split <;> rfl
  rw [this, List.getElem?_toArray, List.getElem?_replicate, if_pos hq]
  rfl
/-- Cells written in the midst of a block. -/
theorem has_setCells_ {g : Nat} {t : TypeId} : ∀ (vs : List Value) (o : Nat) (w : World) (cs : Array Value), Has w g t cs → o + vs.length ≤ cs.size →
    ∃ cs', Has (w.setCells g o vs) g t cs' ∧ cs'.size = cs.size ∧ (∀ j v, vs[j]? = some v → cs'[o + j]? = some v) ∧ ∀ i, (i < o ∨ o + vs.length ≤ i) → cs'[i]? = cs[i]?
  | [], o, w, cs, h, hl => ⟨cs, h, rfl, fun j v hv => by simp at hv, fun i _ => rfl⟩
  | u :: vs, o, w, cs, h, hl => by
    rw [List.length_cons] at hl
    obtain ⟨cs', h1, h2, h3, h4⟩ := has_setCells_ vs (o + 1) (w.setCell ⟨g, o, none⟩ u) (cs.setIfInBounds o u) (h.put o u) (by simp; omega)
    refine ⟨cs', h1, by rw [h2]; simp, fun j v hv => ?_, fun i hi => ?_⟩
    · cases j with
      | zero =>
        have e : u = v := by simpa using hv
        subst e
        rw [Nat.add_zero, h4 o (by omega), Array.getElem?_setIfInBounds, if_pos rfl, if_pos (by omega)]
      | succ j =>
        have := h3 j v (by simpa using hv)
        rwa [show o + (j + 1) = o + 1 + j by omega]
    · rw [List.length_cons] at hi
      rw [h4 i (by omega), Array.getElem?_setIfInBounds, if_neg (by omega)]
theorem has_there_ {w : World} {g : Nat} {t : TypeId} {cs : Array Value} (h : Has w g t cs) {o n : Nat} (hn : o + n ≤ cs.size) : w.there g o n := fun j hj => by
  refine ⟨?_, h.frozen _⟩
  rw [h.cell, Array.getElem?_eq_getElem (by omega)]; rfl
theorem has_range_ {w : World} {g : Nat} {t : TypeId} {cs : Array Value} (h : Has w g t cs) {o : Nat} {vs : List Value} (hv : ∀ j v, vs[j]? = some v → cs[o + j]? = some v) : w.rangeAt g o vs := fun j v hj => (h.cell _).trans (hv j v hj)
theorem results_cell_ {fn : Func} {p : Tmp} {ty : TypeId} (h : fn.results = #[.cell p ty]) (tmps : Array Value) (P : Program) (w : World) :
    (results fn tmps).run P w = ((asAddr (tmps.getD p undef)).run P w).andThen fun a w₁ => (loadVar ty a).run P w₁ := by
  simp only [results, h]
  simp [Sem.run_bind, Result.andThen]
end Go.Proofs.Ytghkpmafocacoaa

namespace Go.Proofs.Ytghkpmafocacoaa
set_option maxRecDepth 100000
set_option linter.unusedVariables false
open Go.RowKit
def FLst0 (w : World) (B : Nat) (A : Option Addr) (n : Nat) (Fs : List Fac) : Prop := FLst w B A n Fs ∧ Nilf w A n
theorem FLst0.below {w w' : World} {B n : Nat} {A : Option Addr} {Fs : List Fac} (h : FLst0 w B A n Fs) (hb : Below B w w') : FLst0 w' B A n Fs := ⟨h.1.below hb, h.2.below h.1 hb⟩
theorem FLst0.more {w : World} {B B' n : Nat} {A : Option Addr} {Fs : List Fac} (h : FLst0 w B A n Fs) (hb : B ≤ B') : FLst0 w B' A n Fs := ⟨h.1.more hb, h.2⟩
end Go.Proofs.Ytghkpmafocacoaa

namespace Go.Proofs.Ytghkpmafocacoaa
set_option maxRecDepth 100000
open Go.RowKit
theorem Byt.more {w : World} {B B' : Nat} {A : Option Addr} {n : Nat} (h : Byt w B A n) (hB : B ≤ B') : Byt w B' A n := fun hn => by
  obtain ⟨g, off, e, hg, hc⟩ := h hn
  exact ⟨g, off, e, by omega, hc⟩
end Go.Proofs.Ytghkpmafocacoaa
namespace Go.Proofs.Ytghkpmafocacoaa
set_option maxRecDepth 100000
open Go.RowKit
theorem Chg.grown {a b c : World} {R : Nat} {row : Option Nat} (h : Chg a b R) (hg : b.grownBy c row) (hr : ∀ k, row = some k → a.heap.size ≤ k) : Chg a c R :=
  ⟨hg.os.trans h.os, hg.tape.trans h.tape, hg.output.trans h.output, Nat.le_trans h.size hg.size,
    fun i hi hne => (hg.block i (Nat.lt_of_lt_of_le hi h.size) (fun e => by have := hr i e.symm; omega)).trans (h.block i hi hne)⟩
theorem Rdr.grown {w w' : World} {B R : Nat} {A : Option Addr} {n c p : Nat} {row : Option Nat} (h : Rdr w B R A n c p) (hg : w.grownBy w' row) (hr : ∀ k, row = some k → B ≤ k ∧ k ≠ R) (hB : B ≤ w.heap.size) : Rdr w' B R A n c p :=
  ⟨(hg.block R h.lt (fun e => (hr R e.symm).2 rfl)).trans h.1, h.2.1, h.2.2.keep ((Below.refl B w).grown hg hB (fun k hk => (hr k hk).1))⟩
theorem Own.chg {w w' : World} {base R : Nat} {v : Value} {os : List St} (h : Own w base v os) (hc : Chg w w' R) (hR : R < base) : Own w' base v os := by
  refine World.ownsRow.kept h hc ?_
  cases hv : v.ownBlock with
  | none => exact .inl rfl
  | some k =>
    refine .inr fun e => ?_
    have h1 := (World.ownsRow.lt h k hv).1
    injection e with e
    omega
def St.put (s : St) : Nat → Int → St
  | 0, x => { s with k := x }
  | 1, x => { s with a := x }
  | 2, x => { s with b := x }
  | 3, x => { s with c := x }
  | 4, x => { s with u := x }
  | 5, x => { s with v := x }
  | _, x => { s with x := x }
theorem St.put_cells (s : St) (x : Int) {o : Nat} (h : o < 7) : (s.put o x).cells = s.cells.set o (.int .i64 x) := by
  obtain rfl | rfl | rfl | rfl | rfl | rfl | rfl : o = 0 ∨ o = 1 ∨ o = 2 ∨ o = 3 ∨ o = 4 ∨ o = 5 ∨ o = 6 := by omega
  all_goals rfl
theorem flat_num (x : Int) : ∀ (os : List St) (o : Nat), ∃ os', os'.length = os.length ∧ flat os' = (flat os).set o (.int .i64 x)
  | [], o => ⟨[], rfl, by simp [flat]⟩
  | s :: r, o => by
    have e : ∀ (q : St) (l : List St), flat (q :: l) = q.cells ++ flat l := fun _ _ => rfl
    have hl : s.cells.length = 7 := rfl
    by_cases h : o < 7
    · refine ⟨s.put o x :: r, rfl, ?_⟩
      rw [e, e, List.set_append_left _ _ (by omega), St.put_cells s x h]
    · obtain ⟨r', h1, h2⟩ := flat_num x r (o - 7)
      refine ⟨s :: r', by simp [h1], ?_⟩
      rw [e, e, h2, List.set_append_right _ _ (by omega), hl]
/-- One cell of what a call owns, overwritten by a number: it still owns as many statements. -/
theorem own_put {w : World} {base g n cap : Nat} {os : List St} (h : Own w base (.slice (some ⟨g, 0, none⟩) n cap) os) (o : Nat) (x : Int) : ∃ os', os'.length = os.length ∧ Own (w.setCell ⟨g, o, none⟩ (.int .i64 x)) base (.slice (some ⟨g, 0, none⟩) n cap) os' := by
  rcases h.2 with ⟨hv, _⟩ | ⟨g', cap', cur, hv, hg, hh, h1, h2, h3, h4⟩
  · injection hv with hv _ _
    cases hv
  · have e1 : g = g' := by injection hv with hv _ _; injection hv with hv; injection hv
    subst e1
    obtain ⟨os', hl, hf⟩ := flat_num x os o
    refine ⟨os', hl, by rw [flat_length], .inr ⟨g, cap', cur.setIfInBounds o (.int .i64 x), by rw [hl]; exact hv, hg, ?_, by rw [hl]; exact h1, h2, by simpa using h3, ?_⟩⟩
    · exact Has.put (t := 116) (cs := cur) hh o _
    · rw [hl, hf, Array.toList_setIfInBounds, List.take_set, h4]
end Go.Proofs.Ytghkpmafocacoaa
namespace Go.Proofs.Ytghkpmafocacoaa
set_option maxRecDepth 100000
open Go.RowKit
end Go.Proofs.Ytghkpmafocacoaa
