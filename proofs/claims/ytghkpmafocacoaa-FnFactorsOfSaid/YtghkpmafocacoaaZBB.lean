/- Parts of the proof: JJ, E1. -/
import Derived.Laws.AppendOwnNone
import Derived.Deep.LoopGhost
import Derived.StillTailTactics
import Derived.Deep.RegionLaw
import Derived.Deep.RegionHeld3
import Derived.Test.YtghkpmafocacoaaZAI
import Derived.Test.YtghkpmafocacoaaZAC
import Derived.Test.YtghkpmafocacoaaZAG
import Derived.Deep.MidRow
import Derived.Test.YtghkpmafocacoaaZAW
namespace Go.Proofs.Ytghkpmafocacoaa
set_option maxRecDepth 100000
set_option linter.unusedVariables false
open Go.RowKit
end Go.Proofs.Ytghkpmafocacoaa
namespace Go.Proofs.Ytghkpmafocacoaa
set_option maxRecDepth 100000
set_option linter.unusedVariables false
open Go.RowKit
theorem Own.len {w : World} {base : Nat} {v : Value} {os : List St} (h : Own w base v os) : w.ownsRow base 116 7 v os.length (flat os) := h
end Go.Proofs.Ytghkpmafocacoaa
namespace Go.Proofs.Ytghkpmafocacoaa
set_option maxRecDepth 100000
set_option linter.unusedVariables false
open Go.RowKit
end Go.Proofs.Ytghkpmafocacoaa

namespace Go.Proofs.Ytghkpmafocacoaa
set_option maxRecDepth 100000
set_option linter.unusedVariables false
open Go.RowKit
theorem Chg.but {a b c : World} {R g : Nat} (h : Chg a b R) (hk : KeptBut b c (fun i => i = g)) (hg : a.heap.size ≤ g) : Chg a c R :=
  ⟨hk.os.trans h.os, hk.tape.trans h.tape, hk.output.trans h.output, Nat.le_trans h.size hk.size,
    fun i hi hne => (hk.block i (Nat.lt_of_lt_of_le hi h.size) (fun e => by omega)).trans (h.block i hi hne)⟩
theorem Rdr.but {w w' : World} {B R g : Nat} {A : Option Addr} {n c p : Nat} (h : Rdr w B R A n c p) (hk : KeptBut w w' (fun i => i = g)) (hg : B ≤ g) (hR : R ≠ g) (hB : B ≤ w.heap.size) : Rdr w' B R A n c p :=
  ⟨(hk.block R h.lt hR).trans h.1, h.2.1, h.2.2.keep (hk.below (fun i hi e => by omega) hB)⟩
def StC (s : St) : Array Value := #[.int .i64 s.k, .int .i64 s.a, .int .i64 s.b, .int .i64 s.c, .int .i64 s.u, .int .i64 s.v, .int .i64 s.x]
/-- append of new statements onto what is drawn. -/
theorem wpList_append_drawn {w0 w : World} {ops : Array Oper} {rest : List Oper} {o : Oper} {a : Act} {Q : Exit → Act → World → Prop} (hgd : o.guard = none) (s x : Operand)
    (ho : o.op = .call { callee := .builtin .append, args := #[s, x], argTypes := #[65, 65] })
    (B R : Nat) (A : Option Addr) (n c p : Nat) (A' : Option Addr) (c' : Nat) (os : List St) (hs : a.eval s = .slice A' os.length c') (hO : Own w w0.heap.size (.slice A' os.length c') os) (hR : Rdr w B R A n c p) (hC : Chg w0 w R)
    (hRl : R < w0.heap.size) (hBl : B ≤ w0.heap.size) (g m m' : Nat) (qs : List St) (hx : a.eval x = .slice (some ⟨g, 0, none⟩) m m') (hm : qs.length = m)
    (hnew : ∀ j u, (flat qs)[j]? = some u → w.cell? ((⟨g, 0, none⟩ : Addr).add j) = some u) (h63 : os.length + m ≤ 1000)
    (h : ∀ A5 c5 w', Own w' w0.heap.size (.slice A5 (os.length + m) c5) (os ++ qs) → Rdr w' B R A n c p → Chg w0 w' R → wpList Try.prog ops Q rest (a.put o.dst (.slice A5 (os.length + m) c5)) w') :
    wpList Try.prog ops Q (o :: rest) a w := by
  obtain ⟨i0, hi0, hz0, hz1', hz2'⟩ := info_parts info_stmt
  have hz := hC.size
  refine wpList_append_own _ hgd s x _ ho w0.heap.size 116 i0 _ 7 56 Try.underlying65 hi0 hz0 hz1' hz2' rfl (by decide) (.slice A' os.length c') _ _ hs hO ⟨g, 0, none⟩ m m' (flat qs) hx (by rw [flat_length, hm]) hnew (flat_one _) (by unfold maxLen; omega) (by omega) hz (fun v' w' hown' hgrow _ => ?_)
  have hrow : ∀ k, (Value.slice A' os.length c').ownBlock = some k → w0.heap.size ≤ k := fun k hk => (World.ownsRow.lt hO k hk).1
  have hown2 : w'.ownsRow w0.heap.size 116 7 v' (os.length + qs.length) (flat os ++ flat qs) := by rw [hm]; exact hown'
  have h1 := (hO.append_ (w0 := w) (news := qs) hown2 hgrow ((Below.refl _ _).mono hz) hz).1
  obtain ⟨A5, c5, hv, _, _⟩ := h1.form
  have hl : (os ++ qs).length = os.length + m := by rw [List.length_append, hm]
  rw [hl] at hv
  subst hv
  exact h A5 c5 w' h1 (hR.grown hgrow (fun k hk => by have := hrow k hk; omega) (by omega)) (hC.grown hgrow hrow)
end Go.Proofs.Ytghkpmafocacoaa
