/- Elimination, plain: graphs of the four variables, widths, the best order and the greedy one: the program's and the model's are the same, for all graphs. -/
import Derived.Test.YtaipdkfbkcknkaaG3
namespace Go.Proofs.Ytaipdkfbkcknkaa
set_option maxRecDepth 100000
set_option linter.unusedVariables false
/-- Graphs of the four variables: the pairs 01 02 03 12 13 23. -/
structure Gr where
  a : Bool
  b : Bool
  c : Bool
  d : Bool
  e : Bool
  f : Bool
def Gr.nb (g : Gr) : Nat → Nat
  | 0 => 1 + 2 * g.a.toNat + 4 * g.b.toNat + 8 * g.c.toNat
  | 1 => g.a.toNat + 2 + 4 * g.d.toNat + 8 * g.e.toNat
  | 2 => g.b.toNat + 2 * g.d.toNat + 4 + 8 * g.f.toNat
  | _ => g.c.toNat + 2 * g.e.toNat + 4 * g.f.toNat + 8
def grOf (N : Nat → Nat) : Gr := ⟨(N 0).testBit 1, (N 0).testBit 2, (N 0).testBit 3, (N 1).testBit 2, (N 1).testBit 3, (N 2).testBit 3⟩
/-- A graph without a variable. -/
def Gr.el (g : Gr) (v : Nat) : Gr := grOf fun u => if u = v then 2 ^ v else if (g.nb v).testBit u then (g.nb u ||| g.nb v) &&& (15 - 2 ^ v) else g.nb u
def cntN (L : Nat) : Nat := (L % 2 + L / 2 % 2) + (L / 4 % 2 + L / 8 % 2)
def Gr.w1 (g : Gr) (v : Nat) : Nat := cntN (g.nb v)
def Gr.stepJ (g : Gr) (T J : Nat) : Nat := (List.range 4).foldl (fun R u => if J.testBit u && T.testBit u then R ||| g.nb u else R) J
def Gr.cl (g : Gr) (T v : Nat) : Nat := g.stepJ T (g.stepJ T (g.stepJ T (2 ^ v)))
/-- How many variables the product has by which one is eliminated when others are gone. -/
def Gr.wP (g : Gr) (gone v : Nat) : Nat := cntN (g.cl (gone ||| 2 ^ v) v &&& (15 - gone))
def Gr.elS (g : Gr) (p : List Nat) : Gr := p.foldl Gr.el g
def maskN (p : List Nat) : Nat := p.foldl (fun m v => m ||| 2 ^ v) 0
/-- The width of an order, step by step. -/
def Gr.wid (g : Gr) : List Nat → Nat
  | [] => 0
  | v :: r => max (g.w1 v) ((g.el v).wid r)
def Gr.widTo (g : Gr) (o : List Nat) : Nat → Nat
  | 0 => 0
  | k + 1 => max (g.widTo o k) (g.wP (maskN (o.take k)) (o.getD k 0))
def Gr.mwidTo (g : Gr) (o : List Nat) : Nat → Nat
  | 0 => 0
  | k + 1 => max (g.mwidTo o k) ((g.elS (o.take k)).w1 (o.getD k 0))
/-- All orders of some of the variables. -/
def extO (p : List Nat) : List (List Nat) := ((List.range 4).filter fun v => !p.contains v).map fun v => p ++ [v]
def ords1 : List (List Nat) := extO []
def ords2 : List (List Nat) := ords1.flatMap extO
def ords3 : List (List Nat) := ords2.flatMap extO
def perms : List (List Nat) := ords3.flatMap extO
def ordsAll : List (List Nat) := [[]] ++ ords1 ++ ords2 ++ ords3 ++ perms
def Gr.nxt (g : Gr) (least : List Nat) (gone : Nat) : Nat → Nat × Nat
  | 0 => (0, 5)
  | v + 1 => if gone.testBit v then g.nxt least gone v else if max (max (g.wP gone v) (least.getD (gone ||| 2 ^ v) 0)) (least.getD 0 0) < (g.nxt least gone v).2 then (v, max (max (g.wP gone v) (least.getD (gone ||| 2 ^ v) 0)) (least.getD 0 0)) else g.nxt least gone v
def zN (n : Nat) : List Nat := List.replicate n 0
def Gr.lst (g : Gr) : Nat → List Nat
  | 0 => zN 16
  | k + 1 => (g.lst k).set (14 - k) (g.nxt (g.lst k) (14 - k) 4).2
def Gr.ord (g : Gr) (least : List Nat) : Nat → List Nat
  | 0 => []
  | k + 1 => g.ord least k ++ [(g.nxt least (maskN (g.ord least k)) 4).1]
def Gr.best (g : Gr) : List Nat := g.ord (g.lst 15) 4
def Gr.greedy (g : Gr) : List Nat := g.ord (zN 16) 4
/-- The model's: the first of all rows whose width is least. -/
def Gr.bix (g : Gr) : Nat → Nat
  | 0 => 0
  | k + 1 => if g.wid (perms.getD (k + 1) []) < g.wid (perms.getD (g.bix k) []) then k + 1 else g.bix k
/-- The model's greedy choice among the first variables: 4 is none yet. -/
def Gr.pickM (g : Gr) (out : List Nat) : Nat → Nat
  | 0 => 4
  | v + 1 => if !out.contains v && (g.pickM out v == 4 || decide (g.w1 v < g.w1 (g.pickM out v))) then v else g.pickM out v
def Gr.gm (g : Gr) : Nat → List Nat
  | 0 => []
  | k + 1 => g.gm k ++ [(g.elS (g.gm k)).pickM (g.gm k) 4]

theorem gr_all {P : Gr → Prop} (h : ∀ a b c d e f : Bool, P ⟨a, b, c, d, e, f⟩) (g : Gr) : P g := by
  obtain ⟨a, b, c, d, e, f⟩ := g
  exact h a b c d e f
theorem best_eq (g : Gr) : g.best = perms.getD (g.bix 23) [] := gr_all (P := fun g => g.best = perms.getD (g.bix 23) []) (by decide +kernel) g
theorem greedy_eq (g : Gr) : g.greedy = g.gm 4 := gr_all (P := fun g => g.greedy = g.gm 4) (by decide +kernel) g
theorem step_eq (g : Gr) : ∀ o ∈ ordsAll, o ≠ [] → (g.elS o.dropLast).w1 (o.getLastD 0) = g.wP (maskN o.dropLast) (o.getLastD 0) :=
  gr_all (P := fun g => ∀ o ∈ ordsAll, o ≠ [] → (g.elS o.dropLast).w1 (o.getLastD 0) = g.wP (maskN o.dropLast) (o.getLastD 0)) (by decide +kernel) g
theorem wid_eq (g : Gr) : ∀ o ∈ ordsAll, g.wid o = g.widTo o o.length := gr_all (P := fun g => ∀ o ∈ ordsAll, g.wid o = g.widTo o o.length) (by decide +kernel) g
theorem widM_eq (g : Gr) : ∀ o ∈ ordsAll, g.wid o = g.mwidTo o o.length := gr_all (P := fun g => ∀ o ∈ ordsAll, g.wid o = g.mwidTo o o.length) (by decide +kernel) g
theorem cl_closed (g : Gr) : ∀ T : Fin 16, ∀ v : Fin 4, g.stepJ T.val (g.cl T.val v.val) = g.cl T.val v.val :=
  gr_all (P := fun g => ∀ T : Fin 16, ∀ v : Fin 4, g.stepJ T.val (g.cl T.val v.val) = g.cl T.val v.val) (by decide +kernel) g
theorem cl_bd (g : Gr) : ∀ T : Fin 16, ∀ v : Fin 4, g.cl T.val v.val < 16 :=
  gr_all (P := fun g => ∀ T : Fin 16, ∀ v : Fin 4, g.cl T.val v.val < 16) (by decide +kernel) g
end Go.Proofs.Ytaipdkfbkcknkaa
