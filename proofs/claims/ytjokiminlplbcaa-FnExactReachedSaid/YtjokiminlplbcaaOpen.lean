/- Arguments opened: a statement by value, and lists of statements. -/
import Derived.Test.YtjokiminlplbcaaTo
import Derived.ProofKit
import Derived.OpenShut
import Derived.Deep.Slices
namespace Go.Proofs.Ytjokiminlplbcaa
set_option maxRecDepth 100000
open Go.ChangeShapes Go.WideShapes Go.RowKit Go.Deep

section
variable {H : Type} {enc : TypeId × Value → H} {w : World} {base : Nat} {spare : Nat → Bool} {held : Bool}
theorem cells_int : Try.prog.cellsOf 3 = 1 := by kernel_rfl
theorem cells_w : Try.prog.cellsOf 81 = 3 := by kernel_rfl
theorem cells_lawStmt : Try.prog.cellsOf 99 = 7 := by kernel_rfl

set_option maxRecDepth 100000 in
/-- What reads as a statement is seven numbers. -/
theorem stmt_of_trod {fuel : Nat} {cs : List Value} {x : DataW H × List MemPlace} (h : DataW.trod enc Try.prog w base spare held fuel 99 cs = some x) : ∃ s : St, cs = s.cells := by
  obtain ⟨xs, n, _, _, hl, hx, hf⟩ := DataW.trod_struct Try.underlying99 h
  rw [cells_lawStmt] at hl
  match cs, hl with
  | [c0, c1, c2, c3, c4, c5, c6], _ =>
    match xs, hx with
    | [y0, y1, y2, y3, y4], _ =>
      have f0 : DataW.trod enc Try.prog w base spare held n 3 ([c0, c1, c2, c3, c4, c5, c6].take (Try.prog.cellsOf 3)) = some y0 := hf 0 _ rfl
      have f1 : DataW.trod enc Try.prog w base spare held n 3 ([c1, c2, c3, c4, c5, c6].take (Try.prog.cellsOf 3)) = some y1 := hf 1 _ rfl
      have f2 : DataW.trod enc Try.prog w base spare held n 3 ([c2, c3, c4, c5, c6].take (Try.prog.cellsOf 3)) = some y2 := hf 2 _ rfl
      have f3 : DataW.trod enc Try.prog w base spare held n 3 ([c3, c4, c5, c6].take (Try.prog.cellsOf 3)) = some y3 := hf 3 _ rfl
      have f4 : DataW.trod enc Try.prog w base spare held n 81 ([c4, c5, c6].take (Try.prog.cellsOf 81)) = some y4 := hf 4 _ rfl
      rw [cells_int] at f0 f1 f2 f3
      rw [cells_w] at f4
      obtain ⟨zs, m, _, _, _, hz, hg⟩ := DataW.trod_array Try.underlying81 f4
      match zs, hz with
      | [z0, z1, z2], _ =>
        have g0 := hg 0 (by omega)
        have g1 := hg 1 (by omega)
        have g2 := hg 2 (by omega)
        rw [cells_int] at g0 g1 g2
        obtain ⟨k, e0, _⟩ := DataW.trod_int Try.underlying3 f0
        obtain ⟨a, e1, _⟩ := DataW.trod_int Try.underlying3 f1
        obtain ⟨b, e2, _⟩ := DataW.trod_int Try.underlying3 f2
        obtain ⟨c, e3, _⟩ := DataW.trod_int Try.underlying3 f3
        obtain ⟨u, e4, _⟩ := DataW.trod_int Try.underlying3 g0
        obtain ⟨v, e5, _⟩ := DataW.trod_int Try.underlying3 g1
        obtain ⟨q, e6, _⟩ := DataW.trod_int Try.underlying3 g2
        simp at e0 e1 e2 e3 e4 e5 e6
        exact ⟨⟨k, a, b, c, u, v, q⟩, by simp [St.cells, e0, e1, e2, e3, e4, e5, e6]⟩

set_option maxRecDepth 100000 in
/-- A parameter that is a statement by value. -/
theorem open_stmt {r : Reach} {b0 : Nat} {v : Value} {d : DataW H} {p : List MemPlace} (hv : Value.okWide Try.prog w r b0 99 v) (h : DataW.Trod enc Try.prog w base spare held 99 v d p) :
    ∃ k a b c u x y : Int, v = .agg #[.int .i64 k, .int .i64 a, .int .i64 b, .int .i64 c, .int .i64 u, .int .i64 x, .int .i64 y] := by
  obtain ⟨cs, rfl, hsz⟩ := okWide_struct Try.underlying99 hv
  obtain ⟨fuel, hf⟩ := h
  obtain ⟨s, hs⟩ := stmt_of_trod hf
  obtain ⟨l⟩ := cs
  simp [Value.cells] at hs
  exact ⟨s.k, s.a, s.b, s.c, s.u, s.v, s.x, by rw [hs]; rfl⟩
end
end Go.Proofs.Ytjokiminlplbcaa
