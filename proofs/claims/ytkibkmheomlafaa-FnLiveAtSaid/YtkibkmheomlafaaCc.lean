/- Which kinds may be where in a change: the program's mayStand. Windows of two statements, and whether a change fits there: the program's windowAt, factorOf, swapFits and changeFits. By what a change makes the total less: the program's factorOf. -/
import Derived.Test.YtkibkmheomlafaaCa
import Derived.Test.YtkibkmheomlafaaCb
namespace Go.Proofs.Ytkibkmheomlafaa
set_option maxRecDepth 100000
set_option linter.unusedVariables false
open Go.RowKit

end Go.Proofs.Ytkibkmheomlafaa

namespace Go.Proofs.Ytkibkmheomlafaa
set_option maxRecDepth 100000
set_option linter.unusedVariables false
open Go.RowKit

/-- A part of a list reads as a list. -/
theorem Lst.part_ {w : World} {B n k m g off : Nat} {ps : List St} (h : Lst w B (some ⟨g, off, none⟩) n ps) (hn : 0 < n) (hk : k + m ≤ n) : Lst w B (some ⟨g, off + k * 7, none⟩) m ((ps.drop k).take m) := by
  obtain ⟨g', off', e, hg, hc⟩ := h.2 hn
  injection e with e
  injection e with e1 e2 _
  subst e1 e2
  refine ⟨by rw [List.length_take, List.length_drop, h.1]; omega, fun _ => ⟨g, _, rfl, hg, fun i s hs => ?_⟩⟩
  rw [List.getElem?_take] at hs
  split at hs
  · rw [List.getElem?_drop] at hs
    have := hc (k + i) s hs
    rwa [show off + (k + i) * 7 = off + k * 7 + i * 7 by omega] at this
  · cases hs
theorem win_len {ps : List St} {k : Nat} {a : St} (ha : ps[k]? = some a) : (a :: ps[k + 1]?.toList) = (ps.drop k).take 2 := by
  rw [drop_cons ha]
  show _ = a :: (ps.drop (k + 1)).take 1
  cases hb : ps[k + 1]? with
  | none => rw [List.drop_eq_nil_of_le (List.getElem?_eq_none_iff.1 hb)]; rfl
  | some b => rw [drop_cons hb]; rfl

def Wind (w : World) (B : Nat) (a : St) (ob : Option St) (e : Ending) (w' : World) : Prop :=
  ∃ A c, e = .returned (.slice A (1 + ob.toList.length) c) ∧ 1 + ob.toList.length ≤ c ∧ c ≤ maxLen ∧ Lst w B A (1 + ob.toList.length) (a :: ob.toList) ∧ w = w'
theorem two_of {w w0 : World} {g h : Nat} {a b : St} (h1 : Has w0 g 65 #[.int .i64 a.k, .int .i64 a.a, .int .i64 a.b, .int .i64 a.c, .int .i64 a.u, .int .i64 a.v, .int .i64 a.x]) (h2 : Has w0 h 65 #[.int .i64 b.k, .int .i64 b.a, .int .i64 b.b, .int .i64 b.c, .int .i64 b.u, .int .i64 b.v, .int .i64 b.x]) (hb : Below w0.heap.size w0 w) :
    Below w0.heap.size w0 w ∧ w.cell? ⟨g, 0, none⟩ = some (.int .i64 a.k) ∧ w.cell? ⟨g, 1, none⟩ = some (.int .i64 a.a) ∧ w.cell? ⟨g, 2, none⟩ = some (.int .i64 a.b) ∧ w.cell? ⟨g, 3, none⟩ = some (.int .i64 a.c) ∧ w.cell? ⟨g, 4, none⟩ = some (.int .i64 a.u) ∧ w.cell? ⟨g, 5, none⟩ = some (.int .i64 a.v) ∧ w.cell? ⟨g, 6, none⟩ = some (.int .i64 a.x) ∧ w.cell? ⟨h, 0, none⟩ = some (.int .i64 b.k) ∧ w.cell? ⟨h, 1, none⟩ = some (.int .i64 b.a) ∧ w.cell? ⟨h, 2, none⟩ = some (.int .i64 b.b) ∧ w.cell? ⟨h, 3, none⟩ = some (.int .i64 b.c) ∧ w.cell? ⟨h, 4, none⟩ = some (.int .i64 b.u) ∧ w.cell? ⟨h, 5, none⟩ = some (.int .i64 b.v) ∧ w.cell? ⟨h, 6, none⟩ = some (.int .i64 b.x) :=
  ⟨hb, (h1.kept hb).cell 0, (h1.kept hb).cell 1, (h1.kept hb).cell 2, (h1.kept hb).cell 3, (h1.kept hb).cell 4, (h1.kept hb).cell 5, (h1.kept hb).cell 6, (h2.kept hb).cell 0, (h2.kept hb).cell 1, (h2.kept hb).cell 2, (h2.kept hb).cell 3, (h2.kept hb).cell 4, (h2.kept hb).cell 5, (h2.kept hb).cell 6⟩
end Go.Proofs.Ytkibkmheomlafaa

namespace Go.Proofs.Ytkibkmheomlafaa
set_option maxRecDepth 100000
set_option linter.unusedVariables false
open Go.RowKit

/-- A statement's weights read as a list of numbers. -/
theorem wts_ils {w : World} {g : Nat} {s : St} (h : Has w g 65 #[.int .i64 s.k, .int .i64 s.a, .int .i64 s.b, .int .i64 s.c, .int .i64 s.u, .int .i64 s.v, .int .i64 s.x]) : Ils w w.heap.size (some ⟨g, 4, none⟩) 3 [s.u, s.v, s.x] := by
  have hc := h.cell
  refine ⟨rfl, fun _ => ⟨g, 4, rfl, h.lt, fun k d hd => ?_⟩⟩
  have hk : k < 3 := (List.getElem?_eq_some_iff.1 hd).1
  obtain rfl | rfl | rfl : k = 0 ∨ k = 1 ∨ k = 2 := by omega
  · obtain rfl : s.u = d := by simpa using hd
    exact hc 4
  · obtain rfl : s.v = d := by simpa using hd
    exact hc 5
  · obtain rfl : s.x = d := by simpa using hd
    exact hc 6
end Go.Proofs.Ytkibkmheomlafaa
