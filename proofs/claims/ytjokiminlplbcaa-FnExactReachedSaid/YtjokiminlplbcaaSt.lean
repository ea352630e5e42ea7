/- Statements as seven numbers, and what the document's table says of them; plain functions. -/
import Derived.Test.YtjokiminlplbcaaScal
namespace Go.Proofs.Ytjokiminlplbcaa
set_option maxRecDepth 100000
open Go.RowKit

/-- A statement: its kind, A, B, C and three weights. -/
structure St where
  k : Int
  a : Int
  b : Int
  c : Int
  u : Int
  v : Int
  x : Int

/-- The cells of a statement, one behind the other. -/
def St.cells (s : St) : List Value := [.int .i64 s.k, .int .i64 s.a, .int .i64 s.b, .int .i64 s.c, .int .i64 s.u, .int .i64 s.v, .int .i64 s.x]

/-- All seven fit an int. -/
def St.wf (s : St) : Prop := ∀ v ∈ s.cells, ∃ n, v = .int .i64 n ∧ (Lit.int .i64 n).wf = true

def wZero (u v x : Int) : Bool := (u == 0) && (v == 0) && (x == 0)
def wOk (u v x : Int) : Bool := inB u 0 9 && inB v 0 9 && inB x 0 9 && decide (0 < u + v + x)

/-- Whether seven numbers are a statement (the document's table). -/
def St.ok (s : St) : Bool :=
  (s.k == 0 && (inB s.a 0 3 && inB s.b (-1) 3 && inB s.c 0 2 && wZero s.u s.v s.x)) ||
  (s.k == 1 && (inB s.a 0 3 && inB s.b 0 3 && !(s.a == s.b) && (s.c == 0) && wZero s.u s.v s.x)) ||
  (s.k == 2 && (inB s.a 0 3 && (s.b == 0) && (s.c == 0) && wOk s.u s.v s.x)) ||
  (s.k == 3 && (inB s.a 0 3 && inB s.b 0 3 && !(s.a == s.b) && (s.c == 0) && wOk s.u s.v s.x)) ||
  (s.k == 4 && (inB s.a 0 3 && (s.b == 0) && (s.c == 0) && wOk s.u s.v s.x)) ||
  (s.k == 5 && (inB s.a 0 3 && inB s.b 0 3 && !(s.a == s.b) && (s.c == 0) && wOk s.u s.v s.x)) ||
  (s.k == 6 && (inB s.a 0 3 && inB s.b 1 12 && inB s.c 0 2 && wZero s.u s.v s.x)) ||
  (s.k == 7 && ((s.a == 0) && inB s.b 1 10 && inB s.c 0 3 && wZero s.u s.v s.x))

end Go.Proofs.Ytjokiminlplbcaa
