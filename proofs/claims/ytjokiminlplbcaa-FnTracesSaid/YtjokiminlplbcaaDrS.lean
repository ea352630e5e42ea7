/- Drawn arguments of chapter 1 that are statements and numbers. -/
import Derived.Test.YtjokiminlplbcaaRdS
namespace Go.Proofs.Ytjokiminlplbcaa
set_option maxRecDepth 100000
open Go.RowKit

theorem Byt.more {w : World} {B B' : Nat} {A : Option Addr} {n : Nat} (h : Byt w B A n) (hB : B ≤ B') : Byt w B' A n := fun hn => by
  obtain ⟨g, off, e, hg, hc⟩ := h hn
  exact ⟨g, off, e, by omega, hc⟩

def StD (w : World) (e : Ending) (w' : World) : Prop :=
  ∃ (k a b d u v x : Int), e = .returned (.agg #[.int .i64 k, .int .i64 a, .int .i64 b, .int .i64 d, .int .i64 u, .int .i64 v, .int .i64 x]) ∧ Below w.heap.size w w'

def NumsD (w : World) (e : Ending) (w' : World) : Prop := ∃ s v x : Int, e = .returned (.tuple #[.int .i64 s, .int .i64 v, .int .i64 x]) ∧ Below w.heap.size w w'

end Go.Proofs.Ytjokiminlplbcaa
