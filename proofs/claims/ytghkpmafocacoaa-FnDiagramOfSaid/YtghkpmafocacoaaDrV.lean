/- Drawn programs, and what the source of numbers is behind them. A drawn program and draws for it. Drawn traces, and drawn texts of traces. A drawn argument of Unrolled. Drawn programs for the laws of traces, alone and with draws. -/
import Derived.Test.YtghkpmafocacoaaDr
import Derived.Test.YtghkpmafocacoaaFm
import Derived.Test.YtghkpmafocacoaaTx
import Derived.Test.YtghkpmafocacoaaOpB
namespace Go.Proofs.Ytghkpmafocacoaa
set_option maxRecDepth 100000
set_option linter.unusedVariables false
open Go.RowKit

/-- How a drawn program ends: it is well formed, in memory of its own behind the source, and the source goes on. -/
def Anyr (w : World) (R : Nat) (A : Option Addr) (n c p : Nat) (e : Ending) (w' : World) : Prop :=
  ∃ (v : Value) (os : List St) (p' : Nat), e = .returned v ∧ Own w' (w.heap.size + 1) v os ∧ os.length ≤ 11 ∧ Below w.heap.size w w' ∧ p' ≤ p + 300 ∧ Rdr w' R R A n c p'

end Go.Proofs.Ytghkpmafocacoaa

namespace Go.Proofs.Ytghkpmafocacoaa
set_option maxRecDepth 100000
set_option linter.unusedVariables false
open Go.RowKit

theorem rowsT_len {ps : List St} : ∀ ds ∈ rowsT (tracesOf ps), ds.length ≤ 6 := by
  intro ds hd
  unfold rowsT at hd
  obtain ⟨l, hl, rfl⟩ := List.mem_map.1 hd
  cases hu : unrolled ps with
  | none => rw [tracesOf_none hu] at hl; simp at hl
  | some os =>
    by_cases hm : 6 < (os.filter St.draws).length
    · rw [tracesOf_many hu hm] at hl; simp at hl
    · rw [tracesOf_some hu (by omega)] at hl
      obtain ⟨_, _, _, _, hOK⟩ := unrolled_parts hu
      have := (traces_fit (fun s hs => List.all_eq_true.1 hOK s hs) hl).2.2.2
      omega

theorem Rdr.below {w w' : World} {R : Nat} {A : Option Addr} {n c p B : Nat} (h : Rdr w R R A n c p) (hb : Below B w w') (hB : R < B) : Rdr w' R R A n c p :=
  ⟨h.1.below hb hB, h.2.1, h.2.2.keep (hb.mono (Nat.le_of_lt hB))⟩

/-- How drawing a program and draws ends. -/
def Cased (w : World) (e : Ending) (w' : World) : Prop :=
  ∃ (v u : Value) (os : List St) (ds : List Int), e = .returned (.tuple #[v, u]) ∧ Own w' w.heap.size v os ∧ os.length ≤ 11 ∧ IOwn w' w.heap.size u ds ∧ ds.length ≤ 12 ∧ Below w.heap.size w w'
theorem own_le {w : World} {base base' : Nat} {v : Value} {os : List St} (h : Own w base v os) (hb : base' ≤ base) : Own w base' v os := owns_le h hb

end Go.Proofs.Ytghkpmafocacoaa

namespace Go.Proofs.Ytghkpmafocacoaa
set_option maxRecDepth 100000
set_option linter.unusedVariables false
open Go.RowKit

end Go.Proofs.Ytghkpmafocacoaa

namespace Go.Proofs.Ytghkpmafocacoaa
set_option maxRecDepth 100000
open Go.RowKit

end Go.Proofs.Ytghkpmafocacoaa

namespace Go.Proofs.Ytghkpmafocacoaa
set_option maxRecDepth 100000
set_option linter.unusedVariables false
open Go.RowKit

end Go.Proofs.Ytghkpmafocacoaa
