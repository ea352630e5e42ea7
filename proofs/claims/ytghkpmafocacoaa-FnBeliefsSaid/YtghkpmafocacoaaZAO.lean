/- Parts of the proof: Gq. -/
import Derived.Test.YtghkpmafocacoaaZAN
namespace Go.Proofs.Ytghkpmafocacoaa
set_option maxRecDepth 100000
set_option linter.unusedVariables false
open Go.RowKit
theorem FacD.put {w wr : World} {R G g2 n c2 : Nat} {v1 : Value} {vs ds : List Int} (h : FacD w R wr G v1 (.slice (some ⟨g2, 0, none⟩) n c2) vs ds) (hd : ∀ b, v1.ownBlock = some b → (Value.slice (some ⟨g2, 0, none⟩) n c2).ownBlock ≠ some b) (hl : ds.length = n ∧ 0 < n) (hg : w.heap.size ≤ g2) (x : Int) :
    FacD w R (wr.setCell ⟨g2, 0, none⟩ (.int .i64 x)) G v1 (.slice (some ⟨g2, 0, none⟩) n c2) vs (ds.set 0 x) := by
  obtain ⟨h1, h2, h3, h4, h5⟩ := h
  have hk : KeptBut wr (wr.setCell ⟨g2, 0, none⟩ (.int .i64 x)) (fun i => i = g2) := (KeptBut.refl wr (fun i => i = g2)).put (p := ⟨g2, 0, none⟩) (fun _ => rfl) _
  refine ⟨?_, h2.but hk (fun k e1 e2 => hd k e1 (by simp [Value.ownBlock, e2])), h3.but hk (fun e => ?_), h4.but hk (fun e => ?_), h5.new (q := ⟨g2, 0, none⟩) hg _⟩
  · unfold IOwn at h1 ⊢
    rw [List.length_set, hl.1] at *
    exact owns_set h1 hl.2
  · exact iown_ne h1 h3 (by decide) g2 (by simp [Value.ownBlock]) e.symm
  · exact iown_ne h1 h4 (by decide) g2 (by simp [Value.ownBlock]) e.symm
end Go.Proofs.Ytghkpmafocacoaa
