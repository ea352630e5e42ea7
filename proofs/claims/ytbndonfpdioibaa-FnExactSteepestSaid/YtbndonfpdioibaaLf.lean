/- A loop in a frame of many slots: the slots that are not named stand as the values of ONE function, not as so many variables: what is proved within stays small for the kernel. -/
import Derived.Deep.LoopGhost
import Derived.Below
namespace Go.Proofs.Ytbndonfpdioibaa
open Go
/-- What is left of a list. -/
noncomputable def drp (l : List Value) (n : Nat) : List Value := Nat.rec l (fun _ t => t.tail) n
/-- A list's value by its number. -/
noncomputable def nth (l : List Value) (n : Nat) : Value := (drp l n).headD Go.undef
theorem wp_loop_f {P : Program} {Q : Exit → Act → World → Prop} {d : List Deferred} {w : World} {c : Code} {ts : List Value} (F : Value → (Nat → Value) → List Value) (I : Nat → Value → World → Prop) (n0 : Nat) (x0 : Value) (hF : F x0 (nth ts) = ts) (h0 : I n0 x0 w)
    (round : ∀ n x u w, I n x w → ∀ (J : Nat → Act → World → Prop) (K : Act → World → Prop), Go.RowKit.Hid (∀ k x' (ts' : List Value) w', F x' (nth ts') = ts' → I k x' w' → J k ⟨ts'.toArray, d⟩ w') → (∀ a' w', Handed J n a' w' → K a' w') → c.wp P (Exit.then K Q) ⟨(F x u).toArray, d⟩ w) : (Code.loop c).wp P Q ⟨ts.toArray, d⟩ w := by
  refine wp_loop_ghost_k (fun k a' w' => ∃ x u, I k x w' ∧ a' = ⟨(F x u).toArray, d⟩) n0 ⟨x0, _, h0, by rw [hF]⟩ ?_
  rintro n a w ⟨x, u, hI, rfl⟩ J K hJ hK
  exact round n x u w hI J K (fun k x' ts' w' h1 h2 => hJ k _ w' ⟨x', _, h2, by rw [h1]⟩) hK
end Go.Proofs.Ytbndonfpdioibaa
