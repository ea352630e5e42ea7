/- The model's StmtOk returns what the document's table says. -/
import Derived.Test.YtjokiminlplbcaaStW
import Derived.Deep.Light
namespace Go.Proofs.Ytjokiminlplbcaa
set_option maxRecDepth 100000
open Go.RowKit

theorem bcell {W w1 : World} (hb : Below W.heap.size W w1) : (∀ b o, b < W.heap.size → w1.cell? ⟨b, o, none⟩ = W.cell? ⟨b, o, none⟩) ∧ (∀ b o, b < W.heap.size → w1.frozen? ⟨b, o, none⟩ = W.frozen? ⟨b, o, none⟩) :=
  ⟨fun b o h => hb.cell (p := ⟨b, o, none⟩) h, fun b o h => hb.frozen (p := ⟨b, o, none⟩) h⟩

theorem kind_cases (k : Int) : k = 0 ∨ k = 1 ∨ k = 2 ∨ k = 3 ∨ k = 4 ∨ k = 5 ∨ k = 6 ∨ k = 7 ∨ k < 0 ∨ (7 < k ∧ 0 ≤ k) := by omega

theorem ok_far {k a b c u v x : Int} (h : k < 0 ∨ (7 < k ∧ 0 ≤ k)) : (St.mk k a b c u v x).ok = false := by
  have e : ∀ n : Int, 0 ≤ n → n ≤ 7 → (k == n) = false := fun n h1 h2 => by simp; omega
  simp [St.ok, e 0 (by omega) (by omega), e 1 (by omega) (by omega), e 2 (by omega) (by omega), e 3 (by omega) (by omega), e 4 (by omega) (by omega), e 5 (by omega) (by omega), e 6 (by omega) (by omega), e 7 (by omega) (by omega)]

set_option maxHeartbeats 2000000 in
theorem specStmtOk_any (k a b c u v x : Int) (w : World) :
    Calls Try.prog 93 #[.agg #[.int .i64 k, .int .i64 a, .int .i64 b, .int .i64 c, .int .i64 u, .int .i64 v, .int .i64 x]] w fun e w' => e = .returned (.bool (St.mk k a b c u v x).ok) ∧ Below w.heap.size w w' := by
  rcases kind_cases k with rfl | rfl | rfl | rfl | rfl | rfl | rfl | rfl | h | ⟨h, h'⟩
  all_goals
    go_enter Try.func93, Try.ntmps93
    go_wp2_with (first | (go_at_call 72; refine (l1In_any _ _ _ _).mono ?_; rintro e w' ⟨rfl, rfl⟩) | (go_at_call 111; refine (l1Var_any _ _).mono ?_; rintro e w' ⟨rfl, rfl⟩) | (go_at_call 110; refine (l1Weights_any _ _ _ _).mono ?_; rintro e w1 ⟨rfl, hb⟩; obtain ⟨hcell, hfz⟩ := bcell hb))
    all_goals
      go_ret
      refine ⟨ret_bool ?_, ?_⟩
      · go_light; first | (rw [ok_far (by omega)]; done) | (simp_all [St.ok, wZero, bne]; done)
      · first | exact ((Below.refl _ _).alloc (Nat.le_refl _) _) | exact ((Below.refl _ _).alloc (Nat.le_refl _) _).trans (hb.mono (by simp))
end Go.Proofs.Ytjokiminlplbcaa
