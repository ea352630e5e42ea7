/- The laws' comparison of two programs, where they are one. -/
import Derived.Test.YtkibkmheomlafaaUnP
import Derived.StillTailTactics
namespace Go.Proofs.Ytkibkmheomlafaa
set_option maxRecDepth 100000
open Go.RowKit

theorem eqArr (d : Nat) (u v x : Int) (w : World) : (Op.equalIn (d + 2) 63 (.agg #[.int .i64 u, .int .i64 v, .int .i64 x]) (.agg #[.int .i64 u, .int .i64 v, .int .i64 x])).run Try.prog w = .ok true w := by
  have u3 := Try.underlying3
  have a3 := Try.isAgg3
  have z3 := Try.sizeOf3
  rw [show d + 2 = (d + 1) + 1 from rfl, Op.equalIn]
  simp only [Sem.run_bind, run_underlying Try.underlying63, Result.andThen_ok]
  simp only [Std.Legacy.Range.forIn_eq_forIn_range', Std.Legacy.Range.size, Nat.sub_zero, Nat.add_sub_cancel, Nat.div_one, List.range'_succ, List.range'_zero, List.forIn_cons, List.forIn_nil]
  go_simp

theorem eqStruct (k a b c u v x : Int) (w : World) : (Op.equalIn 10000 65 (.agg #[.int .i64 k, .int .i64 a, .int .i64 b, .int .i64 c, .int .i64 u, .int .i64 v, .int .i64 x]) (.agg #[.int .i64 k, .int .i64 a, .int .i64 b, .int .i64 c, .int .i64 u, .int .i64 v, .int .i64 x])).run Try.prog w = .ok true w := by
  have u3 := Try.underlying3
  have a3 := Try.isAgg3
  have z3 := Try.sizeOf3
  have a30 := Try.isAgg63
  have z30 := Try.sizeOf63
  have hS : Try.prog.underlying 65 = some (.struct (Try.prog.fieldsOf 65)) := by kernel_rfl
  have he := fun w => eqArr 9997 u v x w
  rw [show (10000 : Nat) = 9999 + 1 from rfl, run_equalIn_agg w 9999 65 _ _ hS (by kernel_rfl)]
  simp only [Program.fieldsOf, Try.underlying65]
  go_simp

theorem eqArr9999 (u v x : Int) (w : World) : (Op.equalIn 9999 63 (.agg #[.int .i64 u, .int .i64 v, .int .i64 x]) (.agg #[.int .i64 u, .int .i64 v, .int .i64 x])).run Try.prog w = .ok true w := eqArr 9997 u v x w
attribute [local go_sem] eqArr9999

theorem wcProgram_same (A A2 : Option Addr) (n c c2 : Nat) (ps : List St) (w : World) (h : Lst w w.heap.size A n ps) (h2 : Lst w w.heap.size A2 n ps) (hn : n ≤ maxLen) :
    Calls Try.prog 15 #[.slice A n c, .slice A2 n c2] w fun e w' => e = .returned (.bool true) ∧ Below w.heap.size w w' := by
  unfold maxLen at hn
  have hH := Lib.hid h
  have hH2 := Lib.hid h2
  clear h h2
  go_enter Try.func15, Try.ntmps15
  go_wp2
  go_loopw [13] (fun i wr => ∃ k : Nat, k ≤ n ∧ i = .int .i64 k ∧ Below w.heap.size w wr) (fun i _ => n - (intOf i).toNat)
  case atStart => exact ⟨0, Nat.zero_le _, rfl, Below.refl _ _⟩
  case round =>
    obtain ⟨k, hk, rfl, hb⟩ := hrel
    by_cases hlt : k < n
    · obtain ⟨g, off, s, rfl, hg, hs, hat⟩ := (hH.out.below hb).at_ hlt
      obtain ⟨g2, off2, s2, rfl, hg2, hs2, hat2⟩ := (hH2.out.below hb).at_ hlt
      obtain rfl : s2 = s := Option.some.inj (hs2.symm.trans hs)
      obtain ⟨c0, c1, c2', c3, c4, c5, c6⟩ := hat.open_
      obtain ⟨d0, d1, d2, d3, d4, d5, d6⟩ := hat2.open_
      clear hs hs2 hat hat2
      have hk0 : (0 : Int) ≤ (k : Int) := Int.natCast_nonneg _
      have hk1 : (k : Int) < (n : Int) := by omega
      go_wp2
      go_still_tail 8, (by kernel_rfl)
      change wpList _ _ _ _ _ wr.drew
      go_wp2
      go_roundw
      case rel => exact ⟨k + 1, by omega, by go_num, hb.drew⟩
      case measure => (simp [intOf]; try omega)
    · go_wp2
      go_ret
      exact ⟨rfl, hb⟩
end Go.Proofs.Ytkibkmheomlafaa
