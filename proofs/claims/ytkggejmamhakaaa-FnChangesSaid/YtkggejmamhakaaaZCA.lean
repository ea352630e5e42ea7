/- Parts of the proof: Wcp, OpB. -/
import Derived.StillTailTactics
import Derived.Test.YtkggejmamhakaaaZAH
import Derived.Test.YtkggejmamhakaaaZAC
import Derived.Test.YtkggejmamhakaaaZAI
namespace Go.Proofs.Ytkggejmamhakaaa
set_option maxRecDepth 100000
open Go.RowKit
theorem eqArr (d : Nat) (u v x : Int) (w : World) : (Op.equalIn (d + 2) 61 (.agg #[.int .i64 u, .int .i64 v, .int .i64 x]) (.agg #[.int .i64 u, .int .i64 v, .int .i64 x])).run Try.prog w = .ok true w := by
  have u3 := Try.underlying3
  have a3 := Try.isAgg3
  have z3 := Try.sizeOf3
  rw [show d + 2 = (d + 1) + 1 from rfl, Op.equalIn]
  simp only [Sem.run_bind, run_underlying Try.underlying61, Result.andThen_ok]
  simp only [Std.Legacy.Range.forIn_eq_forIn_range', Std.Legacy.Range.size, Nat.sub_zero, Nat.add_sub_cancel, Nat.div_one, List.range'_succ, List.range'_zero, List.forIn_cons, List.forIn_nil]
  go_simp
theorem eqArr9999 (u v x : Int) (w : World) : (Op.equalIn 9999 61 (.agg #[.int .i64 u, .int .i64 v, .int .i64 x]) (.agg #[.int .i64 u, .int .i64 v, .int .i64 x])).run Try.prog w = .ok true w := eqArr 9997 u v x w
attribute [local go_sem] eqArr9999
theorem wcProgram_same (A A2 : Option Addr) (n c c2 : Nat) (ps : List St) (w : World) (h : Lst w w.heap.size A n ps) (h2 : Lst w w.heap.size A2 n ps) (hn : n ≤ maxLen) :
    Calls Try.prog 14 #[.slice A n c, .slice A2 n c2] w fun e w' => e = .returned (.bool true) ∧ Below w.heap.size w w' := by
  unfold maxLen at hn
  have hH := Lib.hid h
  have hH2 := Lib.hid h2
  clear h h2
  go_enter Try.func14, Try.ntmps14
  go_wp2
  go_loopw [13] (fun i wr => ∃ k : Nat, k ≤ n ∧ i = .int .i64 k ∧ Below w.heap.size w wr) (fun i _ => n - (intOf i).toNat)
  case atStart => exact ⟨0, Nat.zero_le _, rfl, Below.refl _ _⟩
  case round =>
    obtain ⟨k, hk, rfl, hb⟩ := hrel
    by_cases hlt : k < n
    · obtain ⟨g, off, s, rfl, hg, hs, hat⟩ := (hH.out.below hb).at_ hlt
      obtain ⟨g2, off2, s2, rfl, hg2, hs2, hat2⟩ := (hH2.out.below hb).at_ hlt
      obtain rfl : s2 = s := Option.some.inj (hs2.symm.trans hs)
      obtain ⟨c0, c1, c2', c3, c4, c5, c6⟩ := hat.open_
      obtain ⟨d0, d1, d2, d3, d4, d5, d6⟩ := hat2.open_
      clear hs hs2 hat hat2
      have hk0 : (0 : Int) ≤ (k : Int) := Int.natCast_nonneg _
      have hk1 : (k : Int) < (n : Int) := by omega
      go_wp2
      go_still_tail 8, (by kernel_rfl)
      change wpList _ _ _ _ _ wr.drew
      go_wp2
      go_roundw
      case rel => exact ⟨k + 1, by omega, by go_num, hb.drew⟩
      case measure => (simp [intOf]; try omega)
    · go_wp2
      go_ret
      exact ⟨rfl, hb⟩
end Go.Proofs.Ytkggejmamhakaaa

namespace Go.Proofs.Ytkggejmamhakaaa
set_option maxRecDepth 100000
open Go.ChangeShapes Go.WideShapes Go.ChangeAt Go.RowKit Go.Deep
set_option maxRecDepth 100000 in
theorem open_bytes {H : Type} {enc : TypeId × Value → H} {w : World} {b0 : Nat} {r : Reach} {v : Value} {d : DataW H} {p : List MemPlace} (hv : Value.okWide Try.prog w r b0 22 v) (h : DataW.Trod enc Try.prog w 0 (fun _ => true) true 22 v d p) :
    ∃ (A : Option Addr) (n c : Nat), v = .slice A n c ∧ n ≤ c ∧ c ≤ maxLen ∧ Byt w w.heap.size A n := by
  obtain ⟨A, n, c, rfl⟩ := okWide_slice Try.underlying22 hv
  obtain ⟨fuel, hf⟩ := h
  rcases open_ints Try.underlying22 Try.underlying5 (by kernel_rfl) hf with ⟨hcs, _⟩ | ⟨x, l, c', zs, hcs, _, hl, hm, hz, _, hcell, hwz⟩
  · simp [Value.cells] at hcs
    obtain ⟨rfl, rfl, rfl⟩ := hcs
    exact ⟨none, 0, 0, rfl, Nat.le_refl _, by simp [maxLen], fun h => absurd h (by omega)⟩
  · simp [Value.cells] at hcs
    obtain ⟨rfl, rfl, rfl⟩ := hcs
    refine ⟨some x, n, c, rfl, hl, hm, fun hn => ?_⟩
    have hz' : zs.length = c := by simpa using hz
    obtain ⟨g, off, spot⟩ := x
    have h0 := hcell 0 (by omega)
    have hspot : spot = none := by simpa [Addr.add] using World.cell?_spot h0
    subst hspot
    have hlt := World.block_lt_of_cell? w _ h0
    refine ⟨g, off, rfl, by simpa [Addr.add] using hlt, fun i hi => ?_⟩
    have hi' : i < zs.length := by omega
    have hw := hwz (zs.getD i 0) (by rw [List.getD_eq_getElem?_getD, List.getElem?_eq_getElem hi']; exact List.getElem_mem hi')
    have hbd := bounds_u8 hw
    refine ⟨zs.getD i 0, ?_, hbd.1, hbd.2⟩
    rw [← hcell i hi']
    congr 1
    unfold Addr.add
    split
    · (rename_i h0; simp; try omega)
    · (simp; try omega)
end Go.Proofs.Ytkggejmamhakaaa
