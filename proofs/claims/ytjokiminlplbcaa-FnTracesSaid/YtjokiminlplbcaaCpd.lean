/- The program's copy of a list of numbers. -/
import Derived.Test.YtjokiminlplbcaaRwk
import Derived.Laws.CopyOwn
namespace Go.Proofs.Ytjokiminlplbcaa
set_option maxRecDepth 100000
set_option linter.unusedVariables false
open Go.RowKit

theorem copied_any (A : Option Addr) (n c : Nat) (ds : List Int) (w : World) (h : Ils w w.heap.size A n ds) (hn : n ≤ 1048576) :
    Calls Try.prog 60 #[.slice A n c] w fun e w' => e = .returned (.slice (some ⟨w.heap.size, 0, none⟩) n n) ∧ IOwn w' w.heap.size (.slice (some ⟨w.heap.size, 0, none⟩) n n) ds ∧ Below w.heap.size w w' := by
  have hL := Lib.hid h.1
  have hH := Lib.hid h
  clear h
  obtain ⟨i0, hi0, hz0, hz1', hz2'⟩ := info_parts info_int
  have hmk : ∀ wx : World, (Instr.makeSlice 28 (.int .i64 (n : Int)) (.int .i64 (n : Int))).run Try.prog wx = .ok (.slice (some ⟨wx.heap.size, 0, none⟩) n n) (wx.alloc (.cells (madeCells (Value.int .i64 0).cells (n * 1)) 3)) := by
    intro wx
    have hr := run_make (P := Try.prog) wx 28 3 i0 _ Try.underlying28 hi0 hz0 .i64 .i64 (n : Int) (n : Int) (by omega) (by omega) (by rw [hz2']; omega) (by omega)
    rw [hz1'] at hr
    simp only [Int.toNat_natCast] at hr
    exact hr
  go_enter Try.func60, Try.ntmps60
  have hb0 : Below w.heap.size w (w.alloc (.cells (madeCells #[.int .i64 0] n) 3)) := (Below.refl _ _).alloc (Nat.le_refl _) _
  obtain ⟨cur, hcur⟩ : ∃ cur : List Value, cur = (madeCells #[.int .i64 0] n).toList := ⟨_, rfl⟩
  have hcl : cur.length = n := by rw [hcur, Array.length_toList, size_madeCells]
  have hg : (w.alloc (.cells (madeCells #[.int .i64 0] n) 3)).heap[w.heap.size]? = some (.cells cur.toArray 3 (0, 0)) := by
    rw [hcur]
    exact Has.new w 3 (madeCells #[.int .i64 0] n)
  obtain ⟨cs, hcs⟩ : ∃ cs, cs = ints ds := ⟨_, rfl⟩
  have hcsl : cs.length = n := by rw [hcs, ints_length]; exact hL.out
  have hone : ∀ v ∈ cs, v.oneCell' = true := by rw [hcs]; exact ints_one ds
  have hpos := Lib.hid (show 0 < cs.length → (some (⟨w.heap.size, 0, none⟩ : Addr)) = some ⟨w.heap.size, 0, none⟩ ∧ ∃ ad, A = some ad ∧ ∀ j v, cs[j]? = some v → (w.alloc (.cells (madeCells #[.int .i64 0] n) 3)).cell? (ad.add j) = some v from fun hp => by
    obtain ⟨g, off, hA, hgl, hc⟩ := hH.out.2 (by omega)
    refine ⟨rfl, _, hA, fun j v hv => ?_⟩
    rw [hcs] at hv
    unfold ints at hv
    rw [List.getElem?_map] at hv
    obtain ⟨d, hd, rfl⟩ := Option.map_eq_some_iff.1 hv
    have := hc j d hd
    rw [← this, hb0.cell (by unfold Addr.add; split <;> exact hgl)]
    congr 1
    unfold Addr.add
    split
    · (rename_i h0; simp at h0 ⊢; try omega)
    · (simp; try omega))
  have hG := Lib.hid hg
  have hmn := Lib.hid (show cs.length = Nat.min n n from by rw [hcsl]; exact (Nat.min_self n).symm)
  have hft := Lib.hid (show 0 + cs.length ≤ cur.length from by omega)
  have hsz : (Try.prog.info? 3).map (·.size) = some 1 := by rw [hi0]; exact congrArg some hz1'
  clear hg
  go_wp2_with (refine wpList_copy_splice rfl (.tmp 7) (.tmp 8) 28 28 rfl 3 Try.underlying28 hsz (some ⟨w.heap.size, 0, none⟩) A n n n c rfl rfl w.heap.size 0 cur 3 hG.out cs hmn.out hpos.out hft.out hone w.heap.size w hb0 (Nat.le_refl _) ?_; intro w2 hG2 hb2)
  go_ret
  refine ⟨rfl, ?_, hb2⟩
  have hsp : splice cur 0 cs = ints ds := by
    unfold splice
    rw [hcs, List.take_zero, List.nil_append, List.drop_eq_nil_of_le (by rw [hcl, ints_length, hL.out]; omega), List.append_nil]
  exact IOwn.of_has (cs := (splice cur 0 cs).toArray) hG2.out (by rw [hsp]) hL.out (Nat.le_refl _) (by unfold maxLen; omega)
end Go.Proofs.Ytjokiminlplbcaa
