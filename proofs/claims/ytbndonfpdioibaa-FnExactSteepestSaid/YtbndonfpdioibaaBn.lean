/- What goes backward, as it is made: the program's backwardOf. -/
import Derived.Test.YtbndonfpdioibaaBf
import Derived.Test.YtbndonfpdioibaaRa
namespace Go.Proofs.Ytbndonfpdioibaa
set_option maxRecDepth 100000
set_option linter.unusedVariables false
open Go.RowKit

theorem info_ints : (Try.prog.info? 24).map (fun i => (i.zero, i.size, i.bytes)) = some (some (.slice none 0 0), 1, 24) := by kernel_rfl
theorem info_bwd : (Try.prog.info? 146).map (fun i => (i.zero, i.size)) = some (some (.agg #[.slice none 0 0, .slice none 0 0, .slice none 0 0, .slice none 0 0]), 4) := by kernel_rfl
/-- How it is made. -/
def Bkd (w : World) (A : Option Addr) (m c : Nat) (v2 : Value) (ds : List Int) (e : Ending) (w' : World) : Prop :=
  ∃ gr gy cs ks, e = .returned (.agg #[.slice A m c, v2, .slice (some ⟨gr, 0, none⟩) 81 81, .slice (some ⟨gy, 0, none⟩) (m + 1) (m + 1)]) ∧ w.heap.size ≤ gr ∧ w.heap.size ≤ gy ∧ Has w' gr 3 cs ∧ RowA cs (fun st => ds.getD st.toNat 0) ∧ Has w' gy 24 ks ∧ ks.size = m + 1 ∧ Below w.heap.size w w'
set_option maxHeartbeats 1000000 in
theorem backwardOf_any (A F : Option Addr) (m c c2 : Nat) (a2 : Option Addr) (n2 d2 : Nat) (ds : List Int) (w : World) (hd : Ils w w.heap.size F 81 ds) (hl : ds.length = 81) (hm : m ≤ 12) :
    Calls Try.prog 129 #[.slice A m c, .slice F 81 c2, .slice a2 n2 d2] w (Bkd w A m c (.slice a2 n2 d2) ds) := by
  have cC := Lib.hid (fun wx (hb : Below w.heap.size w wx) => copied_any F 81 c2 ds wx ((hd.below hb).more hb.size) (by decide))
  have hL := Lib.hid hl
  obtain ⟨i0, hi0, hz0, hz1', hz2'⟩ := info_parts info_ints
  have hmk : ∀ wx : World, (Instr.makeSlice 130 (.int .i64 ((m : Int) + 1)) (.int .i64 ((m : Int) + 1))).run Try.prog wx = .ok (.slice (some ⟨wx.heap.size, 0, none⟩) (m + 1) (m + 1)) (wx.alloc (.cells (madeCells (Value.slice none 0 0).cells ((m + 1) * 1)) 24)) := by
    intro wx
    have hr := run_make (P := Try.prog) wx 130 24 i0 _ Try.underlying130 hi0 hz0 .i64 .i64 ((m : Int) + 1) ((m : Int) + 1) (by omega) (by omega) (by rw [hz2']; omega) (by omega)
    rw [hz1'] at hr
    rw [show ((m : Int) + 1).toNat = m + 1 by omega] at hr
    exact hr
  have hw1 : IntKind.i64.wrap ((m : Int) + 1) = (m : Int) + 1 := IntWalk.i64_in _ (by omega)
  have hbox := Lib.hid (Has.new w 146 #[.slice none 0 0, .slice none 0 0, .slice none 0 0, .slice none 0 0])
  have hB0 := Lib.hid ((Below.refl w.heap.size w).alloc (Nat.le_refl _) (.cells #[.slice none 0 0, .slice none 0 0, .slice none 0 0, .slice none 0 0] 146))
  have hzl : w.heap.size < (w.alloc (.cells #[.slice none 0 0, .slice none 0 0, .slice none 0 0, .slice none 0 0] 146)).heap.size := by simp
  clear hd hl hi0 hz0 hz1' hz2'
  go_enter Try.func129, Try.ntmps129
  go_wp2_with fail
  have cC2 := Lib.hid (fun wx (hb : Below (w.alloc (.cells #[.slice none 0 0, .slice none 0 0, .slice none 0 0, .slice none 0 0] 146)).heap.size (w.alloc (.cells #[.slice none 0 0, .slice none 0 0, .slice none 0 0, .slice none 0 0] 146)) wx) => cC.out wx (hB0.out.trans (hb.mono (Nat.le_of_lt hzl))))
  replace hmk := Lib.hid hmk
  generalize w.alloc (.cells #[.slice none 0 0, .slice none 0 0, .slice none 0 0, .slice none 0 0] 146) = W0 at hbox hB0 hzl cC2 ⊢
  clear cC
  refine wp_region_any (by kernel_rfl) ?_
  change wpAny _ _ _ _ _ _ _ (World.drew _)
  refine wpAny_tail (n := 8) (c := 1) (I := fun listed aq wx => listed.size = 10 ∧ ∃ v7 v8 v9 v10 v11 v12 v13 v14 : Value, aq = { tmps := #[.slice A m c, .slice F 81 c2, .slice a2 n2 d2, undef, undef, undef, .pointer (some ⟨w.heap.size, 0, none⟩), v7, v8, v9, v10, v11, v12, v13, v14, undef], defers := [] } ∧ (listed.getD 0 false = true → v7 = .slice A m c) ∧ (listed.getD 1 false = true → v8 = .slice a2 n2 d2) ∧ (listed.getD 2 false = true → v9 = .slice F 81 c2) ∧ (listed.getD 3 false = true → (∃ gr cs, v10 = .slice (some ⟨gr, 0, none⟩) 81 81 ∧ W0.heap.size ≤ gr ∧ Has wx gr 3 cs ∧ RowA cs (fun st => ds.getD st.toNat 0))) ∧ (listed.getD 4 false = true → v11 = .slice A m c) ∧ (listed.getD 5 false = true → v12 = .int .i64 ↑m) ∧ (listed.getD 6 false = true → v13 = .int .i64 (↑m + 1)) ∧ (listed.getD 7 false = true → (∃ gy ks, v14 = .slice (some ⟨gy, 0, none⟩) (m + 1) (m + 1) ∧ W0.heap.size ≤ gy ∧ Has wx gy 24 ks ∧ ks.size = m + 1)) ∧ Below W0.heap.size W0 wx) rfl (by kernel_rfl) (by kernel_rfl) (by kernel_rfl) ?hs ?hl _ _ _ ?st rfl (by decide) _ (by decide)
  case st =>
    refine ⟨rfl, undef, undef, undef, undef, undef, undef, undef, undef, rfl, ?_, ?_, ?_, ?_, ?_, ?_, ?_, ?_, (Below.refl _ _).drew⟩ <;> (intro e; exact absurd e (by decide))
  case hs =>
    rintro listed aq wx ⟨hz, v7, v8, v9, v10, v11, v12, v13, v14, rfl, hII⟩ i hin hi
    obtain ⟨h0, o, ho, hd⟩ := mem_ready.1 hi
    have K0 := Lib.hid hII.1
    have K1 := Lib.hid hII.2.1
    have K2 := Lib.hid hII.2.2.1
    have K3 := Lib.hid hII.2.2.2.1
    have K4 := Lib.hid hII.2.2.2.2.1
    have K5 := Lib.hid hII.2.2.2.2.2.1
    have K6 := Lib.hid hII.2.2.2.2.2.2.1
    have K7 := Lib.hid hII.2.2.2.2.2.2.2.1
    have hB : Below W0.heap.size W0 wx := hII.2.2.2.2.2.2.2.2
    have hne := Lib.hid (fun k (hk : i ≠ k) => @listed_ne listed i k hk)
    have h0f : listed.getD i false = false := by rw [Array.getD_eq_getD_getElem?, getD_false h0]; rfl
    clear hII hi h0
    rcases (by omega : i = 0 ∨ i = 1 ∨ i = 2 ∨ i = 3 ∨ i = 4 ∨ i = 5 ∨ i = 6 ∨ i = 7) with rfl | rfl | rfl | rfl | rfl | rfl | rfl | rfl
    · cases ho
      refine wpOp_step rfl (fun K hK => ?_)
      go_simp
      refine hK _ _ ⟨by simpa using hz, .slice A m c, v8, v9, v10, v11, v12, v13, v14, rfl, ?_⟩
      exact ⟨fun _ => rfl, fun e => K1.out (hne.out 1 (by decide) e), fun e => K2.out (hne.out 2 (by decide) e), fun e => K3.out (hne.out 3 (by decide) e), fun e => K4.out (hne.out 4 (by decide) e), fun e => K5.out (hne.out 5 (by decide) e), fun e => K6.out (hne.out 6 (by decide) e), fun e => K7.out (hne.out 7 (by decide) e), hB⟩
    · cases ho
      refine wpOp_step rfl (fun K hK => ?_)
      go_simp
      refine hK _ _ ⟨by simpa using hz, v7, .slice a2 n2 d2, v9, v10, v11, v12, v13, v14, rfl, ?_⟩
      exact ⟨fun e => K0.out (hne.out 0 (by decide) e), fun _ => rfl, fun e => K2.out (hne.out 2 (by decide) e), fun e => K3.out (hne.out 3 (by decide) e), fun e => K4.out (hne.out 4 (by decide) e), fun e => K5.out (hne.out 5 (by decide) e), fun e => K6.out (hne.out 6 (by decide) e), fun e => K7.out (hne.out 7 (by decide) e), hB⟩
    · cases ho
      refine wpOp_step rfl (fun K hK => ?_)
      go_simp
      refine hK _ _ ⟨by simpa using hz, v7, v8, .slice F 81 c2, v10, v11, v12, v13, v14, rfl, ?_⟩
      exact ⟨fun e => K0.out (hne.out 0 (by decide) e), fun e => K1.out (hne.out 1 (by decide) e), fun _ => rfl, fun e => K3.out (hne.out 3 (by decide) e), fun e => K4.out (hne.out 4 (by decide) e), fun e => K5.out (hne.out 5 (by decide) e), fun e => K6.out (hne.out 6 (by decide) e), fun e => K7.out (hne.out 7 (by decide) e), hB⟩
    · cases ho
      have d2 := hd ⟨2, .data⟩ (by simp) rfl
      obtain rfl := K2.out d2
      refine wpOp_step rfl (fun K hK => ?_)
      go_simp
      go_at_call 157
      refine (cC2.out _ hB).mono ?_
      rintro e w3 ⟨rfl, ho3, hb3⟩
      obtain ⟨cs3, hc3, hr3⟩ := ho3.rowA hL.out
      refine hK _ _ ⟨by simpa using hz, v7, v8, .slice F 81 c2, .slice (some ⟨wx.heap.size, 0, none⟩) 81 81, v11, v12, v13, v14, rfl, ?_⟩
      exact ⟨fun e => K0.out (hne.out 0 (by decide) e), fun e => K1.out (hne.out 1 (by decide) e), fun e => K2.out (hne.out 2 (by decide) e), fun _ => ⟨wx.heap.size, cs3, rfl, hB.size, hc3, hr3⟩, fun e => K4.out (hne.out 4 (by decide) e), fun e => K5.out (hne.out 5 (by decide) e), fun e => K6.out (hne.out 6 (by decide) e), fun e => (by obtain ⟨gy, ks, y1, y2, y3, y4⟩ := K7.out (hne.out 7 (by decide) e); exact ⟨gy, ks, y1, y2, y3.kept hb3, y4⟩), hB.trans (hb3.mono hB.size)⟩
    · cases ho
      refine wpOp_step rfl (fun K hK => ?_)
      go_simp
      refine hK _ _ ⟨by simpa using hz, v7, v8, v9, v10, .slice A m c, v12, v13, v14, rfl, ?_⟩
      exact ⟨fun e => K0.out (hne.out 0 (by decide) e), fun e => K1.out (hne.out 1 (by decide) e), fun e => K2.out (hne.out 2 (by decide) e), fun e => K3.out (hne.out 3 (by decide) e), fun _ => rfl, fun e => K5.out (hne.out 5 (by decide) e), fun e => K6.out (hne.out 6 (by decide) e), fun e => K7.out (hne.out 7 (by decide) e), hB⟩
    · cases ho
      have d4 := hd ⟨4, .data⟩ (by simp) rfl
      obtain rfl := K4.out d4
      refine wpOp_step rfl (fun K hK => ?_)
      go_simp
      refine hK _ _ ⟨by simpa using hz, v7, v8, v9, v10, .slice A m c, .int .i64 ↑m, v13, v14, rfl, ?_⟩
      exact ⟨fun e => K0.out (hne.out 0 (by decide) e), fun e => K1.out (hne.out 1 (by decide) e), fun e => K2.out (hne.out 2 (by decide) e), fun e => K3.out (hne.out 3 (by decide) e), fun e => K4.out (hne.out 4 (by decide) e), fun _ => rfl, fun e => K6.out (hne.out 6 (by decide) e), fun e => K7.out (hne.out 7 (by decide) e), hB⟩
    · cases ho
      have d5 := hd ⟨5, .data⟩ (by simp) rfl
      obtain rfl := K5.out d5
      refine wpOp_step rfl (fun K hK => ?_)
      go_simp
      refine hK _ _ ⟨by simpa using hz, v7, v8, v9, v10, v11, .int .i64 ↑m, .int .i64 (↑m + 1), v14, rfl, ?_⟩
      exact ⟨fun e => K0.out (hne.out 0 (by decide) e), fun e => K1.out (hne.out 1 (by decide) e), fun e => K2.out (hne.out 2 (by decide) e), fun e => K3.out (hne.out 3 (by decide) e), fun e => K4.out (hne.out 4 (by decide) e), fun e => K5.out (hne.out 5 (by decide) e), fun _ => rfl, fun e => K7.out (hne.out 7 (by decide) e), hB⟩
    · cases ho
      have d6 := hd ⟨6, .data⟩ (by simp) rfl
      obtain rfl := K6.out d6
      have hmkx := hmk.out wx
      refine wpOp_step rfl (fun K hK => ?_)
      go_simp
      refine hK _ _ ⟨by simpa using hz, v7, v8, v9, v10, v11, v12, .int .i64 (↑m + 1), .slice (some ⟨wx.heap.size, 0, none⟩) (m + 1) (m + 1), rfl, ?_⟩
      exact ⟨fun e => K0.out (hne.out 0 (by decide) e), fun e => K1.out (hne.out 1 (by decide) e), fun e => K2.out (hne.out 2 (by decide) e), fun e => (by obtain ⟨gr, cs, y1, y2, y3, y4⟩ := K3.out (hne.out 3 (by decide) e); exact ⟨gr, cs, y1, y2, y3.kept ((Below.refl _ _).alloc (Nat.le_refl _) _), y4⟩), fun e => K4.out (hne.out 4 (by decide) e), fun e => K5.out (hne.out 5 (by decide) e), fun e => K6.out (hne.out 6 (by decide) e), fun _ => ⟨wx.heap.size, _, rfl, hB.size, Has.new _ _ _, by simp [size_madeCells]⟩, hB.alloc hB.size _⟩
  case hl =>
    rintro listed aq wx ⟨hz, v7, v8, v9, v10, v11, v12, v13, v14, rfl, hII⟩ hall
    have K0 := Lib.hid hII.1
    have K1 := Lib.hid hII.2.1
    have K2 := Lib.hid hII.2.2.1
    have K3 := Lib.hid hII.2.2.2.1
    have K4 := Lib.hid hII.2.2.2.2.1
    have K5 := Lib.hid hII.2.2.2.2.2.1
    have K6 := Lib.hid hII.2.2.2.2.2.2.1
    have K7 := Lib.hid hII.2.2.2.2.2.2.2.1
    have hB : Below W0.heap.size W0 wx := hII.2.2.2.2.2.2.2.2
    clear hII
    obtain rfl := K0.out (hall 0 (by decide))
    obtain rfl := K1.out (hall 1 (by decide))
    obtain rfl := K2.out (hall 2 (by decide))
    obtain ⟨gr, cs, rfl, hgr0, hgr, hra⟩ := K3.out (hall 3 (by decide))
    obtain rfl := K4.out (hall 4 (by decide))
    obtain rfl := K5.out (hall 5 (by decide))
    obtain rfl := K6.out (hall 6 (by decide))
    obtain ⟨gy, ks, rfl, hgy0, hgy, hks⟩ := K7.out (hall 7 (by decide))
    clear hall K0 K1 K2 K3 K4 K5 K6 K7
    unfold wpSeq
    refine wpOp_step rfl (fun K0 hK0 => ?_)
    go_simp
    refine hK0 _ _ ?_
    clear hK0
    have hbx := hbox.out.kept hB
    have hbc := hbx.cell
    have hbf := hbx.frozen
    unfold wpSeq
    refine wpOp_step rfl (fun K1 hK1 => ?_)
    go_simp
    refine hK1 _ _ ?_
    clear hK1
    unfold wpSeq
    have hp := Lib.hid ((((hbx.put 0 (.slice A m c)).put 1 (.slice a2 n2 d2)).put 2 (.slice (some ⟨gr, 0, none⟩) 81 81)).put 3 (.slice (some ⟨gy, 0, none⟩) (m + 1) (m + 1)))
    have hr4 := Lib.hid ((((hgr.far (p := ⟨w.heap.size, 0, none⟩) (by show gr ≠ w.heap.size; omega) (.slice A m c)).far (p := ⟨w.heap.size, 1, none⟩) (by show gr ≠ w.heap.size; omega) (.slice a2 n2 d2)).far (p := ⟨w.heap.size, 2, none⟩) (by show gr ≠ w.heap.size; omega) (.slice (some ⟨gr, 0, none⟩) 81 81)).far (p := ⟨w.heap.size, 3, none⟩) (by show gr ≠ w.heap.size; omega) (.slice (some ⟨gy, 0, none⟩) (m + 1) (m + 1)))
    have hy4 := Lib.hid ((((hgy.far (p := ⟨w.heap.size, 0, none⟩) (by show gy ≠ w.heap.size; omega) (.slice A m c)).far (p := ⟨w.heap.size, 1, none⟩) (by show gy ≠ w.heap.size; omega) (.slice a2 n2 d2)).far (p := ⟨w.heap.size, 2, none⟩) (by show gy ≠ w.heap.size; omega) (.slice (some ⟨gr, 0, none⟩) 81 81)).far (p := ⟨w.heap.size, 3, none⟩) (by show gy ≠ w.heap.size; omega) (.slice (some ⟨gy, 0, none⟩) (m + 1) (m + 1)))
    have hb4 := Lib.hid (((((hB0.out.trans (hB.mono (Nat.le_of_lt hzl))).setCell (p := ⟨w.heap.size, 0, none⟩) (Nat.le_refl _) (.slice A m c)).setCell (p := ⟨w.heap.size, 1, none⟩) (Nat.le_refl _) (.slice a2 n2 d2)).setCell (p := ⟨w.heap.size, 2, none⟩) (Nat.le_refl _) (.slice (some ⟨gr, 0, none⟩) 81 81)).setCell (p := ⟨w.heap.size, 3, none⟩) (Nat.le_refl _) (.slice (some ⟨gy, 0, none⟩) (m + 1) (m + 1)))
    have hra' := Lib.hid hra
    have hgr1 := Lib.hid hgr0
    have hgy1 := Lib.hid hgy0
    have hzl1 := Lib.hid hzl
    clear hbc hbf hbx hB hgr hgy hra
    generalize ((((wx.setCell ⟨w.heap.size, 0, none⟩ (.slice A m c)).setCell ⟨w.heap.size, 1, none⟩ (.slice a2 n2 d2)).setCell ⟨w.heap.size, 2, none⟩ (.slice (some ⟨gr, 0, none⟩) 81 81)).setCell ⟨w.heap.size, 3, none⟩ (.slice (some ⟨gy, 0, none⟩) (m + 1) (m + 1))) = W5 at hp hr4 hy4 hb4 ⊢
    have hpc := hp.out.cell
    simp at hpc
    go_wp2_with fail
    refine bodyPost_ret (v := .agg #[.slice A m c, .slice a2 n2 d2, .slice (some ⟨gr, 0, none⟩) 81 81, .slice (some ⟨gy, 0, none⟩) (m + 1) (m + 1)]) (by simp [results, Try.results129, go_sem, hpc]) rfl ?_
    exact ⟨gr, gy, _, _, rfl, Nat.le_trans (Nat.le_of_lt hzl1.out) hgr1.out, Nat.le_trans (Nat.le_of_lt hzl1.out) hgy1.out, hr4.out, hra'.out, hy4.out, hks, hb4.out⟩
end Go.Proofs.Ytbndonfpdioibaa
