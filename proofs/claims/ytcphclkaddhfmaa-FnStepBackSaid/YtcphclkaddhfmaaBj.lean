/- Chances: the program's ChanceOf. -/
import Derived.Test.YtcphclkaddhfmaaBi
import Derived.Test.YtcphclkaddhfmaaSwm
namespace Go.Proofs.Ytcphclkaddhfmaa
set_option maxRecDepth 100000
set_option linter.unusedVariables false
open Go.RowKit

/-- What the event is worth. -/
def chW (ps : List St) (v x : Int) : Int := woOf ps (evOf v x)
def chOk (ps : List St) (v x : Int) : Bool := vbOk ps (evOf v x) && decide (totalOf ps ≠ 0)
def ch1 (ps : List St) (v x : Int) : Int := if chOk ps v x = true then low1 (chW ps v x) (totalOf ps) else 0
def ch2 (ps : List St) (v x : Int) : Int := if chOk ps v x = true then low2 (chW ps v x) (totalOf ps) else 0
theorem woOf_bd (ps : List St) (ds : List Int) : 0 ≤ woOf ps ds ∧ woOf ps ds ≤ 1350851717672992089 := by
  unfold woOf
  split
  · rename_i os hu
    obtain ⟨_, hlen, _, _, hOK⟩ := unrolled_parts hu
    split
    · rename_i hk
      have h1 := valAt_bd (h := hOf ds) (H := 9) (os := os) (i := 0) (st := 0) (fun st _ _ => hOf_bd (by decide) hk st) (by decide) (fun s hs => List.all_eq_true.1 hOK s hs) (by decide)
      have h2 := pow27_le (show os.length - 0 ≤ 12 by omega)
      have h3 : (27 : Int) ^ 12 = 150094635296999121 := by decide
      omega
    · omega
  · omega
theorem totalOf_bd {ps : List St} (h : (unrolled ps).isSome = true) : 0 ≤ totalOf ps ∧ totalOf ps ≤ 150094635296999121 := by
  unfold totalOf
  cases hu : unrolled ps with
  | none => rw [hu] at h; cases h
  | some os =>
    obtain ⟨_, hlen, _, _, hOK⟩ := unrolled_parts hu
    have h1 := valAt_bd (h := fun _ => 1) (H := 1) (os := os) (i := 0) (st := 0) (fun st _ _ => by decide) (by decide) (fun s hs => List.all_eq_true.1 hOK s hs) (by decide)
    have h2 := pow27_le (show os.length - 0 ≤ 12 by omega)
    have h3 : (27 : Int) ^ 12 = 150094635296999121 := by decide
    show 0 ≤ valAt (fun _ => 1) os 0 0 ∧ valAt (fun _ => 1) os 0 0 ≤ _
    omega
theorem evOf_len (v x : Int) : (evOf v x).length ≤ 81 := by
  unfold evOf
  split
  · unfold evRow; rw [rowL_length]; exact Nat.le_refl _
  · simp

theorem ChanceOf_any (A : Option Addr) (n c : Nat) (ps : List St) (v x : Int) (w : World) (h : Lst w w.heap.size A n ps) (hn : n ≤ c) (hc : c ≤ maxLen) :
    Calls Try.prog 12 #[.slice A n c, .int .i64 v, .int .i64 x] w fun e w' => e = .returned (.tuple #[.int .i64 (ch1 ps v x), .int .i64 (ch2 ps v x), .bool (chOk ps v x)]) ∧ Below w.heap.size w w' := by
  have hH := Lib.hid h
  have cE := Lib.hid (fun wx => EventOf_any v x wx)
  have cW := Lib.hid (fun Ad nd cd wx (hbx : Below w.heap.size w wx) (hd : Ils wx wx.heap.size Ad nd (evOf v x)) (hnd : nd ≤ maxLen) => WorthOf_any A Ad n c nd cd ps (evOf v x) wx ((h.below hbx).more hbx.size) hn hc hd hnd)
  have cT := Lib.hid (fun wx (hbx : Below w.heap.size w wx) => TotalOf_any A n c ps wx ((h.below hbx).more hbx.size) hn hc)
  have hWb := woOf_bd ps (evOf v x)
  have hEl := evOf_len v x
  clear h
  cases hk : vbOk ps (evOf v x)
  · have hR := Lib.hid (show chOk ps v x = false by unfold chOk; rw [hk]; rfl)
    have hR1 := Lib.hid (show ch1 ps v x = 0 by unfold ch1; rw [hR.out]; rfl)
    have hR2 := Lib.hid (show ch2 ps v x = 0 by unfold ch2; rw [hR.out]; rfl)
    rw [hk] at cW
    clear hk
    generalize woOf ps (evOf v x) = wo at cW hWb
    go_enter Try.func12, Try.ntmps12
    go_wp2_with (first
      | (go_at_call 15; refine (cE.out _).mono ?_; rintro e w1 ⟨v1, rfl, ho1, hb1⟩; obtain ⟨A1, c1, rfl, hc1a, hc1b⟩ := ho1.form)
      | (go_at_call 17; refine (cW.out _ _ _ _ hb1 ho1.lst (by unfold maxLen; omega)).mono ?_; rintro e w2 ⟨rfl, hb2⟩))
    go_ret3
    exact ⟨by rw [hR.out, hR1.out, hR2.out]; rfl, hb1.trans (hb2.mono hb1.size)⟩
  · have hsome : (unrolled ps).isSome = true := by
      unfold vbOk at hk
      rw [Bool.and_eq_true] at hk
      exact hk.1
    have hTb := totalOf_bd hsome
    have hR := Lib.hid (show chOk ps v x = decide (totalOf ps ≠ 0) by unfold chOk; rw [hk]; rfl)
    have hR1 := Lib.hid (show ch1 ps v x = if totalOf ps = 0 then 0 else low1 (woOf ps (evOf v x)) (totalOf ps) from by
      unfold ch1 chW; rw [hR.out]
      by_cases h0 : totalOf ps = 0
      · rw [if_neg (by simp [h0]), if_pos h0]
      · rw [if_pos (by simpa using h0), if_neg h0])
    have hR2 := Lib.hid (show ch2 ps v x = if totalOf ps = 0 then 0 else low2 (woOf ps (evOf v x)) (totalOf ps) from by
      unfold ch2 chW; rw [hR.out]
      by_cases h0 : totalOf ps = 0
      · rw [if_neg (by simp [h0]), if_pos h0]
      · rw [if_pos (by simpa using h0), if_neg h0])
    rw [hk] at cW
    clear hk hsome
    generalize woOf ps (evOf v x) = wo at cW hWb hR1 hR2
    generalize totalOf ps = tt at cT hTb hR hR1 hR2
    have cLo := Lib.hid (fun wx => lowest_any wo tt wx ⟨hWb.1, by omega⟩ ⟨hTb.1, by omega⟩)
    go_enter Try.func12, Try.ntmps12
    rw [← hR1.out, ← hR2.out, ← hR.out] at cLo
    go_wp2_with (first
      | (go_at_call 15; refine (cE.out _).mono ?_; rintro e w1 ⟨v1, rfl, ho1, hb1⟩; obtain ⟨A1, c1, rfl, hc1a, hc1b⟩ := ho1.form)
      | (go_at_call 17; refine (cW.out _ _ _ _ hb1 ho1.lst (by unfold maxLen; omega)).mono ?_; rintro e w2 ⟨rfl, hb2⟩; have hb2' := hb1.trans (hb2.mono hb1.size))
      | (go_at_call 18; refine (cT.out _ hb2').mono ?_; rintro e w3 ⟨rfl, hb3⟩; have hb3' := hb2'.trans (hb3.mono hb2'.size))
      | (go_at_call 41; refine (cLo.out _).mono ?_; rintro e w4 ⟨rfl, k4, rfl⟩))
    go_ret3
    exact ⟨rfl, below_drewN hb3' _⟩
end Go.Proofs.Ytcphclkaddhfmaa
