/- Diagrams: the model's DiagramSum. -/
import Derived.Test.YtghkpmafocacoaaOs
namespace Go.Proofs.Ytghkpmafocacoaa
set_option maxRecDepth 100000
set_option linter.unusedVariables false
open Go.RowKit

theorem l1Power_four (n : Nat) (h : n ≤ 4) (w : World) :
    Calls Try.prog 79 #[.int .i64 n] w fun e w' => e = .returned (.int .i64 (p3 n)) ∧ w = w' := by
  go_enter Try.func79, Try.ntmps79
  go_wp2
  go_loop [3, 4] (fun o i => ∃ k : Nat, k ≤ n ∧ i = .int .i64 k ∧ o = .int .i64 (p3 k)) (fun _ i => n - (intOf i).toNat)
  case atStart => exact ⟨0, Nat.zero_le _, rfl, rfl⟩
  case round =>
    obtain ⟨k, hk, rfl, rfl⟩ := hrel
    by_cases hlt : k < n
    · have hb := p3_bd3 k (by omega)
      go_wp2
      go_round
      case rel => exact ⟨k + 1, by omega, by go_num, rfl⟩
      case measure => simp [intOf]; omega
    · obtain rfl : k = n := by omega
      go_wp2
      go_ret
      exact ⟨rfl, rfl⟩
set_option maxHeartbeats 1000000 in
theorem specDiagramSum_any (A : Option Addr) (n c : Nat) (ds : List Ce) (w : World) (h : CLst w w.heap.size A n ds) (hn : n ≤ maxLen) (hc : c ≤ maxLen) (hnc : n ≤ c) :
    Calls Try.prog 34 #[.slice A n c] w fun e w' => e = .returned (.int .i64 (dsum ds)) ∧ Below w.heap.size w w' := by
  have cD := Lib.hid (specDiagramOk_any A n c ds w h hn hc hnc)
  have hH := Lib.hid h
  have hL := h.1
  clear h
  cases hd : diaOk ds
  · have hR := Lib.hid (show dsum ds = -1 by unfold dsum; rw [hd]; rfl)
    rw [hd] at cD
    clear hd hL hn hc hnc
    go_enter Try.func34, Try.ntmps34
    go_wp2_with fail
    refine cD.out.mono ?_
    rintro e w1 ⟨rfl, hb⟩
    have hB := Lib.hid hb
    clear hb
    go_wp2_with fail
    go_ret
    exact ⟨ret_int hR.out, hB.out⟩
  · obtain ⟨d1, d2, d3⟩ := dia_parts hd
    have hT := csum_top hd
    have hR : dsum ds = csum ds (ds.length - 1) * 3 ^ (gt ds (ds.length - 1)).lev.toNat := by unfold dsum; rw [if_pos hd, csum_all hd]
    have hlb := lev_bd (up_of d3) (i := ds.length - 1) (by omega)
    have hge : -1 ≤ (gt ds (ds.length - 1)).v := allOk_ge d3 (by omega)
    rw [hL] at hT hR hlb hge
    rw [hd] at cD
    have hn121 : n ≤ 121 := by omega
    have cN := Lib.hid (fun (wx : World) (hx : CLst wx wx.heap.size A n ds) => l11Sums_any A n c ds wx hx hn121 d3)
    obtain ⟨m, rfl⟩ : ∃ m, n = m + 1 := ⟨n - 1, by omega⟩
    rw [Nat.add_sub_cancel] at hT hR hlb hge
    obtain ⟨l, hl⟩ : ∃ l : Nat, (gt ds m).lev = l := ⟨_, (Int.toNat_of_nonneg hlb.1).symm⟩
    have hl4 : l ≤ 4 := by omega
    have cF := Lib.hid (fun wx => l1Power_four l hl4 wx)
    rw [p3_pow] at cF
    rw [hl, Int.toNat_natCast] at hT hR
    have hR2 := Lib.hid hR
    have cL := Lib.hid (fun wx => l11Level_any (gt ds m) hge wx)
    rw [hl] at cL
    have hw9 : IntKind.i64.wrap (csum ds m * 3 ^ l) = csum ds m * 3 ^ l := by
      have h0 : (0 : Int) ≤ csum ds m * 3 ^ l := Int.mul_nonneg hT.1 (Int.le_of_lt (Int.pow_pos (by decide)))
      have h1 := hT.2
      generalize csum ds m * 3 ^ l = y at *
      rw [IntKind.wrap_i64]
      omega
    have hmb : m ≤ 120 := by omega
    clear hd d1 d2 d3 hL hn hc hnc hT hR hlb hl hl4 hge hn121
    go_enter Try.func34, Try.ntmps34
    go_wp2_with fail
    refine cD.out.mono ?_
    rintro e w0 ⟨rfl, hb0⟩
    have hB0 := Lib.hid hb0
    clear hb0
    go_wp2_with fail
    refine (cN.out _ ((hH.out.below hB0.out).more hB0.out.size)).mono ?_
    rintro e w1 ⟨v, rfl, hO, hb⟩
    obtain ⟨A1, c1, rfl, _, _⟩ := hO.form
    have hlst := hO.lst
    have hll : ((List.range (m + 1)).map (csum ds)).length = m + 1 := by simp
    rw [hll] at hlst
    obtain ⟨gs, os, rfl, hgs, hcs⟩ := hlst.2 (by omega)
    have es := hcs m (csum ds m) (by rw [List.getElem?_map, List.getElem?_range (by omega)]; rfl)
    have hB := Lib.hid (hB0.out.trans (hb.mono hB0.out.size))
    obtain ⟨g, off, rfl, hg, hat⟩ := (hH.out.below hB.out).gt_ (k := m) (by omega)
    obtain ⟨f0, f1, f2, f3, f4⟩ := hat.open_
    have hgz : g < w1.heap.size := Nat.lt_of_lt_of_le hg hB.out.size
    rw [hll]
    generalize csum ds m = x at *
    generalize gt ds m = d at *
    have hOk := Lib.hid (fun (wx : World) (hx : Below w1.heap.size w1 wx) => (show Below w1.heap.size w1 wx ∧ wx.cell? ⟨gs, os + m, none⟩ = some (.int .i64 x) ∧ wx.cell? ⟨g, off + m * 5, none⟩ = some (.int .i64 d.v) ∧ wx.cell? ⟨g, off + m * 5 + 1, none⟩ = some (.int .i64 d.n) ∧ wx.cell? ⟨g, off + m * 5 + 2, none⟩ = some (.int .i64 d.a) ∧ wx.cell? ⟨g, off + m * 5 + 3, none⟩ = some (.int .i64 d.b) ∧ wx.cell? ⟨g, off + m * 5 + 4, none⟩ = some (.int .i64 d.c) from
      ⟨hx, (hx.cell (p := ⟨gs, os + m, none⟩) (by exact hgs)).trans es, (hx.cell (p := ⟨g, off + m * 5, none⟩) (by exact hgz)).trans f0, (hx.cell (p := ⟨g, off + m * 5 + 1, none⟩) (by exact hgz)).trans f1, (hx.cell (p := ⟨g, off + m * 5 + 2, none⟩) (by exact hgz)).trans f2, (hx.cell (p := ⟨g, off + m * 5 + 3, none⟩) (by exact hgz)).trans f3, (hx.cell (p := ⟨g, off + m * 5 + 4, none⟩) (by exact hgz)).trans f4⟩))
    clear hb hO hlst hcs hat hll
    have hm0 : (0 : Int) ≤ (m : Int) := by omega
    have hm1 : (m : Int) < (m : Int) + 1 := by omega
    have hmw : IntKind.i64.wrap (m : Int) = m := by rw [IntKind.wrap_i64]; omega
    go_wp2_with fail
    go_region_held3 (fun wx => Below w1.heap.size w1 wx ∧ wx.cell? ⟨gs, os + m, none⟩ = some (.int .i64 x) ∧ wx.cell? ⟨g, off + m * 5, none⟩ = some (.int .i64 d.v) ∧ wx.cell? ⟨g, off + m * 5 + 1, none⟩ = some (.int .i64 d.n) ∧ wx.cell? ⟨g, off + m * 5 + 2, none⟩ = some (.int .i64 d.a) ∧ wx.cell? ⟨g, off + m * 5 + 3, none⟩ = some (.int .i64 d.b) ∧ wx.cell? ⟨g, off + m * 5 + 4, none⟩ = some (.int .i64 d.c)) (first | exact hOk.out _ ((Below.refl _ _).drew) | exact hOk.out _ (bt6 (by assumption) hbq) | exact hOk.out _ (bs6 (by assumption)) | exact hOk.out _ (bd6 (by assumption)) | go_keep) (first | (go_at_call 67; refine (cL.out _).mono ?_; rintro e q ⟨rfl, hbq⟩) | (go_at_call 79; refine (cF.out _).mono ?_; rintro e q ⟨rfl, rfl⟩))
    rename_i hHeld
    have hB6 := Lib.hid (hB.out.trans (hHeld.1.mono hB.out.size))
    clear hHeld hOk cF cL
    go_wp2_with fail
    go_ret
    exact ⟨ret_int hR2.out, hB6.out⟩
end Go.Proofs.Ytghkpmafocacoaa
