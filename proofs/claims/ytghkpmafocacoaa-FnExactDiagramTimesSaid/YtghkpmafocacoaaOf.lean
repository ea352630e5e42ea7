/- Diagrams: the program's Least, DiagramSum. -/
import Derived.Test.YtghkpmafocacoaaOe
import Derived.Test.YtghkpmafocacoaaO7
namespace Go.Proofs.Ytghkpmafocacoaa
set_option maxRecDepth 100000
set_option linter.unusedVariables false
open Go.RowKit

theorem lstOk_of {os : List Int} (hl : os.length = 81) (h : ∀ x ∈ os, 0 ≤ x ∧ x ≤ 1000000000) : lstOk 1000000000 os = true := by
  cases hk : lstOk 1000000000 os
  · exfalso
    unfold lstOk at hk
    rw [hl, decide_eq_true rfl, Bool.true_and] at hk
    rw [show numsOk 1000000000 os = true from List.all_eq_true.2 fun x hx => inB_iff.2 (h x hx)] at hk
    cases hk
  · rfl
/-- A diagram's numbers are a list. -/
theorem lst_dlist (ds : List Ce) : lstOk 1000000000 (dlistOf ds) = diaOk ds := by
  unfold dlistOf
  cases hd : diaOk ds
  · rfl
  · rw [if_pos rfl]
    obtain ⟨d1, d2, d3⟩ := dia_parts hd
    refine lstOk_of (dlist_length ds) fun x hx => ?_
    unfold dlist at hx
    obtain ⟨s, _, rfl⟩ := List.mem_map.1 hx
    exact num_bd d3 s _ (by omega)
/-- What Least tells. -/
def leastOf (ds : List Ce) : List Ce := dOf (dlistOf ds)
theorem Least_any (A : Option Addr) (n c : Nat) (ds : List Ce) (w : World) (h : CLst w w.heap.size A n ds) (hn : n ≤ maxLen) (hc : c ≤ maxLen) (hnc : n ≤ c) :
    Calls Try.prog 33 #[.slice A n c] w (Cbd w (leastOf ds) (diaOk ds)) := by
  have cD := Lib.hid (DiagramList_any A n c ds w h hn hc hnc)
  have hK := Lib.hid (lst_dlist ds)
  have hE := Lib.hid (show leastOf ds = dOf (dlistOf ds) from rfl)
  rw [hE.out]
  have hlen : (dlistOf ds).length ≤ 81 := by
    unfold dlistOf
    split
    · rw [dlist_length]; exact Nat.le_refl _
    · exact Nat.zero_le _
  generalize dlistOf ds = os at *
  clear h hn hc hnc hE
  go_enter Try.func33, Try.ntmps33
  go_wp2_with fail
  refine cD.out.mono ?_
  rintro e w1 ⟨v, rfl, hO, hb⟩
  obtain ⟨A1, c1, rfl, _, _⟩ := hO.form
  have cO := Lib.hid (DiagramOf_any A1 os.length c1 os w1 hO.lst (by unfold maxLen; omega))
  rw [hK.out] at cO
  have hB := Lib.hid hb
  clear hO hb hK
  go_wp2_with fail
  refine cO.out.mono ?_
  rintro e w2 ⟨v2, rfl, hO2, hb2⟩
  have hB2 := Lib.hid (hB.out.trans (hb2.mono hB.out.size))
  have hO2' := Lib.hid (show COwn w2 w.heap.size v2 (dOf os) from owns_le hO2 hB.out.size)
  clear hO2 hb2
  go_wp2_with fail
  go_ret2
  exact ⟨_, rfl, hO2'.out, hB2.out⟩
theorem csum_top {ds : List Ce} (h : diaOk ds = true) : 0 ≤ csum ds (ds.length - 1) ∧ csum ds (ds.length - 1) * 3 ^ (gt ds (ds.length - 1)).lev.toNat ≤ 1000000000000 := by
  obtain ⟨d1, d2, d3⟩ := dia_parts h
  have hb := csum_bd d3 (i := ds.length - 1) (by omega)
  have hl := lev_bd (up_of d3) (i := ds.length - 1) (by omega)
  generalize (gt ds (ds.length - 1)).lev = l at *
  generalize csum ds (ds.length - 1) = s at *
  obtain ⟨l, rfl⟩ : ∃ n : Nat, l = n := ⟨l.toNat, by omega⟩
  rw [Int.toNat_natCast] at hb ⊢
  refine ⟨hb.1, ?_⟩
  obtain rfl | rfl | rfl | rfl | rfl : l = 0 ∨ l = 1 ∨ l = 2 ∨ l = 3 ∨ l = 4 := by omega
  all_goals
    simp at hb ⊢
    omega
set_option maxHeartbeats 1000000 in
theorem DiagramSum_any (A : Option Addr) (n c : Nat) (ds : List Ce) (w : World) (h : CLst w w.heap.size A n ds) (hn : n ≤ maxLen) (hc : c ≤ maxLen) (hnc : n ≤ c) :
    Calls Try.prog 35 #[.slice A n c] w fun e w' => e = .returned (.int .i64 (dsum ds)) ∧ Below w.heap.size w w' := by
  have cC := Lib.hid (CellSums_any A n c ds w h hn hc hnc)
  have hH := Lib.hid h
  have hL := h.1
  clear h
  cases hd : diaOk ds
  · have hR := Lib.hid (show dsum ds = -1 by unfold dsum; rw [hd]; rfl)
    have hS : csums ds = [] := by unfold csums; rw [hd]; rfl
    rw [hS] at cC
    clear hd hL hn hc hnc hS
    go_enter Try.func35, Try.ntmps35
    go_wp2_with fail
    refine cC.out.mono ?_
    rintro e w1 ⟨v, rfl, hO, hb⟩
    obtain ⟨A1, c1, rfl, _, _⟩ := hO.form
    have hB := Lib.hid hb
    clear hb hO
    go_wp2_with fail
    go_ret
    exact ⟨ret_int hR.out, hB.out⟩
  · obtain ⟨d1, d2, d3⟩ := dia_parts hd
    have hS : csums ds = (List.range n).map (csum ds) := by unfold csums; rw [if_pos hd, hL]
    have hT := csum_top hd
    have hR : dsum ds = csum ds (ds.length - 1) * 3 ^ (gt ds (ds.length - 1)).lev.toNat := by unfold dsum; rw [if_pos hd, csum_all hd]
    have hlb := lev_bd (up_of d3) (i := ds.length - 1) (by omega)
    rw [hL] at hT hR hlb
    rw [hS] at cC
    obtain ⟨m, rfl⟩ : ∃ m, n = m + 1 := ⟨n - 1, by omega⟩
    rw [Nat.add_sub_cancel] at hT hR hlb
    obtain ⟨l, hl⟩ : ∃ l : Nat, (gt ds m).lev = l := ⟨_, (Int.toNat_of_nonneg hlb.1).symm⟩
    have hl4 : l ≤ 4 := by omega
    have cF := Lib.hid (fun wx => sumFrom_any (csum ds m) 0 l wx (Nat.zero_le _) hl4 hT.1 (by have := hT.2; rw [hl, Int.toNat_natCast] at this; simpa using this))
    have hR2 := Lib.hid (show dsum ds = csum ds m * 3 ^ (l - 0) by rw [hR, hl, Int.toNat_natCast, Nat.sub_zero])
    have cL := Lib.hid (fun wx => levelOf_any (gt ds m) wx)
    rw [hl] at cL
    have hmb : m ≤ 120 := by omega
    clear hd d1 d2 d3 hL hn hc hnc hS hT hR hlb hl hl4
    go_enter Try.func35, Try.ntmps35
    go_wp2_with fail
    refine cC.out.mono ?_
    rintro e w1 ⟨v, rfl, hO, hb⟩
    obtain ⟨A1, c1, rfl, _, _⟩ := hO.form
    have hlst := hO.lst
    have hll : ((List.range (m + 1)).map (csum ds)).length = m + 1 := by simp
    rw [hll] at hlst
    obtain ⟨gs, os, rfl, hgs, hcs⟩ := hlst.2 (by omega)
    have es := hcs m (csum ds m) (by rw [List.getElem?_map, List.getElem?_range (by omega)]; rfl)
    obtain ⟨g, off, rfl, hg, hat⟩ := (hH.out.below hb).gt_ (k := m) (by omega)
    obtain ⟨f0, f1, f2, f3, f4⟩ := hat.open_
    have hgz : g < w1.heap.size := Nat.lt_of_lt_of_le hg hb.size
    have hB := Lib.hid hb
    rw [hll]
    generalize csum ds m = x at *
    generalize gt ds m = d at *
    have hOk := Lib.hid (fun (wx : World) (hx : Below w1.heap.size w1 wx) => (show Below w1.heap.size w1 wx ∧ wx.cell? ⟨gs, os + m, none⟩ = some (.int .i64 x) ∧ wx.cell? ⟨g, off + m * 5, none⟩ = some (.int .i64 d.v) ∧ wx.cell? ⟨g, off + m * 5 + 1, none⟩ = some (.int .i64 d.n) ∧ wx.cell? ⟨g, off + m * 5 + 2, none⟩ = some (.int .i64 d.a) ∧ wx.cell? ⟨g, off + m * 5 + 3, none⟩ = some (.int .i64 d.b) ∧ wx.cell? ⟨g, off + m * 5 + 4, none⟩ = some (.int .i64 d.c) from
      ⟨hx, (hx.cell (p := ⟨gs, os + m, none⟩) (by exact hgs)).trans es, (hx.cell (p := ⟨g, off + m * 5, none⟩) (by exact hgz)).trans f0, (hx.cell (p := ⟨g, off + m * 5 + 1, none⟩) (by exact hgz)).trans f1, (hx.cell (p := ⟨g, off + m * 5 + 2, none⟩) (by exact hgz)).trans f2, (hx.cell (p := ⟨g, off + m * 5 + 3, none⟩) (by exact hgz)).trans f3, (hx.cell (p := ⟨g, off + m * 5 + 4, none⟩) (by exact hgz)).trans f4⟩))
    clear hb hO hlst hcs hat hll
    have hm0 : (0 : Int) ≤ (m : Int) := by omega
    have hm1 : (m : Int) < (m : Int) + 1 := by omega
    have hmw : IntKind.i64.wrap (m : Int) = m := by rw [IntKind.wrap_i64]; omega
    go_wp2_with fail
    go_region_held3 (fun wx => Below w1.heap.size w1 wx ∧ wx.cell? ⟨gs, os + m, none⟩ = some (.int .i64 x) ∧ wx.cell? ⟨g, off + m * 5, none⟩ = some (.int .i64 d.v) ∧ wx.cell? ⟨g, off + m * 5 + 1, none⟩ = some (.int .i64 d.n) ∧ wx.cell? ⟨g, off + m * 5 + 2, none⟩ = some (.int .i64 d.a) ∧ wx.cell? ⟨g, off + m * 5 + 3, none⟩ = some (.int .i64 d.b) ∧ wx.cell? ⟨g, off + m * 5 + 4, none⟩ = some (.int .i64 d.c)) (first | exact hOk.out _ ((Below.refl _ _).drew) | exact hOk.out _ (bt6 (by assumption) hbq) | exact hOk.out _ (bs6 (by assumption)) | exact hOk.out _ (bd6 (by assumption)) | go_keep) (first | (go_at_call 81; refine (cL.out _).mono ?_; rintro e q ⟨rfl, hbq⟩) | (go_at_call 80; refine (cF.out _).mono ?_; rintro e q ⟨rfl, rfl⟩))
    rename_i hHeld
    have hB6 := Lib.hid (hB.out.trans (hHeld.1.mono hB.out.size))
    clear hHeld hOk cF cL
    go_wp2_with fail
    go_ret
    exact ⟨ret_int hR2.out, hB6.out⟩
end Go.Proofs.Ytghkpmafocacoaa
