/- Diagrams: the program's DiagramOk, DiagramAt, DiagramList. -/
import Derived.Test.YtghkpmafocacoaaO4
import Derived.Test.YtghkpmafocacoaaNm
namespace Go.Proofs.Ytghkpmafocacoaa
set_option maxRecDepth 100000
set_option linter.unusedVariables false
open Go.RowKit

theorem CLst.take_ {w : World} {B : Nat} {A : Option Addr} {n k : Nat} {ds : List Ce} (h : CLst w B A n ds) (hk : k ≤ n) : CLst w B A k (ds.take k) := by
  refine ⟨by rw [List.length_take, h.1]; omega, fun h0 => ?_⟩
  obtain ⟨g, off, e, hg, hc⟩ := h.2 (by omega)
  refine ⟨g, off, e, hg, fun j d hd => hc j d ?_⟩
  rw [List.getElem?_take] at hd
  split at hd
  · exact hd
  · cases hd
set_option maxHeartbeats 1000000 in
theorem DiagramOk_any (A : Option Addr) (n c : Nat) (ds : List Ce) (w : World) (h : CLst w w.heap.size A n ds) (hn : n ≤ maxLen) (hc : c ≤ maxLen) (hnc : n ≤ c) :
    Calls Try.prog 18 #[.slice A n c] w fun e w' => e = .returned (.bool (diaOk ds)) ∧ Below w.heap.size w w' := by
  unfold maxLen at hn hc
  have hL := Lib.hid h.1
  have hH := Lib.hid h
  clear h
  have cI := Lib.hid (fun wx => within_any (n : Int) 1 121 wx)
  rcases inB_cases (n : Int) 1 121 with ⟨q1, q2, q3⟩ | ⟨q1, q3⟩
  · rw [q3] at cI
    have hR := Lib.hid (show diaOk ds = allOk ds n by unfold diaOk; rw [hL.out, q3, Bool.true_and])
    go_enter Try.func18, Try.ntmps18
    go_wp2_with (go_at_call 69; refine (cI.out _).mono ?_; rintro e w' ⟨rfl, rfl⟩)
    clear q3
    go_loopw [11] (fun i wr => ∃ k : Nat, k ≤ n ∧ i = .int .i64 k ∧ allOk ds k = true ∧ Below w.heap.size w wr) (fun i _ => n - (intOf i).toNat)
    case atStart => exact ⟨0, Nat.zero_le _, rfl, rfl, Below.refl _ _⟩
    case round =>
      obtain ⟨k, hk, rfl, hall, hb⟩ := hrel
      have hAll := Lib.hid hall
      clear hall
      by_cases hlt : k < n
      · have hz := hb.size
        have hT := Lib.hid (((hH.out.below hb).take_ (k := k) (by omega)).more hz)
        obtain ⟨g, off, rfl, hg, hat⟩ := (hH.out.below hb).gt_ hlt
        obtain ⟨c0, c1, c2, c3, c4⟩ := hat.open_
        have hD := Lib.hid (show cOk (gt ds k) (ds.take k) = cOk (gt ds k) (ds.take k) from rfl)
        have hS := Lib.hid (allOk_succ ds k)
        have hN := Lib.hid (fun h => allOk_no (ds := ds) (k := k) (m := n) h hlt)
        generalize gt ds k = s at *
        have hW := Lib.hid (Has.new wr 47 #[.int .i64 s.v, .int .i64 s.n, .int .i64 s.a, .int .i64 s.b, .int .i64 s.c])
        have hB := Lib.hid (hb.alloc hz (.cells #[.int .i64 s.v, .int .i64 s.n, .int .i64 s.a, .int .i64 s.b, .int .i64 s.c] 47))
        have hT2 := Lib.hid (hT.out.below ((Below.refl wr.heap.size wr).alloc (Nat.le_refl _) (.cells #[.int .i64 s.v, .int .i64 s.n, .int .i64 s.a, .int .i64 s.b, .int .i64 s.c] 47)))
        clear hat hb hT
        have hk0 : (0 : Int) ≤ (k : Int) := by omega
        have hk1 : (k : Int) < (n : Int) := by omega
        have hk2 : (k : Int) ≤ (c : Int) := by omega
        go_wp2_with fail
        generalize hW0 : wr.alloc (.cells #[.int .i64 s.v, .int .i64 s.n, .int .i64 s.a, .int .i64 s.b, .int .i64 s.c] 47) = W0 at hW hB hT2 ⊢
        have hzW : wr.heap.size ≤ W0.heap.size := by rw [← hW0]; simp
        generalize hGw : wr.heap.size = G at hW hT2 hzW ⊢
        clear hW0 c0 c1 c2 c3 c4
        have cC := Lib.hid (fun (wx : World) (hx : Below W0.heap.size W0 wx) => cellOk_any (some ⟨g, off, none⟩) k c s (ds.take k) wx ((hT2.out.below (hx.mono hzW)).more (by have := hx.size; omega)) (by omega))
        have hOk := Lib.hid (fun (wx : World) (hx : Below W0.heap.size W0 wx) => (show Below W0.heap.size W0 wx ∧ wx.cell? ⟨G, 0, none⟩ = some (.int .i64 s.v) ∧ wx.cell? ⟨G, 1, none⟩ = some (.int .i64 s.n) ∧ wx.cell? ⟨G, 2, none⟩ = some (.int .i64 s.a) ∧ wx.cell? ⟨G, 3, none⟩ = some (.int .i64 s.b) ∧ wx.cell? ⟨G, 4, none⟩ = some (.int .i64 s.c) from ⟨hx, (hW.out.kept hx).cell 0, (hW.out.kept hx).cell 1, (hW.out.kept hx).cell 2, (hW.out.kept hx).cell 3, (hW.out.kept hx).cell 4⟩))
        cases hcc : cOk s (ds.take k)
        · have hF := Lib.hid (show diaOk ds = false by rw [hR.out]; exact hN.out hcc)
          rw [hcc] at cC
          clear hcc hN hS hD
          go_region_held3 (fun wx => Below W0.heap.size W0 wx ∧ wx.cell? ⟨G, 0, none⟩ = some (.int .i64 s.v) ∧ wx.cell? ⟨G, 1, none⟩ = some (.int .i64 s.n) ∧ wx.cell? ⟨G, 2, none⟩ = some (.int .i64 s.a) ∧ wx.cell? ⟨G, 3, none⟩ = some (.int .i64 s.b) ∧ wx.cell? ⟨G, 4, none⟩ = some (.int .i64 s.c)) (first | exact hOk.out _ ((Below.refl _ _).drew) | exact hOk.out _ (bt6 (by assumption) hbq) | exact hOk.out _ (bs6 (by assumption)) | exact hOk.out _ (bd6 (by assumption)) | go_keep) (first | (go_at_call 70; refine (cC.out _ (And.left (by assumption))).mono ?_; rintro e q ⟨rfl, hbq⟩))
          rename_i hHeld
          have hB6 := Lib.hid (hB.out.trans (hHeld.1.mono hB.out.size))
          clear hHeld hbq hOk cC
          go_wp2_with fail
          go_ret
          exact ⟨ret_bool hF.out, hB6.out⟩
        · have hA2 := Lib.hid (show allOk ds (k + 1) = true by rw [hS.out, hAll.out, hcc]; rfl)
          rw [hcc] at cC
          clear hcc hN hS hD
          go_region_held3 (fun wx => Below W0.heap.size W0 wx ∧ wx.cell? ⟨G, 0, none⟩ = some (.int .i64 s.v) ∧ wx.cell? ⟨G, 1, none⟩ = some (.int .i64 s.n) ∧ wx.cell? ⟨G, 2, none⟩ = some (.int .i64 s.a) ∧ wx.cell? ⟨G, 3, none⟩ = some (.int .i64 s.b) ∧ wx.cell? ⟨G, 4, none⟩ = some (.int .i64 s.c)) (first | exact hOk.out _ ((Below.refl _ _).drew) | exact hOk.out _ (bt6 (by assumption) hbq) | exact hOk.out _ (bs6 (by assumption)) | exact hOk.out _ (bd6 (by assumption)) | go_keep) (first | (go_at_call 70; refine (cC.out _ (And.left (by assumption))).mono ?_; rintro e q ⟨rfl, hbq⟩))
          rename_i hHeld
          have hB6 := Lib.hid (hB.out.trans (hHeld.1.mono hB.out.size))
          clear hHeld hbq hOk cC
          go_wp2_with fail
          exact ⟨⟨k + 1, by omega, by go_num, hA2.out, hB6.out⟩, by simp [intOf]; omega⟩
      · obtain rfl : n = k := by omega
        go_wp2
        go_ret
        exact ⟨ret_bool (by rw [hR.out]; exact hAll.out), hb⟩
  · rw [q3] at cI
    have hR := Lib.hid (show diaOk ds = false by unfold diaOk; rw [hL.out, q3, Bool.false_and])
    clear q3
    go_enter Try.func18, Try.ntmps18
    go_wp2_with (go_at_call 69; refine (cI.out _).mono ?_; rintro e w' ⟨rfl, rfl⟩)
    go_ret
    exact ⟨ret_bool hR.out, Below.refl _ _⟩
/-- What DiagramAt tells. -/
def dAt (ds : List Ce) (s : Int) : Int := if diaOk ds = true ∧ inB s 0 80 = true then dnum ds s.toNat else -1
theorem DiagramAt_any (A : Option Addr) (n c : Nat) (ds : List Ce) (s : Int) (w : World) (h : CLst w w.heap.size A n ds) (hn : n ≤ maxLen) (hc : c ≤ maxLen) (hnc : n ≤ c) :
    Calls Try.prog 21 #[.slice A n c, .int .i64 s] w fun e w' => e = .returned (.int .i64 (dAt ds s)) ∧ Below w.heap.size w w' := by
  have cD := Lib.hid (DiagramOk_any A n c ds w h hn hc hnc)
  have cI := Lib.hid (fun wx => within_any s 0 80 wx)
  have hH := Lib.hid h
  have hL := h.1
  clear h
  cases hd : diaOk ds
  · have hR := Lib.hid (show dAt ds s = -1 by unfold dAt; rw [hd]; simp)
    rw [hd] at cD
    clear hd hL hn hc hnc
    go_enter Try.func21, Try.ntmps21
    go_wp2_with fail
    refine cD.out.mono ?_
    rintro e w1 ⟨rfl, hb⟩
    have hB := Lib.hid hb
    clear hb
    go_wp2_with fail
    go_ret
    exact ⟨ret_int hR.out, hB.out⟩
  · rw [hd] at cD
    rcases inB_cases s 0 80 with ⟨q1, q2, q3⟩ | ⟨q1, q3⟩
    · obtain ⟨z, rfl⟩ : ∃ z : Nat, s = z := ⟨s.toNat, by omega⟩
      have hR := Lib.hid (show dAt ds (z : Int) = dnum ds z by unfold dAt; rw [if_pos ⟨hd, q3⟩, Int.toNat_natCast])
      rw [q3] at cI
      obtain ⟨d1, d2, d3⟩ := dia_parts hd
      have cN := Lib.hid (fun (wx : World) (hx : CLst wx wx.heap.size A n ds) => numberLedTo_any A n c z ds wx hx (by omega) (by omega) (up_of d3) (by omega))
      clear hd q1 q2 q3 d1 d2 d3 hL hn hc hnc
      go_enter Try.func21, Try.ntmps21
      go_wp2_with fail
      refine cD.out.mono ?_
      rintro e w1 ⟨rfl, hb⟩
      have hB := Lib.hid hb
      clear hb
      go_wp2_with fail
      refine (cI.out _).mono ?_
      rintro e w2 ⟨rfl, rfl⟩
      go_wp2_with fail
      refine (cN.out _ ((hH.out.below hB.out).more hB.out.size)).mono ?_
      rintro e w2 ⟨rfl, m, rfl⟩
      go_wp2_with fail
      go_ret
      exact ⟨ret_int hR.out, below_drewN hB.out _⟩
    · have hR := Lib.hid (show dAt ds s = -1 by unfold dAt; rw [q3]; simp)
      rw [q3] at cI
      clear hd q1 q3 hL hn hc hnc
      go_enter Try.func21, Try.ntmps21
      go_wp2_with fail
      refine cD.out.mono ?_
      rintro e w1 ⟨rfl, hb⟩
      have hB := Lib.hid hb
      clear hb
      go_wp2_with fail
      refine (cI.out _).mono ?_
      rintro e w2 ⟨rfl, rfl⟩
      go_wp2_with fail
      go_ret
      exact ⟨ret_int hR.out, hB.out⟩
end Go.Proofs.Ytghkpmafocacoaa
