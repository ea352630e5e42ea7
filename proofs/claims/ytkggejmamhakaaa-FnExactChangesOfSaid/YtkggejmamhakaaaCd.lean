/- Whether a change can be done at a statement, and by what it makes the total less: the program's ChangeOk and FactorBy. -/
import Derived.Test.YtkggejmamhakaaaCh
namespace Go.Proofs.Ytkggejmamhakaaa
set_option maxRecDepth 100000
set_option linter.unusedVariables false
open Go.RowKit

theorem cg_no1 {ps : List St} {c z : Int} (h : plainOk ps = false) : cgOk ps c z = false := by simp [cgOk, h]
theorem cg_no2 {ps : List St} {c z : Int} (h : inB c 0 4 = false) : cgOk ps c z = false := by simp [cgOk, h]
theorem cg_no3 {ps : List St} {c z : Int} (h : inB z 0 (ps.length - 1) = false) : cgOk ps c z = false := by simp [cgOk, h]
theorem cg_yes {ps : List St} {c z : Int} (h1 : plainOk ps = true) (h2 : inB c 0 4 = true) (h3 : inB z 0 (ps.length - 1) = true) : cgOk ps c z = fitAt c ps z.toNat := by simp [cgOk, h1, h2, h3]
set_option maxHeartbeats 1000000 in
theorem ChangeOk_any (A : Option Addr) (n cap : Nat) (ps : List St) (c z : Int) (w : World) (h : Lst w w.heap.size A n ps) (hn : n ≤ cap) (hc : cap ≤ maxLen) :
    Calls Try.prog 22 #[.slice A n cap, .int .i64 c, .int .i64 z] w fun e w' => e = .returned (.bool (cgOk ps c z)) ∧ Below w.heap.size w w' := by
  have hL := Lib.hid h.1
  have hH := Lib.hid h
  have cP := Lib.hid (PlainOk_any A n cap ps w h hn hc)
  have hn9 : n ≤ 9223372036854775807 := by unfold maxLen at hc; omega
  have cI1 := Lib.hid (fun wx => within_any c 0 4 wx)
  have cI2 := Lib.hid (fun wx => within_any z 0 ((n : Int) - 1) wx)
  have hcm := Lib.hid hc
  clear h hc
  cases hp : plainOk ps
  · have hR := Lib.hid (cg_no1 (c := c) (z := z) hp)
    go_enter Try.func22, Try.ntmps22
    go_wp2_with fail
    refine cP.out.mono ?_
    rw [hp]
    rintro e w1 ⟨rfl, hb⟩
    go_wp2_with fail
    go_ret
    exact ⟨ret_bool hR.out, hb⟩
  · cases hi : inB c 0 4
    · have hR := Lib.hid (cg_no2 (ps := ps) (z := z) hi)
      go_enter Try.func22, Try.ntmps22
      go_wp2_with fail
      refine cP.out.mono ?_
      rw [hp]
      rintro e w1 ⟨rfl, hb⟩
      go_wp2_with fail
      refine (cI1.out _).mono ?_
      rw [hi]
      rintro e w2 ⟨rfl, hbe⟩
      obtain rfl := hbe
      go_wp2_with fail
      go_ret
      exact ⟨ret_bool hR.out, hb⟩
    · cases hj : inB z 0 ((n : Int) - 1)
      · have hR := Lib.hid (cg_no3 (ps := ps) (c := c) (z := z) (by rw [hL.out]; exact hj))
        go_enter Try.func22, Try.ntmps22
        go_wp2_with fail
        refine cP.out.mono ?_
        rw [hp]
        rintro e w1 ⟨rfl, hb⟩
        go_wp2_with fail
        refine (cI1.out _).mono ?_
        rw [hi]
        rintro e w2 ⟨rfl, hbe⟩
        obtain rfl := hbe
        go_wp2_with fail
        refine (cI2.out _).mono ?_
        rw [hj]
        rintro e w2 ⟨rfl, hbe⟩
        obtain rfl := hbe
        go_wp2_with fail
        go_ret
        exact ⟨ret_bool hR.out, hb⟩
      · obtain ⟨hz0, hz1⟩ := inB_iff.1 hj
        obtain ⟨k, rfl⟩ : ∃ k : Nat, z = k := ⟨z.toNat, by omega⟩
        have hk : k < n := by omega
        obtain ⟨a, ha⟩ : ∃ a, ps[k]? = some a := ⟨_, List.getElem?_eq_getElem (by have := hL.out; omega)⟩
        have hok := (plain_iff.1 hp).2
        have hR := Lib.hid (show cgOk ps c k = fits c a ps[k + 1]? by
          rw [cg_yes hp hi (by rw [hL.out]; exact hj)]
          unfold fitAt
          rw [Int.toNat_natCast, ha])
        have cW := Lib.hid (fun wx (hx : Lst wx wx.heap.size A n ps) => windowAt_any A n cap k wx.heap.size ps a wx hx hn hcm.out ha)
        have cF := Lib.hid (fun A' cap' wx hx hcp => changeFits_any c a ps[k + 1]? A' cap' wx (inB_iff.1 hi) (hok a (List.mem_of_getElem? ha)) (fun b hb => hok b (List.mem_of_getElem? hb)) hx hcp)
        generalize ps[k + 1]? = ob at cW cF hR
        clear ha hok
        go_enter Try.func22, Try.ntmps22
        go_wp2_with fail
        refine cP.out.mono ?_
        rw [hp]
        rintro e w1 ⟨rfl, hb⟩
        have hH1 := Lib.hid ((hH.out.below hb).more hb.size)
        go_wp2_with fail
        refine (cI1.out _).mono ?_
        rw [hi]
        rintro e w2 ⟨rfl, hbe⟩
        obtain rfl := hbe
        go_wp2_with fail
        refine (cI2.out _).mono ?_
        rw [hj]
        rintro e w2 ⟨rfl, hbe⟩
        obtain rfl := hbe
        clear hi hj hp
        go_wp2_with fail
        refine (cW.out _ hH1.out).mono ?_
        rintro e w3 ⟨A', cap', rfl, hc1, hc2, hl, hbe⟩
        obtain rfl := hbe
        have hB1 := Lib.hid hb
        clear hb
        go_wp2_with fail
        refine (cF.out A' cap' _ hl hc1).mono ?_
        rintro e w4 ⟨rfl, hb4⟩
        have hB4 := Lib.hid (hB1.out.trans (hb4.mono hB1.out.size))
        clear hb4
        go_wp2_with fail
        go_ret
        exact ⟨ret_bool hR.out, hB4.out⟩

/-- The number told for a change, and whether it can be done. -/
def cgBy (ps : List St) (c z : Int) : Int := if cgOk ps c z = true then facBy c (ps.getD z.toNat ⟨0, 0, 0, 0, 0, 0, 0⟩) else 0
theorem cg_parts {ps : List St} {c z : Int} (h : cgOk ps c z = true) : plainOk ps = true ∧ (0 ≤ c ∧ c ≤ 4) ∧ 0 ≤ z ∧ fitAt c ps z.toNat = true := by
  unfold cgOk at h
  rw [Bool.and_eq_true, Bool.and_eq_true, Bool.and_eq_true] at h
  exact ⟨h.1.1.1, inB_iff.1 h.1.1.2, (inB_iff.1 h.1.2).1, h.2⟩
set_option maxHeartbeats 1000000 in
theorem FactorBy_any (A : Option Addr) (n cap : Nat) (ps : List St) (c z : Int) (w : World) (h : Lst w w.heap.size A n ps) (hn : n ≤ cap) (hc : cap ≤ maxLen) :
    Calls Try.prog 35 #[.slice A n cap, .int .i64 c, .int .i64 z] w fun e w' => e = .returned (.tuple #[.int .i64 (cgBy ps c z), .bool (cgOk ps c z)]) ∧ Below w.heap.size w w' := by
  have hL := Lib.hid h.1
  have hH := Lib.hid h
  have cO := Lib.hid (ChangeOk_any A n cap ps c z w h hn hc)
  have hn9 : n ≤ 9223372036854775807 := by unfold maxLen at hc; omega
  clear h hc
  cases hp : cgOk ps c z
  · have hR := Lib.hid (show cgBy ps c z = 0 by unfold cgBy; rw [if_neg (by rw [hp]; decide)])
    go_enter Try.func35, Try.ntmps35
    go_wp2_with fail
    refine cO.out.mono ?_
    rw [hp]
    rintro e w1 ⟨rfl, hb⟩
    go_wp2_with fail
    go_ret2
    exact ⟨by rw [hR.out]; rfl, hb⟩
  · obtain ⟨hpl, hcc, hz0, hf⟩ := cg_parts hp
    obtain ⟨k, rfl⟩ : ∃ k : Nat, z = k := ⟨z.toNat, by omega⟩
    obtain ⟨a, ha, _⟩ := fitAt_some hf
    rw [Int.toNat_natCast] at ha
    have hk : k < n := by have := (List.getElem?_eq_some_iff.1 ha).1; have := hL.out; omega
    have hR := Lib.hid (show cgBy ps c k = facBy c a by
      unfold cgBy
      rw [if_pos hp, Int.toNat_natCast, List.getD_eq_getElem?_getD, ha]; rfl)
    have hoa := (plain_iff.1 hpl).2 a (List.mem_of_getElem? ha)
    have cF := Lib.hid (fun wx => factorOf_any a c wx (ok_ws hoa.1 hoa.2))
    have hA := Lib.hid ha
    have hk0 : (0 : Int) ≤ (k : Int) := by omega
    have hk1 : (k : Int) < (n : Int) := by omega
    clear hpl hcc hz0 hf ha hoa
    go_enter Try.func35, Try.ntmps35
    go_wp2_with fail
    refine cO.out.mono ?_
    rw [hp]
    rintro e w1 ⟨rfl, hb⟩
    obtain ⟨g, off, s0, rfl, hg, hs0, hat⟩ := (hH.out.below hb).at_ hk
    obtain rfl : a = s0 := by rw [hA.out] at hs0; injection hs0
    obtain ⟨c0, c1, c2, c3, c4, c5, c6⟩ := hat.open_
    have hB1 := Lib.hid hb
    clear hb hs0 hat
    go_wp2_with fail
    refine (cF.out _).mono ?_
    rintro e w4 ⟨rfl, hb4⟩
    have hB4 := Lib.hid (hB1.out.trans (hb4.mono hB1.out.size))
    clear hb4
    go_wp2_with fail
    go_ret2
    exact ⟨by rw [hR.out]; rfl, hB4.out⟩
end Go.Proofs.Ytkggejmamhakaaa
