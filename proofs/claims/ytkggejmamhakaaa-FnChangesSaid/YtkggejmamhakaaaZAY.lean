/- Parts of the proof: Cd. -/
import Derived.Test.YtkggejmamhakaaaZAV
import Derived.Test.YtkggejmamhakaaaZAX
namespace Go.Proofs.Ytkggejmamhakaaa
set_option maxRecDepth 100000
set_option linter.unusedVariables false
open Go.RowKit
theorem cg_no1 {ps : List St} {c z : Int} (h : plainOk ps = false) : cgOk ps c z = false := by simp [cgOk, h]
theorem cg_no2 {ps : List St} {c z : Int} (h : inB c 0 4 = false) : cgOk ps c z = false := by simp [cgOk, h]
theorem cg_no3 {ps : List St} {c z : Int} (h : inB z 0 (ps.length - 1) = false) : cgOk ps c z = false := by simp [cgOk, h]
theorem cg_yes {ps : List St} {c z : Int} (h1 : plainOk ps = true) (h2 : inB c 0 4 = true) (h3 : inB z 0 (ps.length - 1) = true) : cgOk ps c z = fitAt c ps z.toNat := by simp [cgOk, h1, h2, h3]
set_option maxHeartbeats 1000000 in
theorem ChangeOk_any (A : Option Addr) (n cap : Nat) (ps : List St) (c z : Int) (w : World) (h : Lst w w.heap.size A n ps) (hn : n ≤ cap) (hc : cap ≤ maxLen) :
    Calls Try.prog 22 #[.slice A n cap, .int .i64 c, .int .i64 z] w fun e w' => e = .returned (.bool (cgOk ps c z)) ∧ Below w.heap.size w w' := by
  have hL := Lib.hid h.1
  have hH := Lib.hid h
  have cP := Lib.hid (PlainOk_any A n cap ps w h hn hc)
  have hn9 : n ≤ 9223372036854775807 := by unfold maxLen at hc; omega
  have cI1 := Lib.hid (fun wx => within_any c 0 4 wx)
  have cI2 := Lib.hid (fun wx => within_any z 0 ((n : Int) - 1) wx)
  have hcm := Lib.hid hc
  clear h hc
  cases hp : plainOk ps
  · have hR := Lib.hid (cg_no1 (c := c) (z := z) hp)
    go_enter Try.func22, Try.ntmps22
    go_wp2_with fail
    refine cP.out.mono ?_
    rw [hp]
    rintro e w1 ⟨rfl, hb⟩
    go_wp2_with fail
    go_ret
    exact ⟨ret_bool hR.out, hb⟩
  · cases hi : inB c 0 4
    · have hR := Lib.hid (cg_no2 (ps := ps) (z := z) hi)
      go_enter Try.func22, Try.ntmps22
      go_wp2_with fail
      refine cP.out.mono ?_
      rw [hp]
      rintro e w1 ⟨rfl, hb⟩
      go_wp2_with fail
      refine (cI1.out _).mono ?_
      rw [hi]
      rintro e w2 ⟨rfl, hbe⟩
      obtain rfl := hbe
      go_wp2_with fail
      go_ret
      exact ⟨ret_bool hR.out, hb⟩
    · cases hj : inB z 0 ((n : Int) - 1)
      · have hR := Lib.hid (cg_no3 (ps := ps) (c := c) (z := z) (by rw [hL.out]; exact hj))
        go_enter Try.func22, Try.ntmps22
        go_wp2_with fail
        refine cP.out.mono ?_
        rw [hp]
        rintro e w1 ⟨rfl, hb⟩
        go_wp2_with fail
        refine (cI1.out _).mono ?_
        rw [hi]
        rintro e w2 ⟨rfl, hbe⟩
        obtain rfl := hbe
        go_wp2_with fail
        refine (cI2.out _).mono ?_
        rw [hj]
        rintro e w2 ⟨rfl, hbe⟩
        obtain rfl := hbe
        go_wp2_with fail
        go_ret
        exact ⟨ret_bool hR.out, hb⟩
      · obtain ⟨hz0, hz1⟩ := inB_iff.1 hj
        obtain ⟨k, rfl⟩ : ∃ k : Nat, z = k := ⟨z.toNat, by omega⟩
        have hk : k < n := by omega
        obtain ⟨a, ha⟩ : ∃ a, ps[k]? = some a := ⟨_, List.getElem?_eq_getElem (by have := hL.out; omega)⟩
        have hok := (plain_iff.1 hp).2
        have hR := Lib.hid (show cgOk ps c k = fits c a ps[k + 1]? by
          rw [cg_yes hp hi (by rw [hL.out]; exact hj)]
          unfold fitAt
          rw [Int.toNat_natCast, ha])
        have cW := Lib.hid (fun wx (hx : Lst wx wx.heap.size A n ps) => windowAt_any A n cap k wx.heap.size ps a wx hx hn hcm.out ha)
        have cF := Lib.hid (fun A' cap' wx hx hcp => changeFits_any c a ps[k + 1]? A' cap' wx (inB_iff.1 hi) (hok a (List.mem_of_getElem? ha)) (fun b hb => hok b (List.mem_of_getElem? hb)) hx hcp)
        generalize ps[k + 1]? = ob at cW cF hR
        clear ha hok
        go_enter Try.func22, Try.ntmps22
        go_wp2_with fail
        refine cP.out.mono ?_
        rw [hp]
        rintro e w1 ⟨rfl, hb⟩
        have hH1 := Lib.hid ((hH.out.below hb).more hb.size)
        go_wp2_with fail
        refine (cI1.out _).mono ?_
        rw [hi]
        rintro e w2 ⟨rfl, hbe⟩
        obtain rfl := hbe
        go_wp2_with fail
        refine (cI2.out _).mono ?_
        rw [hj]
        rintro e w2 ⟨rfl, hbe⟩
        obtain rfl := hbe
        clear hi hj hp
        go_wp2_with fail
        refine (cW.out _ hH1.out).mono ?_
        rintro e w3 ⟨A', cap', rfl, hc1, hc2, hl, hbe⟩
        obtain rfl := hbe
        have hB1 := Lib.hid hb
        clear hb
        go_wp2_with fail
        refine (cF.out A' cap' _ hl hc1).mono ?_
        rintro e w4 ⟨rfl, hb4⟩
        have hB4 := Lib.hid (hB1.out.trans (hb4.mono hB1.out.size))
        clear hb4
        go_wp2_with fail
        go_ret
        exact ⟨ret_bool hR.out, hB4.out⟩
/-- The number told for a change, and whether it can be done. -/
def cgBy (ps : List St) (c z : Int) : Int := if cgOk ps c z = true then facBy c (ps.getD z.toNat ⟨0, 0, 0, 0, 0, 0, 0⟩) else 0
theorem cg_parts {ps : List St} {c z : Int} (h : cgOk ps c z = true) : plainOk ps = true ∧ (0 ≤ c ∧ c ≤ 4) ∧ 0 ≤ z ∧ fitAt c ps z.toNat = true := by
  unfold cgOk at h
  rw [Bool.and_eq_true, Bool.and_eq_true, Bool.and_eq_true] at h
  exact ⟨h.1.1.1, inB_iff.1 h.1.1.2, (inB_iff.1 h.1.2).1, h.2⟩
set_option maxHeartbeats 1000000 in
theorem FactorBy_any (A : Option Addr) (n cap : Nat) (ps : List St) (c z : Int) (w : World) (h : Lst w w.heap.size A n ps) (hn : n ≤ cap) (hc : cap ≤ maxLen) :
    Calls Try.prog 35 #[.slice A n cap, .int .i64 c, .int .i64 z] w fun e w' => e = .returned (.tuple #[.int .i64 (cgBy ps c z), .bool (cgOk ps c z)]) ∧ Below w.heap.size w w' := by
  have hL := Lib.hid h.1
  have hH := Lib.hid h
  have cO := Lib.hid (ChangeOk_any A n cap ps c z w h hn hc)
  have hn9 : n ≤ 9223372036854775807 := by unfold maxLen at hc; omega
  clear h hc
  cases hp : cgOk ps c z
  · have hR := Lib.hid (show cgBy ps c z = 0 by unfold cgBy; rw [if_neg (by rw [hp]; decide)])
    go_enter Try.func35, Try.ntmps35
    go_wp2_with fail
    refine cO.out.mono ?_
    rw [hp]
    rintro e w1 ⟨rfl, hb⟩
    go_wp2_with fail
    go_ret2
    exact ⟨by rw [hR.out]; rfl, hb⟩
  · obtain ⟨hpl, hcc, hz0, hf⟩ := cg_parts hp
    obtain ⟨k, rfl⟩ : ∃ k : Nat, z = k := ⟨z.toNat, by omega⟩
    obtain ⟨a, ha, _⟩ := fitAt_some hf
    rw [Int.toNat_natCast] at ha
    have hk : k < n := by have := (List.getElem?_eq_some_iff.1 ha).1; have := hL.out; omega
    have hR := Lib.hid (show cgBy ps c k = facBy c a by
      unfold cgBy
      rw [if_pos hp, Int.toNat_natCast, List.getD_eq_getElem?_getD, ha]; rfl)
    have hoa := (plain_iff.1 hpl).2 a (List.mem_of_getElem? ha)
    have cF := Lib.hid (fun wx => factorOf_any a c wx (ok_ws hoa.1 hoa.2))
    have hA := Lib.hid ha
    have hk0 : (0 : Int) ≤ (k : Int) := by omega
    have hk1 : (k : Int) < (n : Int) := by omega
    clear hpl hcc hz0 hf ha hoa
    go_enter Try.func35, Try.ntmps35
    go_wp2_with fail
    refine cO.out.mono ?_
    rw [hp]
    rintro e w1 ⟨rfl, hb⟩
    obtain ⟨g, off, s0, rfl, hg, hs0, hat⟩ := (hH.out.below hb).at_ hk
    obtain rfl : a = s0 := by rw [hA.out] at hs0; injection hs0
    obtain ⟨c0, c1, c2, c3, c4, c5, c6⟩ := hat.open_
    have hB1 := Lib.hid hb
    clear hb hs0 hat
    go_wp2_with fail
    refine (cF.out _).mono ?_
    rintro e w4 ⟨rfl, hb4⟩
    have hB4 := Lib.hid (hB1.out.trans (hb4.mono hB1.out.size))
    clear hb4
    go_wp2_with fail
    go_ret2
    exact ⟨by rw [hR.out]; rfl, hB4.out⟩
end Go.Proofs.Ytkggejmamhakaaa
namespace Go.Proofs.Ytkggejmamhakaaa
set_option maxRecDepth 100000
set_option linter.unusedVariables false
open Go.RowKit
def rowsAt (ps : List St) (c k : Nat) : List (List Int) := ((List.range k).filter fun i => fitAt c ps i).map fun (i : Nat) => [(c : Int), (i : Int)]
def rowsTo (ps : List St) : Nat → List (List Int)
  | 0 => []
  | c + 1 => rowsTo ps c ++ rowsAt ps c ps.length
def chRows (ps : List St) : List (List Int) := if plainOk ps = true then rowsTo ps 5 else []
theorem rowsAt_zero (ps : List St) (c : Nat) : rowsAt ps c 0 = [] := by simp [rowsAt]
theorem rowsAt_yes {ps : List St} {c k : Nat} (h : fitAt c ps k = true) : rowsAt ps c (k + 1) = rowsAt ps c k ++ [[(c : Int), (k : Int)]] := by
  unfold rowsAt
  rw [List.range_succ, List.filter_append, List.map_append]
  simp [h]
theorem rowsAt_no {ps : List St} {c k : Nat} (h : fitAt c ps k = false) : rowsAt ps c (k + 1) = rowsAt ps c k := by
  unfold rowsAt
  rw [List.range_succ, List.filter_append, List.map_append]
  simp [h]
theorem rowsAt_len (ps : List St) (c k : Nat) : (rowsAt ps c k).length ≤ k := by
  unfold rowsAt
  rw [List.length_map]
  exact Nat.le_trans (List.length_filter_le _ _) (by simp)
theorem rowsTo_len (ps : List St) : ∀ c, (rowsTo ps c).length ≤ c * ps.length
  | 0 => by simp [rowsTo]
  | c + 1 => by
    have h1 := rowsTo_len ps c
    have h2 := rowsAt_len ps c ps.length
    rw [rowsTo, List.length_append, Nat.add_mul]
    omega
def Rwsd (w : World) (rs : List (List Int)) (e : Ending) (w' : World) : Prop := ∃ v vs, e = .returned v ∧ RowsV w' w.heap.size v rs vs ∧ Apart vs ∧ Below w.heap.size w w'
theorem ints_new {w : World} {base g : Nat} {ds : List Int} {n : Nat} {cs : Array Value} (h : Has w g 3 cs) (hc : cs.toList = ints ds) (hn : ds.length = n) (hg : base ≤ g) (hm : n ≤ maxLen) : IOwn w base (.slice (some ⟨g, 0, none⟩) n n) ds := IOwn.of_has h hc hn hg hm
set_option maxHeartbeats 2000000 in
theorem ChangesOf_any (A : Option Addr) (n cap : Nat) (ps : List St) (w : World) (h : Lst w w.heap.size A n ps) (hn : n ≤ cap) (hcm : cap ≤ maxLen) :
    Calls Try.prog 16 #[.slice A n cap] w (Rwsd w (chRows ps)) := by
  have hL := Lib.hid h.1
  have hH := Lib.hid h
  have cP := Lib.hid (PlainOk_any A n cap ps w h hn hcm)
  have hcm' := Lib.hid hcm
  clear h hcm
  cases hp : plainOk ps
  · have hR := Lib.hid (show chRows ps = [] by unfold chRows; rw [hp]; rfl)
    go_enter Try.func16, Try.ntmps16
    go_wp2_with fail
    refine cP.out.mono ?_
    rw [hp]
    rintro e w1 ⟨rfl, hb⟩
    go_wp2_with fail
    go_ret
    exact ⟨_, [], rfl, by rw [hR.out]; exact RowsV.nil _ _, Apart.nil, hb⟩
  · have hR := Lib.hid (show chRows ps = rowsTo ps 5 by unfold chRows; rw [hp]; rfl)
    obtain ⟨h10, hok⟩ := plain_iff.1 hp
    have h10' : n ≤ 10 := by have := hL.out; omega
    have hokh := Lib.hid hok
    obtain ⟨i0, hi0, hz0, hz1', hz2'⟩ := info_parts info_row
    clear h10 hok
    go_enter Try.func16, Try.ntmps16
    go_wp2_with fail
    refine cP.out.mono ?_
    rw [hp]
    rintro e w1 ⟨rfl, hb1⟩
    have hB1 := Lib.hid hb1
    clear hb1 hp
    go_wp2_with fail
    go_loopg [3, 4] 5 (fun gn l o wr => ∃ (c : Nat) (vs : List Value), c ≤ 5 ∧ gn = 5 - c ∧ o = .int .i64 (c : Int) ∧ RowsV wr w.heap.size l (rowsTo ps c) vs ∧ Apart vs ∧ Below w.heap.size w wr)
    case atStart => exact ⟨0, [], by decide, rfl, rfl, RowsV.nil _ _, Apart.nil, hB1.out⟩
    case round =>
      obtain ⟨c, vs, hc5, hgn, rfl, hrv, hap, hB⟩ := hrel
      have hgk : gk = 5 - c := hgn
      obtain ⟨Al, cl, hv, hlc, hlm⟩ := hrv.form
      subst hv
      have hRv := Lib.hid hrv
      have hAp := Lib.hid hap
      have hBr := Lib.hid hB
      clear hgn hrv hap hB
      by_cases hlt : c < 5
      · go_wp2_with fail
        have hdec : decide ((c : Int) < 5) = true := decide_eq_true (by omega)
        try rw [hdec]
        clear hdec
        obtain ⟨wq, rfl⟩ : ∃ x, x = wr := ⟨_, rfl⟩
        obtain ⟨gq, hgq⟩ : ∃ x, x = gk := ⟨_, rfl⟩
        go_loopg [3, 15] n (fun gn l o wz => ∃ (k : Nat) (us : List Value), k ≤ n ∧ gn = n - k ∧ o = .int .i64 (k : Int) ∧ RowsV wz w.heap.size l (rowsTo ps c ++ rowsAt ps c k) us ∧ Apart us ∧ Below w.heap.size w wz)
        case atStart => exact ⟨0, vs, Nat.zero_le _, rfl, rfl, by rw [rowsAt_zero, List.append_nil]; exact hRv.out, hAp.out, hBr.out⟩
        case round =>
          obtain ⟨k, us, hkn, hgn2, rfl, hrv, hap, hB⟩ := hrel
          obtain ⟨rs, hrs0⟩ : ∃ rs, rowsTo ps c ++ rowsAt ps c k = rs := ⟨_, rfl⟩
          have hlen : rs.length ≤ 60 := by
            have h1 := rowsTo_len ps c
            have h2 := rowsAt_len ps c k
            have h3 : c * ps.length ≤ 5 * 10 := Nat.mul_le_mul (by omega) (by have := hL.out; omega)
            rw [← hrs0, List.length_append]; omega
          rw [hrs0] at hrv
          obtain ⟨Al2, cl2, hv2, hlc2, hlm2⟩ := hrv.form
          subst hv2
          have hRu := Lib.hid hrv
          have hAu := Lib.hid hap
          have hBu := Lib.hid hB
          clear hrv hap hB
          by_cases hlk : k < n
          · have hk0 : (0 : Int) ≤ (k : Int) := by omega
            have hk1 : (k : Int) < (n : Int) := by omega
            obtain ⟨a, ha⟩ : ∃ a, ps[k]? = some a := ⟨_, List.getElem?_eq_getElem (by have := hL.out; omega)⟩
            have hfe := Lib.hid (show fitAt c ps k = fits c a ps[k + 1]? by unfold fitAt; rw [ha])
            have cW := Lib.hid (windowAt_any A n cap k wr.heap.size ps a wr ((hH.out.below hBu.out).more hBu.out.size) hn hcm'.out ha)
            have cF := Lib.hid (fun A' cap' wx hx hcp => changeFits_any c a ps[k + 1]? A' cap' wx (by omega) (hokh.out a (List.mem_of_getElem? ha)) (fun b hb => hokh.out b (List.mem_of_getElem? hb)) hx hcp)
            unfold Wind at cW
            generalize ps[k + 1]? = ob at cW cF hfe
            have hrs0h := Lib.hid hrs0
            clear ha
            go_wp2_with fail
            refine cW.out.mono ?_
            rintro e w3 ⟨A', cap', rfl, hc1, hc2, hl, hbe⟩
            obtain rfl := hbe
            go_wp2_with fail
            refine (cF.out A' cap' _ hl hc1).mono ?_
            cases hff : fits c a ob
            · have hrs := Lib.hid (show rowsTo ps c ++ rowsAt ps c (k + 1) = rs by rw [rowsAt_no (hfe.out.trans hff), hrs0])
              rintro e w4 ⟨rfl, hb4⟩
              have hRz := Lib.hid (hRu.out.but (KeptBut.of_below hb4 (fun _ => False)) (fun _ _ h => h) (fun _ _ _ _ _ h => h))
              have hBz := Lib.hid (hBu.out.trans (hb4.mono hBu.out.size))
              clear hb4 hl hff hrs0
              go_wp2_with fail
              go_roundg (n - (k + 1))
              case measure => omega
              case rel => exact ⟨k + 1, us, by omega, rfl, by go_num, by rw [hrs.out]; exact hRz.out, hAu.out, hBz.out⟩
            · have hrs := Lib.hid (show rowsTo ps c ++ rowsAt ps c (k + 1) = rs ++ [[(c : Int), (k : Int)]] by rw [rowsAt_yes (hfe.out.trans hff), ← List.append_assoc, hrs0])
              rintro e w4 ⟨rfl, hb4⟩
              have hRz := hRu.out.but (KeptBut.of_below hb4 (fun _ => False)) (fun _ _ h => h) (fun _ _ _ _ _ h => h)
              have hBz := hBu.out.trans (hb4.mono hBu.out.size)
              have hz4 := hBz.size
              have hap4 : ∀ y ∈ us, ∀ q, y.ownBlock = some q → q < w4.heap.size := fun y hy q hq => by
                obtain ⟨i, hi, hie⟩ := List.getElem_of_mem hy
                obtain ⟨ds, _, ho⟩ := hRz.2 i y (by rw [List.getElem?_eq_getElem hi, hie])
                exact (World.ownsRow.lt ho q hq).2
              have hI5 : IOwn (w4.alloc (.cells #[.int .i64 (c : Int), .int .i64 (k : Int)] 3)) w.heap.size (.slice (some ⟨w4.heap.size, 0, none⟩) 2 2) [(c : Int), (k : Int)] := ints_new (Has.new w4 _ _) rfl rfl hz4 (by unfold maxLen; decide)
              have hK5 := KeptBut.alloc (KeptBut.refl w4 (fun _ => False)) (.cells #[.int .i64 (c : Int), .int .i64 (k : Int)] 3)
              have hR5 := hRz.but hK5 (fun _ _ h => h) (fun _ _ _ _ _ h => h)
              have hB5 := hBz.alloc hz4 (.cells #[.int .i64 (c : Int), .int .i64 (k : Int)] 3)
              have hnw := Lib.hid (new_one (w4.alloc (.cells #[.int .i64 (c : Int), .int .i64 (k : Int)] 3)) (.slice (some ⟨w4.heap.size, 0, none⟩) 2 2) 31)
              have hK6 := KeptBut.alloc (KeptBut.refl (w4.alloc (.cells #[.int .i64 (c : Int), .int .i64 (k : Int)] 3)) (fun _ => False)) (.cells #[.slice (some ⟨w4.heap.size, 0, none⟩) 2 2] 31)
              have hR6 := Lib.hid (hR5.but hK6 (fun _ _ h => h) (fun _ _ _ _ _ h => h))
              have hI6 := Lib.hid (IOwn.but (ds := [(c : Int), (k : Int)]) hI5 hK6 (fun _ _ h => h))
              have hB6 := Lib.hid (hB5.alloc (by simp; omega) (.cells #[.slice (some ⟨w4.heap.size, 0, none⟩) 2 2] 31))
              have hA6 := Lib.hid (hAu.out.snoc (x := .slice (some ⟨w4.heap.size, 0, none⟩) 2 2) (fun y hy q hq e => by
                have h1 := hap4 y hy q hq
                have h2 : w4.heap.size = q := by simpa [Value.ownBlock] using e
                omega))
              clear hb4 hl hff hrs0 hRz hBz hap4 hI5 hK5 hR5 hB5 hK6
              go_wp2_with (at_builtin; refine wpList_append_own _ rfl (.tmp 23) (.tmp 27) 29 rfl w.heap.size 31 i0 _ 1 24 Try.underlying29 hi0 hz0 hz1' hz2' rfl (by decide) (.slice Al2 rs.length cl2) rs.length us ?hs (by exact hR6.out.1) ⟨w4.heap.size + 1, 0, none⟩ 1 1 [.slice (some ⟨w4.heap.size, 0, none⟩) 2 2] ?hx rfl (by have := hnw.out; simpa using this) (by simp [Value.oneCell']) (by unfold maxLen; omega) (by omega) (by simp; omega) ?_)
              case hs => first | rfl | simp [Act.eval]
              case hx => first | rfl | simp [Act.eval]
              intro v7 w7 hown7 hgrow7 _
              have hR7 := RowsV.append_ hR6.out hI6.out hown7 hgrow7
              have hB7 := hB6.out.grown hgrow7 (by simp; omega) (fun q hq => (World.ownsRow.lt hR6.out.1 q hq).1)
              obtain ⟨Al7, cl7, hv7, _, _⟩ := hR7.form
              subst hv7
              have hR7h := Lib.hid hR7
              have hB7h := Lib.hid hB7
              clear hown7 hgrow7 hR7 hB7
              go_wp2_with fail
              go_roundg (n - (k + 1))
              case measure => omega
              case rel => exact ⟨k + 1, _, by omega, rfl, by go_num, by rw [hrs.out]; exact hR7h.out, hA6.out, hB7h.out⟩
          · obtain rfl : k = n := by omega
            have hrt := Lib.hid (show rowsTo ps (c + 1) = rs by rw [rowsTo, hL.out]; exact hrs0)
            clear hrs0
            go_wp2_with fail
            go_roundg (5 - (c + 1))
            case measure => omega
            case rel => exact ⟨c + 1, us, by omega, rfl, by go_num, by rw [hrt.out]; exact hRu.out, hAu.out, hBu.out⟩
      · obtain rfl : c = 5 := by omega
        go_wp2_with fail
        go_ret
        exact ⟨_, vs, rfl, by rw [hR.out]; exact hRv.out, hAp.out, hBr.out⟩
end Go.Proofs.Ytkggejmamhakaaa
