/- Parts of the proof: Cr. -/
import Derived.Test.YtkggejmamhakaaaZBJ
import Derived.Test.YtkggejmamhakaaaZBL
import Derived.Test.YtkggejmamhakaaaZBM
import Derived.Test.YtkggejmamhakaaaZBN
import Derived.Test.YtkggejmamhakaaaZBO
import Derived.Test.YtkggejmamhakaaaZBP
import Derived.Test.YtkggejmamhakaaaZBQ
import Derived.Test.YtkggejmamhakaaaZBR
import Derived.Test.YtkggejmamhakaaaZAY
namespace Go.Proofs.Ytkggejmamhakaaa
set_option maxRecDepth 100000
set_option linter.unusedVariables false
open Go.RowKit
set_option maxHeartbeats 2000000 in
theorem l6Ok_any (A : Option Addr) (n cap k : Nat) (ps : List St) (c : Int) (a : St) (w : World) (h : Lst w w.heap.size A n ps) (hn : n ≤ 1048576) (hcc : 0 ≤ c ∧ c ≤ 4) (ha : ps[k]? = some a) (hoa : a.ok = true ∧ a.k < 6) (hob : ∀ b, ps[k + 1]? = some b → b.ok = true ∧ b.k < 6) :
    Calls Try.prog 60 #[.slice A n cap, .int .i64 c, .int .i64 (k : Int)] w fun e w' => e = .returned (.bool (fits c a ps[k + 1]?)) ∧ Below w.heap.size w w' := by
  have hk : k < n := by have := (List.getElem?_eq_some_iff.1 ha).1; have := h.1; omega
  obtain ⟨g, off, s0, rfl, hg, hs0, hat⟩ := h.at_ hk
  obtain rfl : a = s0 := by rw [ha] at hs0; injection hs0
  obtain ⟨c0, c1, c2, c3, c4, c5, c6⟩ := hat.open_
  have hk0 : (0 : Int) ≤ (k : Int) := by omega
  have hk1 : (k : Int) < (n : Int) := by omega
  have hwa := ok_wsm hoa.1 hoa.2
  have h1 := Has.new w 63 #[.int .i64 a.k, .int .i64 a.a, .int .i64 a.b, .int .i64 a.c, .int .i64 a.u, .int .i64 a.v, .int .i64 a.x]
  have hh1 := Lib.hid h1
  have hB := Lib.hid (show Below w.heap.size w (w.alloc (.cells #[.int .i64 a.k, .int .i64 a.a, .int .i64 a.b, .int .i64 a.c, .int .i64 a.u, .int .i64 a.v, .int .i64 a.x] 63)) from (Below.refl _ _).alloc (Nat.le_refl _) _)
  by_cases h3 : c = 3
  · subst h3
    have hR := fits3 (a := a) (ob := ps[k + 1]?) (by omega)
    have cC := Lib.hid (fun wx => l6Common_any a.u a.v a.x wx (by omega) (by omega) (by omega))
    rw [← com_three hoa.1 hoa.2] at cC
    generalize fits 3 a ps[k + 1]? = res at hR ⊢
    clear h hat hs0 hob ha
    by_cases h2 : 2 ≤ a.k
    · rw [decide_eq_true h2, Bool.true_and] at hR
      have hRh := Lib.hid hR
      clear hR
      go_enter Try.func60, Try.ntmps60
      go_wp2_with fail
      refine (cC.out _).mono ?_
      rintro e w2 ⟨rfl, hb2⟩
      have hB2 := Lib.hid (hB.out.trans (hb2.mono (by simp)))
      clear hb2
      go_wp2_with fail
      go_ret
      exact ⟨ret_bool hRh.out, hB2.out⟩
    · rw [decide_eq_false h2, Bool.false_and] at hR
      have hRh := Lib.hid hR
      clear hR
      go_enter Try.func60, Try.ntmps60
      go_wp2_with fail
      go_ret
      exact ⟨ret_bool hRh.out, hB.out⟩
  · have g3 : (c == (3 : Int)) = false := by simpa using h3
    cases hb : ps[k + 1]? with
    | none =>
      have hle : n ≤ k + 1 := by have := List.getElem?_eq_none_iff.1 hb; have := h.1; omega
      have hR := Lib.hid (fits_no (a := a) hcc h3)
      have ge : ((k : Int) + 1 == (n : Int)) = true := by simp; omega
      clear h hat hs0 hob ha h3 hb
      go_enter Try.func60, Try.ntmps60
      go_wp2_with fail
      go_ret
      exact ⟨ret_bool hR.out, hB.out⟩
    | some b =>
      have hbb := hob b hb
      obtain rfl | rfl | rfl | rfl | rfl : c = 0 ∨ c = 1 ∨ c = 2 ∨ c = 3 ∨ c = 4 := by omega
      · exact l6Ok_0 _ n cap k ps a b w h hn ha hoa hb hbb
      · exact l6Ok_1 _ n cap k ps a b w h hn ha hoa hb hbb
      · by_cases s0 : 0 ≤ a.sets
        · by_cases s1 : b.sets = a.sets
          · exact l6Ok_2t _ n cap k ps a b w h hn ha hoa s0 s1 hb hbb
          · exact l6Ok_2f _ n cap k ps a b w h hn ha hoa s0 (by simpa using s1) hb hbb
        · exact l6Ok_2n _ n cap k ps a b w h hn ha hoa s0 hb hbb
      · exact absurd rfl h3
      · cases q0 : (a.k == 0)
        · exact l6Ok_4d _ n cap k ps a b w h hn ha hoa q0 hb hbb
        · by_cases q1 : a.b < 0
          · cases q2 : ((b.reads / 2 ^ a.a.toNat).tmod 2 == 1)
            · exact l6Ok_4f _ n cap k ps a b w h hn ha hoa q0 q1 q2 hb hbb
            · cases q3 : (b.k == 3)
              · cases q4 : (b.k == 5)
                · exact l6Ok_40 _ n cap k ps a b w h hn ha hoa q0 q1 q2 q3 q4 hb hbb
                · exact l6Ok_45 _ n cap k ps a b w h hn ha hoa q0 q1 q2 q3 q4 hb hbb
              · exact l6Ok_43 _ n cap k ps a b w h hn ha hoa q0 q1 q2 q3 hb hbb
          · exact l6Ok_4e _ n cap k ps a b w h hn ha hoa q0 q1 hb hbb
end Go.Proofs.Ytkggejmamhakaaa
namespace Go.Proofs.Ytkggejmamhakaaa
set_option maxRecDepth 100000
set_option linter.unusedVariables false
open Go.RowKit
set_option maxHeartbeats 1000000 in
theorem specChangeOk_any (A : Option Addr) (n cap : Nat) (ps : List St) (c z : Int) (w : World) (h : Lst w w.heap.size A n ps) (hn : n ≤ cap) (hc : cap ≤ maxLen) (hbig : n ≤ 1048576) :
    Calls Try.prog 25 #[.slice A n cap, .int .i64 c, .int .i64 z] w fun e w' => e = .returned (.bool (cgOk ps c z)) ∧ Below w.heap.size w w' := by
  have hL := Lib.hid h.1
  have hH := Lib.hid h
  have cP := Lib.hid (specPlainOk_any A n cap ps w h hn hc hbig)
  have hn9 : n ≤ 9223372036854775807 := by unfold maxLen at hc; omega
  have cI1 := Lib.hid (fun wx => l1In_any c 0 4 wx)
  have cI2 := Lib.hid (fun wx => l1In_any z 0 ((n : Int) - 1) wx)
  have hcm := Lib.hid hc
  clear h hc
  cases hp : plainOk ps
  · have hR := Lib.hid (cg_no1 (c := c) (z := z) hp)
    go_enter Try.func25, Try.ntmps25
    go_wp2_with fail
    refine cP.out.mono ?_
    rw [hp]
    rintro e w1 ⟨rfl, hb⟩
    go_wp2_with fail
    go_ret
    exact ⟨ret_bool hR.out, hb⟩
  · cases hi : inB c 0 4
    · have hR := Lib.hid (cg_no2 (ps := ps) (z := z) hi)
      go_enter Try.func25, Try.ntmps25
      go_wp2_with fail
      refine cP.out.mono ?_
      rw [hp]
      rintro e w1 ⟨rfl, hb⟩
      go_wp2_with fail
      refine (cI1.out _).mono ?_
      rw [hi]
      rintro e w2 ⟨rfl, hbe⟩
      obtain rfl := hbe
      go_wp2_with fail
      go_ret
      exact ⟨ret_bool hR.out, hb⟩
    · cases hj : inB z 0 ((n : Int) - 1)
      · have hR := Lib.hid (cg_no3 (ps := ps) (c := c) (z := z) (by rw [hL.out]; exact hj))
        go_enter Try.func25, Try.ntmps25
        go_wp2_with fail
        refine cP.out.mono ?_
        rw [hp]
        rintro e w1 ⟨rfl, hb⟩
        go_wp2_with fail
        refine (cI1.out _).mono ?_
        rw [hi]
        rintro e w2 ⟨rfl, hbe⟩
        obtain rfl := hbe
        go_wp2_with fail
        refine (cI2.out _).mono ?_
        rw [hj]
        rintro e w2 ⟨rfl, hbe⟩
        obtain rfl := hbe
        go_wp2_with fail
        go_ret
        exact ⟨ret_bool hR.out, hb⟩
      · obtain ⟨hz0, hz1⟩ := inB_iff.1 hj
        obtain ⟨k, rfl⟩ : ∃ k : Nat, z = k := ⟨z.toNat, by omega⟩
        have hk : k < n := by omega
        obtain ⟨a, ha⟩ : ∃ a, ps[k]? = some a := ⟨_, List.getElem?_eq_getElem (by have := hL.out; omega)⟩
        have hok := (plain_iff.1 hp).2
        have hR := Lib.hid (show cgOk ps c k = fits c a ps[k + 1]? by
          rw [cg_yes hp hi (by rw [hL.out]; exact hj)]
          unfold fitAt
          rw [Int.toNat_natCast, ha])
        have cO := Lib.hid (fun wx (hx : Lst wx wx.heap.size A n ps) => l6Ok_any A n cap k ps c a wx hx hbig (inB_iff.1 hi) ha (hok a (List.mem_of_getElem? ha)) (fun b hb => hok b (List.mem_of_getElem? hb)))
        generalize ps[k + 1]? = ob at cO hR
        clear ha hok
        go_enter Try.func25, Try.ntmps25
        go_wp2_with fail
        refine cP.out.mono ?_
        rw [hp]
        rintro e w1 ⟨rfl, hb⟩
        have hH1 := Lib.hid ((hH.out.below hb).more hb.size)
        go_wp2_with fail
        refine (cI1.out _).mono ?_
        rw [hi]
        rintro e w2 ⟨rfl, hbe⟩
        obtain rfl := hbe
        go_wp2_with fail
        refine (cI2.out _).mono ?_
        rw [hj]
        rintro e w2 ⟨rfl, hbe⟩
        obtain rfl := hbe
        clear hi hj hp
        go_wp2_with fail
        have hB1 := Lib.hid hb
        clear hb
        refine (cO.out _ hH1.out).mono ?_
        rintro e w4 ⟨rfl, hb4⟩
        have hB4 := Lib.hid (hB1.out.trans (hb4.mono hB1.out.size))
        clear hb4
        go_wp2_with fail
        go_ret
        exact ⟨ret_bool hR.out, hB4.out⟩
set_option maxHeartbeats 1000000 in
theorem specFactorBy_any (A : Option Addr) (n cap : Nat) (ps : List St) (c z : Int) (w : World) (h : Lst w w.heap.size A n ps) (hn : n ≤ cap) (hc : cap ≤ maxLen) (hbig : n ≤ 1048576) :
    Calls Try.prog 34 #[.slice A n cap, .int .i64 c, .int .i64 z] w fun e w' => e = .returned (.tuple #[.int .i64 (cgBy ps c z), .bool (cgOk ps c z)]) ∧ Below w.heap.size w w' := by
  have hL := Lib.hid h.1
  have hH := Lib.hid h
  have cO := Lib.hid (specChangeOk_any A n cap ps c z w h hn hc hbig)
  have hn9 : n ≤ 9223372036854775807 := by unfold maxLen at hc; omega
  clear h hc
  cases hp : cgOk ps c z
  · have hR := Lib.hid (show cgBy ps c z = 0 by unfold cgBy; rw [if_neg (by rw [hp]; decide)])
    go_enter Try.func34, Try.ntmps34
    go_wp2_with fail
    refine cO.out.mono ?_
    rw [hp]
    rintro e w1 ⟨rfl, hb⟩
    go_wp2_with fail
    go_ret2
    exact ⟨by rw [hR.out]; rfl, hb⟩
  · obtain ⟨hpl, hcc, hz0, hf⟩ := cg_parts hp
    obtain ⟨k, rfl⟩ : ∃ k : Nat, z = k := ⟨z.toNat, by omega⟩
    obtain ⟨a, ha, _⟩ := fitAt_some hf
    rw [Int.toNat_natCast] at ha
    have hk : k < n := by have := (List.getElem?_eq_some_iff.1 ha).1; have := hL.out; omega
    have hR := Lib.hid (show cgBy ps c k = facBy c a by
      unfold cgBy
      rw [if_pos hp, Int.toNat_natCast, List.getD_eq_getElem?_getD, ha]; rfl)
    have hoa := (plain_iff.1 hpl).2 a (List.mem_of_getElem? ha)
    have hws := ok_wsm hoa.1 hoa.2
    have cC := Lib.hid (fun wx => l6Common_any a.u a.v a.x wx (by omega) (by omega) (by omega))
    rw [← com_three hoa.1 hoa.2] at cC
    have cD := Lib.hid (fun wx => l2Draws_any a wx)
    have hA := Lib.hid ha
    have hk0 : (0 : Int) ≤ (k : Int) := by omega
    have hk1 : (k : Int) < (n : Int) := by omega
    clear hpl hcc hz0 hf ha hoa
    go_enter Try.func34, Try.ntmps34
    go_wp2_with fail
    refine cO.out.mono ?_
    rw [hp]
    rintro e w1 ⟨rfl, hb⟩
    obtain ⟨g, off, s0, rfl, hg, hs0, hat⟩ := (hH.out.below hb).at_ hk
    obtain rfl : a = s0 := by rw [hA.out] at hs0; injection hs0
    obtain ⟨c0, c1, c2, c3, c4, c5, c6⟩ := hat.open_
    have hB1 := Lib.hid hb
    clear hb hs0 hat
    by_cases h3 : c = 3
    · have hRf := Lib.hid (show facBy c a = com a from if_pos h3)
      subst h3
      go_wp2_with fail
      refine (cC.out _).mono ?_
      rintro e w4 ⟨rfl, hb4⟩
      have hB4 := Lib.hid (hB1.out.trans (hb4.mono hB1.out.size))
      clear hb4
      go_wp2_with fail
      go_ret2
      exact ⟨by rw [hR.out, hRf.out]; rfl, hB4.out⟩
    · have g3 : (c == (3 : Int)) = false := by simpa using h3
      by_cases h2 : c = 2
      · have hRf := Lib.hid (show facBy c a = if a.draws = true then a.u + a.v + a.x else 1 by unfold facBy; rw [if_neg h3]; simp [h2])
        subst h2
        go_wp2_with fail
        refine (cD.out _).mono ?_
        cases hd : a.draws
        · rw [hd] at hRf
          rintro e w4 ⟨rfl, hb4⟩
          have hB4 := Lib.hid (hB1.out.trans (hb4.mono hB1.out.size))
          clear hb4
          go_wp2_with fail
          go_ret2
          exact ⟨by rw [hR.out, hRf.out]; rfl, hB4.out⟩
        · rw [hd] at hRf
          rintro e w4 ⟨rfl, hb4⟩
          have hB4 := Lib.hid (hB1.out.trans (hb4.mono hB1.out.size))
          have e4 := (hb4.cell (p := ⟨g, off + k * 7 + 4, none⟩) (by show g < _; have := hB1.out.size; omega)).trans c4
          have e5 := (hb4.cell (p := ⟨g, off + k * 7 + 5, none⟩) (by show g < _; have := hB1.out.size; omega)).trans c5
          have e6 := (hb4.cell (p := ⟨g, off + k * 7 + 6, none⟩) (by show g < _; have := hB1.out.size; omega)).trans c6
          have v1 : IntKind.i64.wrap (a.u + a.v) = a.u + a.v := IntWalk.i64_in _ (by omega)
          have v2 : IntKind.i64.wrap (a.u + a.v + a.x) = a.u + a.v + a.x := IntWalk.i64_in _ (by omega)
          clear hb4
          go_wp2_with fail
          go_quiet (fail)
          go_wp2_with fail
          go_ret2
          exact ⟨by rw [hR.out, hRf.out]; rfl, below_drewN hB4.out _⟩
      · have hRf := Lib.hid (show facBy c a = 1 by unfold facBy; rw [if_neg h3, if_neg (fun e => h2 e.1)])
        have g2 : (c == (2 : Int)) = false := by simpa using h2
        clear h3 h2
        go_wp2_with fail
        go_ret2
        exact ⟨by rw [hR.out, hRf.out]; rfl, hB1.out⟩
def rowsAtM (ps : List St) (c k : Nat) : List (List Int) := ((List.range k).filter fun (i : Nat) => cgOk ps c i).map fun (i : Nat) => [(c : Int), (i : Int)]
def rowsToM (ps : List St) : Nat → List (List Int)
  | 0 => []
  | c + 1 => rowsToM ps c ++ rowsAtM ps c ps.length
theorem rowsAtM_zero (ps : List St) (c : Nat) : rowsAtM ps c 0 = [] := by simp [rowsAtM]
theorem rowsAtM_yes {ps : List St} {c k : Nat} (h : cgOk ps c k = true) : rowsAtM ps c (k + 1) = rowsAtM ps c k ++ [[(c : Int), (k : Int)]] := by
  unfold rowsAtM
  rw [List.range_succ, List.filter_append, List.map_append]
  simp [h]
theorem rowsAtM_no {ps : List St} {c k : Nat} (h : cgOk ps c k = false) : rowsAtM ps c (k + 1) = rowsAtM ps c k := by
  unfold rowsAtM
  rw [List.range_succ, List.filter_append, List.map_append]
  simp [h]
theorem rowsM_eq {ps : List St} (hp : plainOk ps = true) {c : Nat} (hc : c ≤ 4) : rowsAtM ps c ps.length = rowsAt ps c ps.length := by
  unfold rowsAtM rowsAt
  congr 1
  refine List.filter_congr fun i hi => ?_
  have hi' := List.mem_range.1 hi
  rw [cg_yes hp (inB_iff.2 (by omega)) (inB_iff.2 (by omega)), Int.toNat_natCast]
theorem rowsM_none {ps : List St} (hp : plainOk ps = false) (c : Nat) : rowsAtM ps c ps.length = [] := by
  unfold rowsAtM
  rw [List.map_eq_nil_iff, List.filter_eq_nil_iff]
  intro i _
  rw [cg_no1 hp]
  decide
theorem rowsToM_eq (ps : List St) : rowsToM ps 5 = chRows ps := by
  unfold chRows
  cases hp : plainOk ps
  · rw [if_neg (by decide)]
    simp [rowsToM, rowsM_none hp]
  · rw [if_pos rfl]
    simp [rowsToM, rowsTo, rowsM_eq hp (show (0 : Nat) ≤ 4 by decide), rowsM_eq hp (show (1 : Nat) ≤ 4 by decide), rowsM_eq hp (show (2 : Nat) ≤ 4 by decide), rowsM_eq hp (show (3 : Nat) ≤ 4 by decide), rowsM_eq hp (show (4 : Nat) ≤ 4 by decide)]
theorem rowsAtM_len (ps : List St) (c k : Nat) : (rowsAtM ps c k).length ≤ k := by
  unfold rowsAtM
  rw [List.length_map]
  exact Nat.le_trans (List.length_filter_le _ _) (by simp)
theorem rowsToM_len (ps : List St) : ∀ c, (rowsToM ps c).length ≤ c * ps.length
  | 0 => by simp [rowsToM]
  | c + 1 => by
    have h1 := rowsToM_len ps c
    have h2 := rowsAtM_len ps c ps.length
    rw [rowsToM, List.length_append, Nat.add_mul]
    omega
def RwsM (w : World) (rs : List (List Int)) (e : Ending) (w' : World) : Prop := ∃ v vs, e = .returned v ∧ RowsV w' w.heap.size v rs vs ∧ Below w.heap.size w w'
set_option maxHeartbeats 2000000 in
theorem specChangesOf_any (A : Option Addr) (n cap : Nat) (ps : List St) (w : World) (h : Lst w w.heap.size A n ps) (hn : n ≤ cap) (hcm : cap ≤ maxLen) (hbig : n ≤ 1048576) :
    Calls Try.prog 17 #[.slice A n cap] w (RwsM w (chRows ps)) := by
  have hL := Lib.hid h.1
  have hH := Lib.hid h
  have hcm' := Lib.hid hcm
  have hR := Lib.hid (rowsToM_eq ps)
  obtain ⟨i0, hi0, hz0, hz1', hz2'⟩ := info_parts info_row
  have hE := Lib.hid (show RowsV (w.alloc (.cells #[] 31)) w.heap.size (.slice (some ⟨w.heap.size, 0, none⟩) 0 0) [] [] from ⟨⟨rfl, .inr ⟨w.heap.size, 0, #[], rfl, Nat.le_refl _, Has.new w _ _, Nat.le_refl _, Nat.zero_le _, rfl, rfl⟩⟩, fun i x hx => by simp at hx⟩)
  have hB1 := Lib.hid (show Below w.heap.size w (w.alloc (.cells #[] 31)) from (Below.refl _ _).alloc (Nat.le_refl _) _)
  clear h hcm
  go_enter Try.func17, Try.ntmps17
  go_wp2_with fail
  go_loopg [3, 4] 5 (fun gn l o wr => ∃ (c : Nat) (vs : List Value), c ≤ 5 ∧ gn = 5 - c ∧ o = .int .i64 (c : Int) ∧ RowsV wr w.heap.size l (rowsToM ps c) vs ∧ Apart vs ∧ Below w.heap.size w wr)
  case atStart => exact ⟨0, [], by decide, rfl, rfl, hE.out, Apart.nil, hB1.out⟩
  case round =>
    obtain ⟨c, vs, hc5, hgn, rfl, hrv, hap, hB⟩ := hrel
    have hgk : gk = 5 - c := hgn
    obtain ⟨Al, cl, hv, hlc, hlm⟩ := hrv.form
    subst hv
    have hRv := Lib.hid hrv
    have hAp := Lib.hid hap
    have hBr := Lib.hid hB
    clear hgn hrv hap hB
    by_cases hlt : c < 5
    · go_wp2_with fail
      have hdec : decide ((c : Int) ≤ 4) = true := decide_eq_true (by omega)
      try rw [hdec]
      clear hdec
      obtain ⟨wq, rfl⟩ : ∃ x, x = wr := ⟨_, rfl⟩
      obtain ⟨gq, hgq⟩ : ∃ x, x = gk := ⟨_, rfl⟩
      go_loopg [3, 5] n (fun gn l o wz => ∃ (k : Nat) (us : List Value), k ≤ n ∧ gn = n - k ∧ o = .int .i64 (k : Int) ∧ RowsV wz w.heap.size l (rowsToM ps c ++ rowsAtM ps c k) us ∧ Apart us ∧ Below w.heap.size w wz)
      case atStart => exact ⟨0, vs, Nat.zero_le _, rfl, rfl, by rw [rowsAtM_zero, List.append_nil]; exact hRv.out, hAp.out, hBr.out⟩
      case round =>
        obtain ⟨k, us, hkn, hgn2, rfl, hrv, hap, hB⟩ := hrel
        obtain ⟨rs, hrs0⟩ : ∃ rs, rowsToM ps c ++ rowsAtM ps c k = rs := ⟨_, rfl⟩
        have hlen : rs.length ≤ 6 * 1048576 := by
          have h1 := rowsToM_len ps c
          have h2 := rowsAtM_len ps c k
          have h3 : c * ps.length ≤ 5 * 1048576 := Nat.mul_le_mul (by omega) (by have := hL.out; omega)
          rw [← hrs0, List.length_append]; omega
        rw [hrs0] at hrv
        obtain ⟨Al2, cl2, hv2, hlc2, hlm2⟩ := hrv.form
        subst hv2
        have hRu := Lib.hid hrv
        have hAu := Lib.hid hap
        have hBu := Lib.hid hB
        clear hrv hap hB
        by_cases hlk : k < n
        · have hk0 : (0 : Int) ≤ (k : Int) := by omega
          have hk1 : (k : Int) < (n : Int) := by omega
          have hrs0h := Lib.hid hrs0
          have cK := Lib.hid (specChangeOk_any A n cap ps c k wr ((hH.out.below hBu.out).more hBu.out.size) hn hcm'.out hbig)
          go_wp2_with fail
          refine cK.out.mono ?_
          cases hff : cgOk ps c k
          · have hrs := Lib.hid (show rowsToM ps c ++ rowsAtM ps c (k + 1) = rs by rw [rowsAtM_no hff, hrs0])
            rintro e w4 ⟨rfl, hb4⟩
            have hRz := Lib.hid (hRu.out.but (KeptBut.of_below hb4 (fun _ => False)) (fun _ _ h => h) (fun _ _ _ _ _ h => h))
            have hBz := Lib.hid (hBu.out.trans (hb4.mono hBu.out.size))
            clear hb4 hff hrs0
            go_wp2_with fail
            go_roundg (n - (k + 1))
            case measure => omega
            case rel => exact ⟨k + 1, us, by omega, rfl, by go_num, by rw [hrs.out]; exact hRz.out, hAu.out, hBz.out⟩
          · have hrs := Lib.hid (show rowsToM ps c ++ rowsAtM ps c (k + 1) = rs ++ [[(c : Int), (k : Int)]] by rw [rowsAtM_yes hff, ← List.append_assoc, hrs0])
            rintro e w4 ⟨rfl, hb4⟩
            have hRz := hRu.out.but (KeptBut.of_below hb4 (fun _ => False)) (fun _ _ h => h) (fun _ _ _ _ _ h => h)
            have hBz := hBu.out.trans (hb4.mono hBu.out.size)
            have hz4 := hBz.size
            have hap4 : ∀ y ∈ us, ∀ q, y.ownBlock = some q → q < w4.heap.size := fun y hy q hq => by
              obtain ⟨i, hi, hie⟩ := List.getElem_of_mem hy
              obtain ⟨ds, _, ho⟩ := hRz.2 i y (by rw [List.getElem?_eq_getElem hi, hie])
              exact (World.ownsRow.lt ho q hq).2
            have hI5 : IOwn (w4.alloc (.cells #[.int .i64 (c : Int), .int .i64 (k : Int)] 3)) w.heap.size (.slice (some ⟨w4.heap.size, 0, none⟩) 2 2) [(c : Int), (k : Int)] := ints_new (Has.new w4 _ _) rfl rfl hz4 (by unfold maxLen; decide)
            have hK5 := KeptBut.alloc (KeptBut.refl w4 (fun _ => False)) (.cells #[.int .i64 (c : Int), .int .i64 (k : Int)] 3)
            have hR5 := hRz.but hK5 (fun _ _ h => h) (fun _ _ _ _ _ h => h)
            have hB5 := hBz.alloc hz4 (.cells #[.int .i64 (c : Int), .int .i64 (k : Int)] 3)
            have hnw := Lib.hid (new_one (w4.alloc (.cells #[.int .i64 (c : Int), .int .i64 (k : Int)] 3)) (.slice (some ⟨w4.heap.size, 0, none⟩) 2 2) 31)
            have hK6 := KeptBut.alloc (KeptBut.refl (w4.alloc (.cells #[.int .i64 (c : Int), .int .i64 (k : Int)] 3)) (fun _ => False)) (.cells #[.slice (some ⟨w4.heap.size, 0, none⟩) 2 2] 31)
            have hR6 := Lib.hid (hR5.but hK6 (fun _ _ h => h) (fun _ _ _ _ _ h => h))
            have hI6 := Lib.hid (IOwn.but (ds := [(c : Int), (k : Int)]) hI5 hK6 (fun _ _ h => h))
            have hB6 := Lib.hid (hB5.alloc (by simp; omega) (.cells #[.slice (some ⟨w4.heap.size, 0, none⟩) 2 2] 31))
            have hA6 := Lib.hid (hAu.out.snoc (x := .slice (some ⟨w4.heap.size, 0, none⟩) 2 2) (fun y hy q hq e => by
              have h1 := hap4 y hy q hq
              have h2 : w4.heap.size = q := by simpa [Value.ownBlock] using e
              omega))
            clear hb4 hff hrs0 hRz hBz hap4 hI5 hK5 hR5 hB5 hK6
            go_wp2_with (at_builtin; refine wpList_append_own _ rfl (.tmp 21) (.tmp 25) 29 rfl w.heap.size 31 i0 _ 1 24 Try.underlying29 hi0 hz0 hz1' hz2' rfl (by decide) (.slice Al2 rs.length cl2) rs.length us ?hs (by exact hR6.out.1) ⟨w4.heap.size + 1, 0, none⟩ 1 1 [.slice (some ⟨w4.heap.size, 0, none⟩) 2 2] ?hx rfl (by have := hnw.out; simpa using this) (by simp [Value.oneCell']) (by unfold maxLen; omega) (by omega) (by simp; omega) ?_)
            case hs => first | rfl | simp [Act.eval]
            case hx => first | rfl | simp [Act.eval]
            intro v7 w7 hown7 hgrow7 _
            have hR7 := RowsV.append_ hR6.out hI6.out hown7 hgrow7
            have hB7 := hB6.out.grown hgrow7 (by simp; omega) (fun q hq => (World.ownsRow.lt hR6.out.1 q hq).1)
            obtain ⟨Al7, cl7, hv7, _, _⟩ := hR7.form
            subst hv7
            have hR7h := Lib.hid hR7
            have hB7h := Lib.hid hB7
            clear hown7 hgrow7 hR7 hB7
            go_wp2_with fail
            go_roundg (n - (k + 1))
            case measure => omega
            case rel => exact ⟨k + 1, _, by omega, rfl, by go_num, by rw [hrs.out]; exact hR7h.out, hA6.out, hB7h.out⟩
        · obtain rfl : k = n := by omega
          have hrt := Lib.hid (show rowsToM ps (c + 1) = rs by rw [rowsToM, hL.out]; exact hrs0)
          clear hrs0
          go_wp2_with fail
          go_roundg (5 - (c + 1))
          case measure => omega
          case rel => exact ⟨c + 1, us, by omega, rfl, by go_num, by rw [hrt.out]; exact hRu.out, hAu.out, hBu.out⟩
    · obtain rfl : c = 5 := by omega
      go_wp2_with fail
      go_ret
      exact ⟨_, vs, rfl, by rw [← hR.out]; exact hRv.out, hBr.out⟩
end Go.Proofs.Ytkggejmamhakaaa
