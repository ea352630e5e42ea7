/- Whether a program is plain (the program's own), and how many draws it has. -/
import Derived.Test.YtjokiminlplbcaaUnT
namespace Go.Proofs.Ytjokiminlplbcaa
set_option maxRecDepth 100000
open Go.RowKit

theorem low_of_ok {s : St} (h : s.ok = true) (h6 : s.k ≠ 6) (h7 : s.k ≠ 7) : s.low = true := by
  have h8 := ok_rng (k := s.k) (a := s.a) (b := s.b) (c := s.c) (u := s.u) (v := s.v) (x := s.x) h
  exact decide_eq_true (by omega)

theorem draws_yes {s : St} (h : s.draws = true) : (s.k == 2) = true ∨ ((s.k == 2) = false ∧ (s.k == 3) = true) := by
  unfold St.draws at h
  cases h2 : (s.k == 2) <;> simp_all
theorem draws_no {s : St} (h : s.draws = false) : (s.k == 2) = false ∧ (s.k == 3) = false := by
  unfold St.draws at h
  cases h2 : (s.k == 2) <;> simp_all
theorem isDraw_any (s : St) (w : World) :
    Calls Try.prog 66 #[.agg #[.int .i64 s.k, .int .i64 s.a, .int .i64 s.b, .int .i64 s.c, .int .i64 s.u, .int .i64 s.v, .int .i64 s.x]] w fun e w' => e = .returned (.bool s.draws) ∧ Below w.heap.size w w' := by
  cases hd : s.draws
  · obtain ⟨h2, h3⟩ := draws_no hd
    clear hd
    go_enter Try.func66, Try.ntmps66
    go_wp2
    go_ret
    exact ⟨rfl, (Below.refl _ _).alloc (Nat.le_refl _) _⟩
  · rcases draws_yes hd with h2 | ⟨h2, h3⟩
    all_goals
      clear hd
      go_enter Try.func66, Try.ntmps66
      go_wp2
      go_ret
      exact ⟨rfl, (Below.refl _ _).alloc (Nat.le_refl _) _⟩
theorem count_succ {os : List St} {k : Nat} {s : St} (h : os[k]? = some s) : ((os.take (k + 1)).filter St.draws).length = ((os.take k).filter St.draws).length + if s.draws then 1 else 0 := by
  have hl : k < os.length := (List.getElem?_eq_some_iff.1 h).1
  have e : os[k] = s := (List.getElem?_eq_some_iff.1 h).2
  rw [List.take_succ_eq_append_getElem hl, List.filter_append, List.length_append, e]
  cases hd : s.draws <;> simp [hd]
theorem count_le (os : List St) (k : Nat) : ((os.take k).filter St.draws).length ≤ os.length :=
  Nat.le_trans (List.length_filter_le _ _) (by rw [List.length_take]; omega)

theorem CountDraws_any (A : Option Addr) (n c : Nat) (ps : List St) (w : World) (h : Lst w w.heap.size A n ps) (hn : n ≤ c) (hc : c ≤ maxLen) :
    Calls Try.prog 23 #[.slice A n c] w fun e w' => e = .returned (.int .i64 (countDraws ps)) ∧ Below w.heap.size w w' := by
  have hC := Lib.hid (fun wx (hx : Lst wx wx.heap.size A n ps) => Unrolled_any A n c ps wx hx hn hc)
  have hH := Lib.hid h
  clear h hc
  cases hu : unrolled ps with
  | none =>
    have hU := Lib.hid hu
    have hR := Lib.hid (show countDraws ps = -1 by unfold countDraws; rw [hu])
    clear hu
    go_enter Try.func23, Try.ntmps23
    go_wp2_with fail
    refine (hC.out _ hH.out).mono ?_
    rw [hU.out]
    rintro e w1 ⟨v, rfl, hown, hb⟩
    clear hown
    go_wp2
    go_ret
    exact ⟨ret_int hR.out, hb⟩
  | some os =>
    have hU := Lib.hid hu
    have hR := Lib.hid (show countDraws ps = ((os.filter St.draws).length : Nat) by unfold countDraws; rw [hu])
    have hlen := (unrolled_ok hu).2.1
    clear hu
    go_enter Try.func23, Try.ntmps23
    go_wp2_with fail
    refine (hC.out _ hH.out).mono ?_
    rw [hU.out]
    rintro e w1 ⟨v, rfl, hown, hb⟩
    have hown : Own w1 w.heap.size v os := hown
    obtain ⟨A2, c2, rfl, hlc, hcm⟩ := hown.form
    have hO := Lib.hid hown.lst
    have hz := hb.size
    clear hown
    generalize hm : os.length = m at hO hlen hlc
    have hM := Lib.hid hm
    clear hm
    go_wp2
    go_loopw [5, 17] (fun q i wr => ∃ k : Nat, k ≤ m ∧ i = .int .i64 k ∧ q = .int .i64 (((os.take k).filter St.draws).length : Nat) ∧ Below w1.heap.size w1 wr) (fun _ i _ => m - (intOf i).toNat)
    case atStart => exact ⟨0, Nat.zero_le _, rfl, rfl, Below.refl _ _⟩
    case round =>
      obtain ⟨k, hk, rfl, rfl, hb2⟩ := hrel
      by_cases hlt : k < m
      · obtain ⟨g, off, s, rfl, hg, hs, hat⟩ := (hO.out.below hb2).at_ hlt
        obtain ⟨c0, c1, c3, c4, c5, c6, c7⟩ := hat.open_
        have hS := Lib.hid hs
        have hz2 := hb2.size
        have hcl : ((os.take k).filter St.draws).length ≤ 12 := Nat.le_trans (count_le os k) (by rw [hM.out]; exact hlen)
        have hcs := count_succ hs
        clear hs hat
        cases hd : s.draws
        · rw [hd] at hcs
          have hCS := Lib.hid hcs
          have hD := Lib.hid hd
          clear hd hcs
          go_wp2_with (go_at_call 66; refine (isDraw_any s _).mono ?_; rw [hD.out]; rintro e w3 ⟨rfl, hb3⟩)
          go_roundw
          case rel => exact ⟨k + 1, by omega, by go_num, by rw [hCS.out]; rfl, (hb2.alloc hz2 _).trans (hb3.mono (by simp; omega))⟩
          case measure => (simp [intOf]; try omega)
        · rw [hd] at hcs
          have hCS := Lib.hid hcs
          have hD := Lib.hid hd
          clear hd hcs
          go_wp2_with (go_at_call 66; refine (isDraw_any s _).mono ?_; rw [hD.out]; rintro e w3 ⟨rfl, hb3⟩)
          go_roundw
          case rel => exact ⟨k + 1, by omega, by go_num, by rw [hCS.out]; rfl, (hb2.alloc hz2 _).trans (hb3.mono (by simp; omega))⟩
          case measure => (simp [intOf]; try omega)
      · obtain rfl : m = k := by omega
        have hE := Lib.hid (show countDraws ps = (((os.take m).filter St.draws).length : Nat) by rw [hR.out, List.take_of_length_le (by rw [hM.out]; omega)])
        go_wp2
        go_ret
        exact ⟨ret_int hE.out, hb.trans (hb2.mono hz)⟩

theorem specCountDraws_any (A : Option Addr) (n c : Nat) (ps : List St) (w : World) (h : Lst w w.heap.size A n ps) (hn : n ≤ c) (hc : c ≤ maxLen) (hbig : n ≤ 1048576) :
    Calls Try.prog 61 #[.slice A n c] w fun e w' => e = .returned (.int .i64 (countDraws ps)) ∧ Below w.heap.size w w' := by
  have hC := Lib.hid (fun wx (hx : Lst wx wx.heap.size A n ps) => l1Unrolled_any A n c ps wx hx hn hc hbig)
  have hH := Lib.hid h
  clear h hc
  cases hu : unrolled ps with
  | none =>
    have hU := Lib.hid hu
    have hR := Lib.hid (show countDraws ps = -1 by unfold countDraws; rw [hu])
    clear hu
    go_enter Try.func61, Try.ntmps61
    go_wp2_with fail
    refine (hC.out _ hH.out).mono ?_
    rw [hU.out]
    rintro e w1 ⟨v, rfl, _, hb⟩
    go_wp2
    go_ret
    exact ⟨ret_int hR.out, hb⟩
  | some os =>
    have hU := Lib.hid hu
    have hR := Lib.hid (show countDraws ps = ((os.filter St.draws).length : Nat) by unfold countDraws; rw [hu])
    have hlen := (unrolled_ok hu).2.1
    clear hu
    go_enter Try.func61, Try.ntmps61
    go_wp2_with fail
    refine (hC.out _ hH.out).mono ?_
    rw [hU.out]
    rintro e w1 ⟨v, rfl, hown', hb⟩
    have hown : Own w1 w.heap.size v os := hown' os rfl
    obtain ⟨A2, c2, rfl, hlc, hcm⟩ := hown.form
    have hO := Lib.hid hown.lst
    clear hown hown'
    generalize hm : os.length = m at hO hlen hlc
    have hM := Lib.hid hm
    clear hm
    go_wp2
    go_loop [5, 6] (fun q i => ∃ k : Nat, k ≤ m ∧ i = .int .i64 k ∧ q = .int .i64 (((os.take k).filter St.draws).length : Nat)) (fun _ i => m - (intOf i).toNat)
    case atStart => exact ⟨0, Nat.zero_le _, rfl, rfl⟩
    case round =>
      obtain ⟨k, hk, rfl, rfl⟩ := hrel
      by_cases hlt : k < m
      · obtain ⟨g, off, s, rfl, hg, hs, hat⟩ := hO.out.at_ hlt
        have c0 := hat.open_.1
        have hS := Lib.hid hs
        have hcl : ((os.take k).filter St.draws).length ≤ 12 := Nat.le_trans (count_le os k) (by rw [hM.out]; exact hlen)
        have hcs := count_succ hs
        clear hs hat
        cases hd : s.draws
        · obtain ⟨h2, h3⟩ := draws_no hd
          rw [hd] at hcs
          have hCS := Lib.hid hcs
          clear hd hcs
          go_wp2
          go_round
          case rel => exact ⟨k + 1, by omega, by go_num, by rw [hCS.out]; rfl⟩
          case measure => (simp [intOf]; try omega)
        · rw [hd] at hcs
          have hCS := Lib.hid hcs
          rcases draws_yes hd with h2 | ⟨h2, h3⟩
          all_goals
            clear hd hcs
            go_wp2
            go_round
            case rel => exact ⟨k + 1, by omega, by go_num, by rw [hCS.out]; rfl⟩
            case measure => (simp [intOf]; try omega)
      · obtain rfl : m = k := by omega
        have hE := Lib.hid (show countDraws ps = (((os.take m).filter St.draws).length : Nat) by rw [hR.out, List.take_of_length_le (by rw [hM.out]; omega)])
        go_wp2
        go_ret
        exact ⟨ret_int hE.out, hb⟩

end Go.Proofs.Ytjokiminlplbcaa
