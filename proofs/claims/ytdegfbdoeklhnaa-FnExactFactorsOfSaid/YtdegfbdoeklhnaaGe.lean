/- Single programs: the model's SingleOk. -/
import Derived.Test.YtdegfbdoeklhnaaGd
namespace Go.Proofs.Ytdegfbdoeklhnaa
set_option maxRecDepth 100000
set_option linter.unusedVariables false
open Go.RowKit

theorem kind_two {s : St} (h : s.ok = true) (h6 : s.k < 6) : (s.draws || s.weighs) = !decide (s.k < 2) := by
  have h8 := ok_rng (k := s.k) (a := s.a) (b := s.b) (c := s.c) (u := s.u) (v := s.v) (x := s.x) h
  unfold St.draws St.weighs
  by_cases h2 : s.k < 2
  · have e : ¬ s.k = 2 ∧ ¬ s.k = 3 ∧ ¬ s.k = 4 ∧ ¬ s.k = 5 := by omega
    simp [h2, e.1, e.2.1, e.2.2.1, e.2.2.2]
  · have e : s.k = 2 ∨ s.k = 3 ∨ s.k = 4 ∨ s.k = 5 := by omega
    rcases e with e | e | e | e <;> simp [e]
set_option maxHeartbeats 2000000 in
theorem specSingleOk_any (A : Option Addr) (n c : Nat) (ps : List St) (w : World) (h : Lst w w.heap.size A n ps) (hn : n ≤ c) (hc : c ≤ maxLen) (hbig : n ≤ 1048576) :
    Calls Try.prog 40 #[.slice A n c] w fun e w' => e = .returned (.bool (single ps)) ∧ Below w.heap.size w w' := by
  have hC := Lib.hid (fun wx (hx : Lst wx wx.heap.size A n ps) => specPlainOk_any A n c ps wx hx hn hc hbig)
  have hl := h.1
  have hH := Lib.hid h
  have hcc : n ≤ 9223372036854775807 := by unfold maxLen at hc; omega
  clear h hc
  cases hp : plainOk ps
  · have hR := Lib.hid (show single ps = false by unfold single; rw [hp]; rfl)
    rw [hp] at hC
    clear hp
    go_enter Try.func40, Try.ntmps40
    go_wp2_with fail
    refine (hC.out _ hH.out).mono ?_
    rintro e w1 ⟨rfl, hb⟩
    go_wp2_with fail
    go_ret
    exact ⟨ret_bool hR.out, hb⟩
  · have hOK := Lib.hid (plain_oks hp)
    rw [hp] at hC
    by_cases hn4 : n ≤ 4
    · have hn4' : ¬ (n : Int) > 4 := by omega
      have hS := Lib.hid (show single ps = singF ps 0 by unfold single; rw [hp, decide_eq_true (by omega)]; rfl)
      clear hp
      go_enter Try.func40, Try.ntmps40
      go_wp2_with fail
      refine (hC.out _ hH.out).mono ?_
      rintro e w1 ⟨rfl, hb⟩
      have hbh := Lib.hid hb
      clear hb
      go_wp2_with fail
      go_loopg [3, 4] n (fun gn o v wr => ∃ (k : Nat) (L : Int), k ≤ n ∧ gn = n - k ∧ v = .int .i64 k ∧ o = .int .i64 L ∧ (0 ≤ L ∧ L ≤ 15) ∧ singF ps 0 = singF (ps.drop k) L ∧ Below w.heap.size w wr)
      case atStart => exact ⟨0, 0, Nat.zero_le _, rfl, rfl, rfl, by decide, rfl, hbh.out⟩
      case round =>
        obtain ⟨k, L, hk, hgn, rfl, rfl, hL, hSF, hB⟩ := hrel
        have hgk : gk = n - k := hgn
        have hBh := Lib.hid hB
        clear hgn
        by_cases hlt : k < n
        · obtain ⟨g, off, s, rfl, hg, hs, hat⟩ := (hH.out.below hB).at_ hlt
          obtain ⟨c0, c1, c2, c3, c4, c5, c6⟩ := hat.open_
          have hk0 : (0 : Int) ≤ (k : Int) := by omega
          have hk1 : (k : Int) < (n : Int) := by omega
          have hz := hB.size
          obtain ⟨hok, hk6⟩ := hOK.out s (List.mem_of_getElem? hs)
          have hst := sing_step (L := L) hs
          rw [hst] at hSF
          have hSFh := Lib.hid hSF
          have hkt := kind_two hok hk6
          have cZ : Hid (∀ wx : World, Calls Try.prog 78 #[.agg #[.int .i64 s.k, .int .i64 s.a, .int .i64 s.b, .int .i64 s.c, .int .i64 s.u, .int .i64 s.v, .int .i64 s.x]] wx fun e w' => e = .returned (.int .i64 s.sets) ∧ Below wx.heap.size wx w') := Lib.hid (fun wx => specStmtSets_any s.k s.a s.b s.c s.u s.v s.x wx)
          have cN := Lib.hid (fun wx => l6Touch_any s wx hok)
          rw [touch_named s hok] at cN
          have hbx := Lib.hid (Has.new wr 85 #[.int .i64 s.k, .int .i64 s.a, .int .i64 s.b, .int .i64 s.c, .int .i64 s.u, .int .i64 s.v, .int .i64 s.x])
          have hB0 := Lib.hid (hB.alloc hz (.cells #[.int .i64 s.k, .int .i64 s.a, .int .i64 s.b, .int .i64 s.c, .int .i64 s.u, .int .i64 s.v, .int .i64 s.x] 85))
          have hor := bits_or hL (named_bd s)
          have hNb := Lib.hid (bor_bd (a := L) (b := named s) hL.2 (named_bd s).2)
          have hone := Lib.hid (show oneOk s L = (!decide (s.k < 2) && !(decide (0 ≤ s.sets) && tb L s.sets.toNat)) from by unfold oneOk; rw [hkt])
          have hzb := sets_bd s hok
          clear hSF hst hs hat hB hok hkt
          generalize oneOk s L = o1 at hSFh hone
          generalize s.sets = Z at *
          by_cases h2 : s.k < 2
          · have hR := Lib.hid (show single ps = false by rw [hS.out, hSFh.out, hone.out, decide_eq_true h2]; rfl)
            go_wp2_with fail
            go_ret
            exact ⟨ret_bool hR.out, hB0.out⟩
          · by_cases hz0 : 0 ≤ Z
            · obtain ⟨z, rfl, hz3⟩ := nat4 hz0 hzb.2
              have hsh := shr1_tbF hL hz3
              have hz64 : (z : Int) ≤ 64 := by omega
              rw [Int.toNat_natCast] at hone
              cases ht : tb L z
              · have ho1 : o1 = true := by rw [hone.out, ht, decide_eq_false h2, Bool.and_false]; rfl
                rw [ho1, Bool.true_and] at hSFh
                rw [ht] at hsh
                clear ht
                go_wp2_with fail
                clear c0 c1 c2 c3 c4 c5 c6
                generalize wr.alloc (.cells #[.int .i64 s.k, .int .i64 s.a, .int .i64 s.b, .int .i64 s.c, .int .i64 s.u, .int .i64 s.v, .int .i64 s.x] 85) = W0 at hbx hB0 ⊢
                refine (cZ.out _).mono ?_
                rintro e w2 ⟨rfl, hb2⟩
                have hB2 := Lib.hid (hB0.out.trans (hb2.mono hB0.out.size))
                have hx2 := Lib.hid (hbx.out.kept hb2)
                have cx := hx2.out.cell
                clear hb2
                go_wp2_with fail
                refine (cN.out _).mono ?_
                rintro e w5 ⟨rfl, hb5⟩
                have hB5 := Lib.hid (hB2.out.trans (hb5.mono hB2.out.size))
                clear hb5 cx
                go_wp2_with fail
                go_roundg (n - (k + 1))
                case measure => omega
                case rel => exact ⟨k + 1, _, by omega, rfl, by go_num, rfl, hNb.out, hSFh.out, hB5.out⟩
              · have hR := Lib.hid (show single ps = false by rw [hS.out, hSFh.out, hone.out, ht, decide_eq_true hz0, Bool.and_self, Bool.not_true, Bool.and_false]; rfl)
                rw [ht] at hsh
                clear ht
                go_wp2_with fail
                clear c0 c1 c2 c3 c4 c5 c6
                generalize wr.alloc (.cells #[.int .i64 s.k, .int .i64 s.a, .int .i64 s.b, .int .i64 s.c, .int .i64 s.u, .int .i64 s.v, .int .i64 s.x] 85) = W0 at hbx hB0 ⊢
                refine (cZ.out _).mono ?_
                rintro e w2 ⟨rfl, hb2⟩
                have hB2 := Lib.hid (hB0.out.trans (hb2.mono hB0.out.size))
                have hx2 := Lib.hid (hbx.out.kept hb2)
                have cx := hx2.out.cell
                clear hb2
                go_wp2_with fail
                go_ret
                exact ⟨ret_bool hR.out, hB2.out⟩
            · have ho1 : o1 = true := by rw [hone.out, decide_eq_false h2, decide_eq_false hz0]; rfl
              rw [ho1, Bool.true_and] at hSFh
              go_wp2_with fail
              clear c0 c1 c2 c3 c4 c5 c6
              generalize wr.alloc (.cells #[.int .i64 s.k, .int .i64 s.a, .int .i64 s.b, .int .i64 s.c, .int .i64 s.u, .int .i64 s.v, .int .i64 s.x] 85) = W0 at hbx hB0 ⊢
              refine (cZ.out _).mono ?_
              rintro e w2 ⟨rfl, hb2⟩
              have hB2 := Lib.hid (hB0.out.trans (hb2.mono hB0.out.size))
              have hx2 := Lib.hid (hbx.out.kept hb2)
              have cx := hx2.out.cell
              clear hb2
              go_wp2_with fail
              refine (cN.out _).mono ?_
              rintro e w5 ⟨rfl, hb5⟩
              have hB5 := Lib.hid (hB2.out.trans (hb5.mono hB2.out.size))
              clear hb5 cx
              go_wp2_with fail
              go_roundg (n - (k + 1))
              case measure => omega
              case rel => exact ⟨k + 1, _, by omega, rfl, by go_num, rfl, hNb.out, hSFh.out, hB5.out⟩
        · obtain rfl : k = n := by omega
          have hR := Lib.hid (show single ps = true by rw [hS.out, hSF, List.drop_eq_nil_of_le (by omega)]; rfl)
          go_wp2_with fail
          go_ret
          exact ⟨ret_bool hR.out, hBh.out⟩
    · have hn4' : (n : Int) > 4 := by omega
      have hR := Lib.hid (show single ps = false by unfold single; rw [decide_eq_false (by omega), Bool.false_and, Bool.and_false])
      clear hp
      go_enter Try.func40, Try.ntmps40
      go_wp2_with fail
      refine (hC.out _ hH.out).mono ?_
      rintro e w1 ⟨rfl, hb⟩
      go_wp2_with fail
      go_ret
      exact ⟨ret_bool hR.out, hb⟩
end Go.Proofs.Ytdegfbdoeklhnaa
