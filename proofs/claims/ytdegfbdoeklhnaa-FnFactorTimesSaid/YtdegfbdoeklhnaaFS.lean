/- Factors: the program's countedUp, blankOver. -/
import Derived.Test.YtdegfbdoeklhnaaFO
import Derived.Test.YtdegfbdoeklhnaaFC
namespace Go.Proofs.Ytdegfbdoeklhnaa
set_option maxRecDepth 100000
set_option linter.unusedVariables false
open Go.RowKit

theorem cu_step (L x : Int) {k : Nat} (hk : k < 4) : cu L (4 - k) x = if tb L k = false then cu L (4 - (k + 1)) x else if 0 < (valueAt x (k : Int) + 1) % 3 then withValue x (k : Int) ((valueAt x (k : Int) + 1) % 3) else cu L (4 - (k + 1)) (withValue x (k : Int) ((valueAt x (k : Int) + 1) % 3)) := by
  obtain rfl | rfl | rfl | rfl : k = 0 ∨ k = 1 ∨ k = 2 ∨ k = 3 := by omega
  all_goals rfl
theorem countedUp_any (st L : Int) (w : World) (hs : 0 ≤ st ∧ st ≤ 80) (hL : 0 ≤ L ∧ L ≤ 15) :
    Calls Try.prog 105 #[.int .i64 st, .int .i64 L] w fun e w' => e = .returned (.int .i64 (cu L 4 st)) ∧ w = w' := by
  have hLh := Lib.hid hL
  go_enter Try.func105, Try.ntmps105
  go_wp2_with fail
  go_loopg [0, 5] 4 (fun gn o v wr => ∃ (k : Nat) (x : Int), k ≤ 4 ∧ gn = 4 - k ∧ v = .int .i64 k ∧ o = .int .i64 x ∧ (0 ≤ x ∧ x ≤ 80) ∧ cu L (4 - k) x = cu L 4 st ∧ wr = w)
  case atStart => exact ⟨0, st, Nat.zero_le _, rfl, rfl, rfl, hs, rfl, rfl⟩
  case round =>
    obtain ⟨k, x, hk, hgn, rfl, rfl, hx, hcu, rfl⟩ := hrel
    have hgk : gk = 4 - k := hgn
    clear hgn
    by_cases hlt : k < 4
    · rw [cu_step L x hlt] at hcu
      have cB := Lib.hid (fun wx => bitOf_any (k : Int) wx)
      have hba := bits_and hLh.out (show k ≤ 3 by omega)
      have hk0 : (0 : Int) ≤ (k : Int) := by omega
      have hk4 : (k : Int) < 4 := by omega
      cases ht : tb L k
      · rw [ht, if_pos rfl] at hcu
        rw [ht] at hba
        have hC := Lib.hid hcu
        clear hcu ht
        go_wp2_with fail
        refine (cB.out _).mono ?_
        rintro e w' ⟨rfl, rfl⟩
        go_wp2_with fail
        go_roundg (4 - (k + 1))
        case measure => omega
        case rel => exact ⟨k + 1, x, by omega, rfl, by go_num, rfl, hx, hC.out, rfl⟩
      · rw [ht, if_neg (by decide)] at hcu
        rw [ht] at hba
        have hvb := value_bd hx (show 0 ≤ (k : Int) ∧ (k : Int) ≤ 3 by omega)
        have cA := Lib.hid (fun wx => ValueAt_any x (k : Int) wx)
        have cW := Lib.hid (fun wx => WithValue_any x (k : Int) ((valueAt x (k : Int) + 1) % 3) wx)
        have hwb := with_bd hx (show 0 ≤ (k : Int) ∧ (k : Int) ≤ 3 by omega) (show 0 ≤ (valueAt x (k : Int) + 1) % 3 ∧ (valueAt x (k : Int) + 1) % 3 ≤ 2 by omega)
        have hmm : (valueAt x (k : Int) + 1).tmod 3 = (valueAt x (k : Int) + 1) % 3 := Int.tmod_eq_emod_of_nonneg (by omega)
        generalize valueAt x (k : Int) = y at *
        have hz : 0 ≤ (y + 1) % 3 ∧ (y + 1) % 3 ≤ 2 := by omega
        generalize (y + 1) % 3 = z at *
        by_cases hz0 : 0 < z
        · rw [if_pos hz0] at hcu
          have hC := Lib.hid hcu
          clear hcu ht
          go_wp2_with fail
          refine (cB.out _).mono ?_
          rintro e w' ⟨rfl, rfl⟩
          go_wp2_with fail
          refine (cA.out _).mono ?_
          rintro e w' ⟨rfl, rfl⟩
          go_wp2_with fail
          refine (cW.out _).mono ?_
          rintro e w' ⟨rfl, rfl⟩
          go_wp2_with fail
          go_ret
          exact ⟨ret_int hC.out.symm, rfl⟩
        · rw [if_neg hz0] at hcu
          have hC := Lib.hid hcu
          clear hcu ht
          go_wp2_with fail
          refine (cB.out _).mono ?_
          rintro e w' ⟨rfl, rfl⟩
          go_wp2_with fail
          refine (cA.out _).mono ?_
          rintro e w' ⟨rfl, rfl⟩
          go_wp2_with fail
          refine (cW.out _).mono ?_
          rintro e w' ⟨rfl, rfl⟩
          go_wp2_with fail
          go_roundg (4 - (k + 1))
          case measure => omega
          case rel => exact ⟨k + 1, _, by omega, rfl, by go_num, rfl, hwb, hC.out, rfl⟩
    · obtain rfl : k = 4 := by omega
      have hR : x = cu L 4 st := hcu
      have hR' := Lib.hid hR
      clear hcu hR
      go_wp2_with fail
      go_ret
      exact ⟨ret_int hR'.out.symm, rfl⟩
/-- A factor over a set of variables, with noughts alone. -/
def blankF (L : Int) : Fac := ⟨over L, zs (3 ^ (over L).length)⟩
theorem made_zs (n : Nat) : (madeCells #[Value.int .i64 0] n).toList = ints (zs n) := by
  apply List.ext_getElem?
  intro i
  rw [Array.getElem?_toList]
  by_cases h : i < n
  · rw [ints_get (d := 0) (by unfold zs; rw [List.getElem?_replicate, if_pos h])]
    unfold madeCells
    simp [h, Nat.mod_one]
  · rw [List.getElem?_eq_none (by rw [ints_length, zs_len]; omega), Array.getElem?_eq_none (by rw [size_madeCells]; omega)]
set_option maxHeartbeats 1000000 in
theorem blankOver_any (L : Int) (w : World) (hL : 0 ≤ L ∧ L ≤ 15) :
    Calls Try.prog 104 #[.int .i64 L] w (Fcd w (blankF L)) := by
  have hLh := Lib.hid hL
  have hB0 : Below w.heap.size w (w.alloc (.cells #[.slice none 0 0, .slice none 0 0] 27)) := (Below.refl _ _).alloc (Nat.le_refl _) _
  have hR0 := Lib.hid (Has.new w 27 #[.slice none 0 0, .slice none 0 0])
  have hB0h := Lib.hid hB0
  obtain ⟨i0, hi0, hz0, hz1', hz2'⟩ := info_parts info_int
  go_enter Try.func104, Try.ntmps104
  go_wp2_with fail
  have hN := Lib.hid (IOwn.nil (w.alloc (.cells #[.slice none 0 0, .slice none 0 0] 27)) w.heap.size)
  generalize w.alloc (.cells #[.slice none 0 0, .slice none 0 0] 27) = W0 at hR0 hB0h hN ⊢
  clear hB0
  go_loopg [3, 4, 5] 4 (fun gn o m v wr => ∃ k : Nat, k ≤ 4 ∧ gn = 4 - k ∧ v = .int .i64 k ∧ m = .int .i64 (p3 (overT L k).length) ∧ IOwn wr w.heap.size o (overT L k) ∧ Has wr w.heap.size 27 #[.slice none 0 0, .slice none 0 0] ∧ Below w.heap.size w wr)
  case atStart => exact ⟨0, Nat.zero_le _, rfl, rfl, rfl, hN.out, hR0.out, hB0h.out⟩
  case round =>
    obtain ⟨k, hk, hgn, rfl, rfl, hO, hR, hb⟩ := hrel
    have hgk : gk = 4 - k := hgn
    obtain ⟨Ao, co, hvo, _, _⟩ := hO.form
    subst hvo
    have hz := hb.size
    have hOh := Lib.hid hO
    have hRh := Lib.hid hR
    have hbh := Lib.hid hb
    have hol := overT_len L k
    clear hgn hO hR hb
    by_cases hlt : k < 4
    · have cB := Lib.hid (fun wx => bitOf_any (k : Int) wx)
      have hba := bits_and hLh.out (show k ≤ 3 by omega)
      have hst := Lib.hid (overT_succ L k)
      have hk0 : (0 : Int) ≤ (k : Int) := by omega
      have hk4 : (k : Int) < 4 := by omega
      have hp3 := p3_bd4 (k := (overT L k).length) (by omega)
      cases ht : tb L k
      · rw [ht] at hba
        have hE := Lib.hid (show overT L (k + 1) = overT L k by rw [hst.out, ht, if_neg (by decide), List.append_nil])
        have hbn : (bits .and .i64 L (bitN (k : Int)) != 0) = false := by rw [bne, hba]; rfl
        clear ht
        go_wp2_with fail
        refine (cB.out _).mono ?_
        rintro e w' ⟨rfl, rfl⟩
        go_wp2_with fail
        go_roundg (4 - (k + 1))
        case measure => omega
        case rel => exact ⟨k + 1, by omega, rfl, by go_num, by rw [hE.out], by rw [hE.out]; exact hOh.out, hRh.out, hbh.out⟩
      · rw [ht] at hba
        have hE := Lib.hid (show overT L (k + 1) = overT L k ++ [(k : Int)] by rw [hst.out, ht, if_pos rfl])
        have hO3 := Lib.hid (hOh.out.alloc (.cells #[.int .i64 k] 3))
        have hnw := Lib.hid (new_one wr (.int .i64 k) 3)
        have hB3 := Lib.hid (hbh.out.alloc hz (.cells #[.int .i64 k] 3))
        have hbn : (bits .and .i64 L (bitN (k : Int)) != 0) = true := by rw [bne, hba]; rfl
        clear ht
        go_wp2_with fail
        refine (cB.out _).mono ?_
        rintro e w' ⟨rfl, rfl⟩
        go_wp2_with (at_builtin; refine wpList_append_lies _ rfl (.tmp 15) (.tmp 17) 22 rfl w.heap.size 3 i0 _ 1 8 Try.underlying22 hi0 hz0 hz1' hz2' rfl (by decide) (.slice Ao (overT L k).length co) (overT L k).length (ints (overT L k)) rfl (by exact hO3.out) ⟨wr.heap.size, 0, none⟩ 1 1 [.int .i64 k] rfl rfl (by exact hnw.out) (by simp [Value.oneCell']) (by omega) (by unfold maxLen; omega) (by omega) (by exact hB3.out.size) (wr.heap.size + 1) (by simp) ?_; intro gr cr2 w4 hown4 hgrow4 hat4 hlt4)
        have hF := Lib.hid (IOwn.append_ (news := [(k : Int)]) hO3.out hown4 hgrow4 hB3.out (by exact hB3.out.size))
        have hR4 := Lib.hid (Has.but hRh.out (grown_but (by exact hgrow4)) (fun e => by obtain ⟨c1, g1⟩ := owns_has hOh.out e; exact has_ne hRh.out g1 (by decide) rfl))
        clear hown4 hgrow4 hat4
        go_wp2_with fail
        go_roundg (4 - (k + 1))
        case measure => omega
        case rel => exact ⟨k + 1, by omega, rfl, by go_num, by rw [hE.out, List.length_append]; rfl, by rw [hE.out]; exact hF.out.1, hR4.out, hF.out.2⟩
    · obtain rfl : k = 4 := by omega
      have hll : (overT L 4).length = (over L).length := rfl
      have hlb := over_len hLh.out
      have hp := p3_pow (overT L 4).length
      have hpb := pow_four hlb
      rw [hll] at hp
      rw [hll, hp]
      obtain ⟨M, hM⟩ : ∃ M : Nat, 3 ^ (over L).length = M := ⟨_, rfl⟩
      rw [hM]
      have hmk : ∀ wx : World, (Instr.makeSlice 22 (.int .i64 (M : Int)) (.int .i64 (M : Int))).run Try.prog wx = .ok (.slice (some ⟨wx.heap.size, 0, none⟩) M M) (wx.alloc (.cells (madeCells (Value.int .i64 0).cells (M * 1)) 3)) := by
        intro wx
        have hr := run_make (P := Try.prog) wx 22 3 i0 _ Try.underlying22 hi0 hz0 .i64 .i64 (M : Int) (M : Int) (by omega) (by omega) (by rw [hz2']; omega) (by omega)
        rw [hz1'] at hr
        simp only [Int.toNat_natCast] at hr
        exact hr
      have hn := Lib.hid (IOwn.of_has (base := w.heap.size) (ds := zs M) (n := M) (Has.new wr 3 (madeCells #[.int .i64 0] M)) (made_zs M) (by rw [zs_len]) hz (by unfold maxLen; omega))
      have hO5 := Lib.hid (hOh.out.alloc (.cells (madeCells #[.int .i64 0] M) 3))
      have hR5 := Lib.hid (hRh.out.alloc (.cells (madeCells #[.int .i64 0] M) 3))
      have hB5 := Lib.hid (hbh.out.alloc hz (.cells (madeCells #[.int .i64 0] M) 3))
      have hap := Lib.hid (fun b (hb : (Value.slice Ao (overT L 4).length co).ownBlock = some b) => show b < wr.heap.size from by obtain ⟨c1, g1⟩ := owns_has hOh.out hb; exact g1.lt)
      have cr := hR5.out.cell
      have fr := hR5.out.frozen
      go_wp2_with fail
      generalize wr.alloc (.cells (madeCells #[.int .i64 0] M) 3) = W5 at hn hO5 hR5 hB5 ⊢
      have hKp := Lib.hid ((((KeptBut.refl W5 (fun i => i = w.heap.size)).put (p := ⟨w.heap.size, 0, none⟩) (fun _ => rfl) (.slice Ao (overT L 4).length co)).put (p := ⟨w.heap.size, 1, none⟩) (fun _ => rfl) (.slice (some ⟨wr.heap.size, 0, none⟩) M M)))
      have hr1 := (hR5.out.put 0 (.slice Ao (over L).length co)).cell 0
      have hr2 := ((hR5.out.put 0 (.slice Ao (over L).length co)).put 1 (.slice (some ⟨wr.heap.size, 0, none⟩) M M)).cell 1
      refine bodyPost_ret (v := .agg #[.slice Ao (over L).length co, .slice (some ⟨wr.heap.size, 0, none⟩) M M]) (by simp [results, Try.results104, go_sem, hr1, hr2]) rfl ⟨_, _, rfl, ⟨?_, ?_, ?_⟩, ?_⟩
      · exact hO5.out.but hKp.out (fun k hk e => iown_ne hO5.out hR5.out (by decide) k hk e)
      · unfold blankF
        rw [hM]
        exact hn.out.but hKp.out (fun k hk e => iown_ne hn.out hR5.out (by decide) k hk e)
      · intro b hb1 hb2
        have h1 := hap.out b hb1
        have h2 : wr.heap.size = b := by simpa [Value.ownBlock] using hb2
        omega
      · exact (hB5.out.setCell (p := ⟨w.heap.size, 0, none⟩) (Nat.le_refl _) _).setCell (p := ⟨w.heap.size, 1, none⟩) (Nat.le_refl _) _
end Go.Proofs.Ytdegfbdoeklhnaa
