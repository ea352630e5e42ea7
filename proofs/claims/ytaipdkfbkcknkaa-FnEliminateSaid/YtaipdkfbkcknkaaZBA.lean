/- Parts of the proof: KM. -/
import Derived.Test.YtaipdkfbkcknkaaZAZ
namespace Go.Proofs.Ytaipdkfbkcknkaa
set_option maxRecDepth 100000
set_option linter.unusedVariables false
set_option pp.deepTerms true
set_option pp.maxSteps 1000000
open Go.RowKit
set_option maxHeartbeats 400000 in
theorem specEliminate_any (A Ad : Option Addr) (n c nd cd : Nat) (Fs : List Fac) (os : List Int) (w : World) (h : FLst0 w w.heap.size A n Fs) (hn : n ≤ maxLen) (hsm : smallF Fs) (hd : Ils w w.heap.size Ad nd os) (hnd : nd ≤ cd) (hcd : cd ≤ maxLen) :
    Calls Try.prog 26 #[.slice A n c, .slice Ad nd cd] w (Fbd w (elimTo Fs os) (okElO Fs os)) := by
  have hB0 : Below w.heap.size w (w.alloc (.cells #[.slice none 0 0, .slice none 0 0] 36)) := (Below.refl _ _).alloc (Nat.le_refl _) _
  have hr := Lib.hid (Has.new w 36 #[.slice none 0 0, .slice none 0 0])
  have hI := Lib.hid ((h.below hB0).more hB0.size)
  have hD := Lib.hid ((hd.below hB0).more hB0.size)
  have hl := h.1.1
  have hld := hd.1
  have cK := Lib.hid (fun wx hx => l8List_any A n c Fs wx hx hn hsm)
  have cO := Lib.hid (fun wx hx => specOrderOk_any Ad nd cd os wx hx hnd hcd)
  have hndm : nd ≤ maxLen := Nat.le_trans hnd hcd
  have hB := Lib.hid hB0
  clear h hn hsm hd hB0
  cases hk : listOk Fs
  · have hT : elimTo Fs os = ⟨[], []⟩ := by unfold elimTo okElO; rw [hk]; rfl
    have hO : okElO Fs os = false := by unfold okElO; rw [hk]; rfl
    rw [hT, hO]
    rw [hk] at cK
    clear hk hT hO
    go_enter Try.func26, Try.ntmps26
    go_wp2_with fail
    generalize w.alloc (.cells #[.slice none 0 0, .slice none 0 0] 36) = w0 at hI hD hr hB ⊢
    refine (cK.out _ hI.out.1).mono ?_
    rintro e w1 ⟨rfl, hb⟩
    have hr1 := hr.out.kept hb
    have cr := hr1.cell
    have fr := hr1.frozen
    have hBn := Lib.hid (((hB.out.trans (hb.mono hB.out.size)).setCell (p := ⟨w.heap.size, 0, none⟩) (Nat.le_refl _) (.slice none 0 0)).setCell (p := ⟨w.heap.size, 1, none⟩) (Nat.le_refl _) (.slice none 0 0))
    clear hb
    go_wp2_with fail
    refine bodyPost_ret (v := .tuple #[.agg #[.slice none 0 0, .slice none 0 0], .bool false]) (by simp [results, Try.results26, go_sem, cr]) rfl ⟨_, _, rfl, FcV.none_ _ _, ?_⟩
    exact hBn.out
  · rw [hk] at cK
    cases ho : orderOk os
    · have hT : elimTo Fs os = ⟨[], []⟩ := by unfold elimTo okElO; rw [ho, hk]; rfl
      have hO : okElO Fs os = false := by unfold okElO; rw [ho, hk]; rfl
      rw [hT, hO]
      rw [ho] at cO
      clear hk ho hT hO
      go_enter Try.func26, Try.ntmps26
      go_wp2_with fail
      generalize w.alloc (.cells #[.slice none 0 0, .slice none 0 0] 36) = w0 at hI hD hr hB ⊢
      refine (cK.out _ hI.out.1).mono ?_
      rintro e w1 ⟨rfl, hb⟩
      have hD1 := Lib.hid ((hD.out.below hb).more hb.size)
      have hb1 := Lib.hid hb
      clear hb
      go_wp2_with fail
      refine (cO.out _ hD1.out).mono ?_
      rintro e w' ⟨rfl, m0, rfl⟩
      have hb2 := below_drewN hb1.out m0
      have hr1 := hr.out.kept hb2
      have cr := hr1.cell
      have fr := hr1.frozen
      have hBn := Lib.hid (((hB.out.trans (hb2.mono hB.out.size)).setCell (p := ⟨w.heap.size, 0, none⟩) (Nat.le_refl _) (.slice none 0 0)).setCell (p := ⟨w.heap.size, 1, none⟩) (Nat.le_refl _) (.slice none 0 0))
      clear hb2
      go_wp2_with fail
      refine bodyPost_ret (v := .tuple #[.agg #[.slice none 0 0, .slice none 0 0], .bool false]) (by simp [results, Try.results26, go_sem, cr]) rfl ⟨_, _, rfl, FcV.none_ _ _, ?_⟩
      exact hBn.out
    · obtain ⟨h8, hf, hfine⟩ := list_fine hk
      obtain ⟨hom, hon, hoi, hol⟩ := oOk_mem ho
      have hT : elimTo Fs os = facBy_ (lefO os) (prodAt (elimA Fs os)) := by unfold elimTo okElO; rw [ho, hk]; rfl
      have hO : okElO Fs os = true := by unfold okElO; rw [ho, hk]; rfl
      rw [hT, hO]
      rw [← elim_fin hfine hoi]
      rw [ho] at cO
      have hAll := Lib.hid (fun k (hk : k ≤ os.length) => elimA_all hfine hoi k hk)
      have hPw := Lib.hid (fun (k : Nat) (hk : k ≤ 4) => pow_bd h8 hf hk)
      have hoi' := Lib.hid hoi
      have hnd4 : nd ≤ 4 := by omega
      have hldh := Lib.hid hld
      have hlh := Lib.hid (show Fs.length ≤ 8 from h8)
      clear hk ho hT hO hf hom hon hoi hol hfine h8 hld hl
      go_enter Try.func26, Try.ntmps26
      go_wp2_with fail
      generalize w.alloc (.cells #[.slice none 0 0, .slice none 0 0] 36) = w0 at hI hD hr hB ⊢
      refine (cK.out _ hI.out.1).mono ?_
      rintro e w1 ⟨rfl, hb⟩
      have hb1 := Lib.hid hb
      have hD1 := Lib.hid ((hD.out.below hb).more hb.size)
      clear hb
      go_wp2_with fail
      refine (cO.out _ hD1.out).mono ?_
      rintro e w' ⟨rfl, m0, rfl⟩
      have hB2 := Lib.hid (below_drewN hb1.out m0)
      have hI2 := Lib.hid ((hI.out.below hB2.out).more hB2.out.size)
      generalize w1.drewN m0 = w2 at *
      go_wp2_with fail
      go_loopg [0, 6] nd (fun gq l x wr => ∃ (k : Nat) (A' : Option Addr) (n' c' : Nat), k ≤ nd ∧ gq = nd - k ∧ x = .int .i64 k ∧ l = .slice A' n' c' ∧ FLst0 wr wr.heap.size A' n' (elimA Fs (os.take k)) ∧ Below w0.heap.size w0 wr)
      case atStart => exact ⟨0, A, n, c, Nat.zero_le _, rfl, rfl, rfl, hI2.out, hB2.out⟩
      case round =>
        obtain ⟨k, A', n', c', hkn, hgn, rfl, rfl, hL, hBw⟩ := hrel
        have hgk : gk = nd - k := hgn
        have hLh := Lib.hid hL
        have hBh := Lib.hid hBw
        obtain ⟨a1, a2, a3, _⟩ := hAll.out k (by have := hldh.out; omega)
        have hpk := hPw.out k (by omega)
        have hn20 : n' ≤ 20 := by have := hlh.out; have := hLh.out.1.1; omega
        have hpK : pb (elimA Fs (os.take k)) ≤ 10000000000 := by omega
        clear hgn hL hpk a2 a3
        by_cases hlt : k < nd
        · obtain ⟨g, off, d, rfl, hg, hd, cd0⟩ := (hD.out.below hBw).at_ hlt
          have hdb := hoi'.out d (List.mem_of_getElem? hd)
          obtain ⟨V, rfl, hVt⟩ := nat_three hdb
          clear hVt
          have hk0 : (0 : Int) ≤ (k : Int) := by omega
          have hk1 : (k : Int) < (nd : Int) := by omega
          have hnx := Lib.hid (elimA_take (Fs := Fs) hd)
          have cL := Lib.hid (l9One_any A' n' c' (elimA Fs (os.take k)) V wr hLh.out.1 hLh.out.2 hn20 a1 hpK)
          rw [← hnx.out] at cL
          clear hd hdb a1 hnx hBw
          go_wp2_with fail
          refine cL.out.mono ?_
          rintro e w3 ⟨v3, vs3, rfl, hR3, _, hb3⟩
          obtain ⟨A3, c3, rfl, _, _⟩ := hR3.form
          have hL3 := Lib.hid (hR3.flst0 rfl)
          have hB3 := Lib.hid (hBh.out.trans (hb3.mono hBh.out.size))
          clear hR3 hb3
          go_wp2_with fail
          go_roundg (nd - (k + 1))
          case measure => omega
          case rel => exact ⟨k + 1, _, _, _, by omega, rfl, by go_num, rfl, hL3.out, hB3.out⟩
        · obtain rfl : nd = k := by omega
          have htk : os.take nd = os := List.take_of_length_le (by have := hldh.out; omega)
          rw [htk] at hLh a1 hpK
          have hFine := Lib.hid a1
          have hpKh := Lib.hid hpK
          clear htk a1 hpK
          generalize elimA Fs os = R at *
          have hB3 : Below wr.heap.size wr ((wr.alloc (.cells #[.int .i64 1] 3)).alloc (.cells #[.slice none 0 0, .slice (some ⟨wr.heap.size, 0, none⟩) 1 1] 36)) := ((Below.refl _ _).alloc (Nat.le_refl _) _).alloc (by simp) _
          have hP3 := Lib.hid (Has.newAt (w := wr.alloc (.cells #[.int .i64 1] 3)) (n := wr.heap.size + 1) (t := 36) (cs := #[.slice none 0 0, .slice (some ⟨wr.heap.size, 0, none⟩) 1 1]) (by simp))
          have hV3 := Lib.hid (show FcV ((wr.alloc (.cells #[.int .i64 1] 3)).alloc (.cells #[.slice none 0 0, .slice (some ⟨wr.heap.size, 0, none⟩) 1 1] 36)) w0.heap.size (.slice none 0 0) (.slice (some ⟨wr.heap.size, 0, none⟩) 1 1) (prodF (remF os 0)) from
            ⟨IOwn.nil _ _, IOwn.of_has (ds := [1]) ((Has.new wr 3 #[.int .i64 1]).alloc _) rfl rfl hBh.out.size (by decide), fun b e => by cases e⟩)
          have hL3 := Lib.hid (hLh.out.below hB3)
          have hB3h := Lib.hid (hBh.out.trans (hB3.mono hBh.out.size))
          have hPw3 := Lib.hid (show w0.heap.size ≤ wr.heap.size + 1 ∧ wr.heap.size ≤ wr.heap.size + 1 ∧ w.heap.size < w0.heap.size from ⟨by have := hBh.out.size; omega, by omega, hr.out.lt⟩)
          clear hB3 hBw
          go_wp2_with fail
          generalize (wr.alloc (.cells #[.int .i64 1] 3)).alloc (.cells #[.slice none 0 0, .slice (some ⟨wr.heap.size, 0, none⟩) 1 1] 36) = W at hP3 hV3 hL3 hB3h ⊢
          obtain ⟨P, hPe⟩ : ∃ P, wr.heap.size + 1 = P := ⟨_, rfl⟩
          rw [hPe] at hP3 hPw3 ⊢
          generalize wr.heap.size = z0 at hP3 hV3 hL3 hPw3 hPe ⊢
          clear hPe hBh hLh hI2 hB2 hD1 hb1
          go_loopg [8] 4 (fun gq x wr => ∃ (k : Nat) (v1 v2 : Value), k ≤ 4 ∧ gq = 4 - k ∧ x = .int .i64 k ∧ Has wr P 36 #[v1, v2] ∧ FcV wr w0.heap.size v1 v2 (prodF (remF os k)) ∧ FLst0 wr z0 A' n' R ∧ Below w0.heap.size w0 wr)
          case atStart => exact ⟨0, _, _, Nat.zero_le _, rfl, rfl, hP3.out, hV3.out, hL3.out, hB3h.out⟩
          case round =>
            obtain ⟨k, v1, v2, hk4, hgn, rfl, hPx, hV, hL, hBw⟩ := hrel
            have hgk : gk = 4 - k := hgn
            obtain ⟨B1, e1, rfl, _, _⟩ := hV.1.form
            obtain ⟨B2, e2, rfl, _, _⟩ := hV.2.1.form
            have hPh := Lib.hid hPx
            have hVh := Lib.hid hV
            have hLh := Lib.hid hL
            have hBh := Lib.hid hBw
            have hzw := hBw.size
            have hPok : facOk (pb (remF os k)) (prodF (remF os k)) = true := (prodF_all (remF_fine os hk4)).1
            rw [remF_pb os hk4] at hPok
            have hpc := hPx.cell
            have hpf := hPx.frozen
            clear hgn hV hL
            by_cases hlt : k < 4
            · have hk0 : (0 : Int) ≤ (k : Int) := by omega
              have hk1 : (k : Int) < (4 : Int) := by omega
              have cH := Lib.hid (l8Has_any Ad nd cd os (k : Int) wr ((hD.out.below hBw).more hBw.size) hndm)
              have hsu := remF_succ os k
              cases hh : decide ((k : Int) ∈ os)
              · rw [hh] at cH
                rw [if_neg (of_decide_eq_false hh)] at hsu
                have hNx := Lib.hid (show prodF (remF os (k + 1)) = fTimes (prodF (remF os k)) (onesF (k : Int)) from by rw [hsu, prodF_snoc])
                clear hsu hh
                have hal : Below wr.heap.size wr ((wr.alloc (.cells #[.int .i64 (k : Int)] 3)).alloc (.cells #[.int .i64 1, .int .i64 1, .int .i64 1] 3)) := ((Below.refl _ _).alloc (Nat.le_refl _) _).alloc (by simp) _
                have hVo : FcV ((wr.alloc (.cells #[.int .i64 (k : Int)] 3)).alloc (.cells #[.int .i64 1, .int .i64 1, .int .i64 1] 3)) w0.heap.size (.slice (some ⟨wr.heap.size, 0, none⟩) 1 1) (.slice (some ⟨wr.heap.size + 1, 0, none⟩) 3 3) (onesF (k : Int)) :=
                  ⟨IOwn.of_has (ds := [(k : Int)]) ((Has.new wr _ _).alloc _) rfl rfl hzw (by decide), IOwn.of_has (ds := [1, 1, 1]) (Has.newAt (w := wr.alloc (.cells #[.int .i64 (k : Int)] 3)) (n := wr.heap.size + 1) (by simp)) rfl rfl (by omega) (by decide), fun b f1 f2 => by
                    have q1 : wr.heap.size = b := by simpa [Value.ownBlock] using f1
                    have q2 : wr.heap.size + 1 = b := by simpa [Value.ownBlock] using f2
                    omega⟩
                have hPf := FcV.fac (hVh.out.below hal)
                have hOf := FcV.fac hVo
                have hQ : Has ((wr.alloc (.cells #[.int .i64 (k : Int)] 3)).alloc (.cells #[.int .i64 1, .int .i64 1, .int .i64 1] 3)) P 36 #[.slice B1 (prodF (remF os k)).vs.length e1, .slice B2 (prodF (remF os k)).ns.length e2] := hPh.out.kept hal
                have hBa := hBh.out.trans (hal.mono hzw)
                have hzP : z0 ≤ wr.heap.size := by have := hPh.out.lt; have := hPw3.out.2.1; omega
                have hba := hal.mono hzP
                generalize prodF (remF os k) = Pk at *
                have cT := Lib.hid (l8Times_M B1 B2 (some ⟨wr.heap.size, 0, none⟩) (some ⟨wr.heap.size + 1, 0, none⟩) Pk.vs.length e1 Pk.ns.length e2 1 1 3 3 Pk (onesF (k : Int)) 1 1 _ hPf hOf hPok (ones_ok ⟨k, hlt⟩) (by decide) (by decide) (by decide))
                go_wp2_with fail
                refine cH.out.mono ?_
                rintro e w' ⟨rfl, rfl⟩
                go_wp2_with fail
                refine cT.out.mono ?_
                rintro e w3 ⟨x1, x2, rfl, hX, hb3⟩
                obtain ⟨X1, xc1, rfl, _, _⟩ := hX.1.form
                obtain ⟨X2, xc2, rfl, _, _⟩ := hX.2.1.form
                have hQ3 := hQ.kept hb3
                have hgc := hQ3.cell
                have hgf := hQ3.frozen
                have g1 := Lib.hid ((hQ3.put 0 (.slice X1 (fTimes Pk (onesF (k : Int))).vs.length xc1)).put 1 (.slice X2 (fTimes Pk (onesF (k : Int))).ns.length xc2))
                have g3 := Lib.hid ((hX.le hBa.size).put2 hQ3 (.slice X1 (fTimes Pk (onesF (k : Int))).vs.length xc1) (.slice X2 (fTimes Pk (onesF (k : Int))).ns.length xc2))
                have g4 := Lib.hid (((hBa.trans (hb3.mono hBa.size)).setCell (p := ⟨P, 0, none⟩) hPw3.out.1 (.slice X1 (fTimes Pk (onesF (k : Int))).vs.length xc1)).setCell (p := ⟨P, 1, none⟩) hPw3.out.1 (.slice X2 (fTimes Pk (onesF (k : Int))).ns.length xc2))
                have g5 := Lib.hid (hLh.out.below (((hba.trans (hb3.mono (Nat.le_trans hzP hal.size))).setCell (p := ⟨P, 0, none⟩) hPw3.out.2.1 (.slice X1 (fTimes Pk (onesF (k : Int))).vs.length xc1)).setCell (p := ⟨P, 1, none⟩) hPw3.out.2.1 (.slice X2 (fTimes Pk (onesF (k : Int))).ns.length xc2)))
                clear hal hVo hPf hOf hQ hBa hba hX hb3 hQ3 hpc hpf hPx
                go_wp2_with fail
                go_roundg (4 - (k + 1))
                case measure => omega
                case rel => exact ⟨k + 1, (.slice X1 (fTimes Pk (onesF (k : Int))).vs.length xc1), (.slice X2 (fTimes Pk (onesF (k : Int))).ns.length xc2), by omega, rfl, by go_num, g1.out, by rw [hNx.out]; exact g3.out, g5.out, g4.out⟩
              · rw [hh] at cH
                rw [if_pos (of_decide_eq_true hh), List.append_nil] at hsu
                have hsh := Lib.hid hsu
                clear hsu hh
                go_wp2_with fail
                refine cH.out.mono ?_
                rintro e w' ⟨rfl, rfl⟩
                go_wp2_with fail
                go_roundg (4 - (k + 1))
                case measure => omega
                case rel => exact ⟨k + 1, _, _, by omega, rfl, by go_num, hPh.out, by rw [hsh.out]; exact hVh.out, hLh.out, hBh.out⟩
            · obtain rfl : k = 4 := by omega
              clear hpc hpf hPok hPx hBw hzw
              go_wp2_with fail
              go_loopg [9] n' (fun gq x wr => ∃ (k : Nat) (v1 v2 : Value), k ≤ n' ∧ gq = n' - k ∧ x = .int .i64 k ∧ Has wr P 36 #[v1, v2] ∧ FcV wr w0.heap.size v1 v2 (prodF (remF os 4 ++ R.take k)) ∧ FLst0 wr z0 A' n' R ∧ Below w0.heap.size w0 wr)
              case atStart => exact ⟨0, _, _, Nat.zero_le _, rfl, rfl, hPh.out, by rw [List.take_zero, List.append_nil]; exact hVh.out, hLh.out, hBh.out⟩
              case round =>
                obtain ⟨k, v1, v2, hkn, hgn, rfl, hPx, hV, hL, hBw⟩ := hrel
                have hgk : gk = n' - k := hgn
                obtain ⟨B1, e1, rfl, _, _⟩ := hV.1.form
                obtain ⟨B2, e2, rfl, _, _⟩ := hV.2.1.form
                have hPh := Lib.hid hPx
                have hVh := Lib.hid hV
                have hLh := Lib.hid hL
                have hBh := Lib.hid hBw
                have hzw := hBw.size
                have hzP : z0 ≤ wr.heap.size := by have := hPh.out.lt; have := hPw3.out.2.1; omega
                clear hgn hV
                by_cases hlt : k < n'
                · obtain ⟨g, off, F, D1, m1, d1, D2, m2, d2, rfl, hg, hFk, cl1, cl2, hFW⟩ := hL.1.at_ hlt
                  have hk0 : (0 : Int) ≤ (k : Int) := by omega
                  have hk1 : (k : Int) < (n' : Int) := by omega
                  have hn20 : n' ≤ 9223372036854775807 := by omega
                  have hFo := hFine.out F (List.mem_of_getElem? hFk)
                  have hgw : g < wr.heap.size := by omega
                  have hFw2 := Lib.hid (hFW.more hzP)
                  have hFt : R.take (k + 1) = R.take k ++ [F] := by
                    obtain ⟨hl9, he9⟩ := List.getElem?_eq_some_iff.1 hFk
                    rw [List.take_succ_eq_append_getElem hl9, he9]
                  have hGf : Fine (remF os 4 ++ R.take k) := fun G hG => (List.mem_append.1 hG).elim (remF_fine os (by decide) G) (fine_take hFine.out k G)
                  have hPok : facOk (pb (remF os 4 ++ R.take k)) (prodF (remF os 4 ++ R.take k)) = true := (prodF_all hGf).1
                  have hMN : pb (R.take k) * mB F ≤ 10000000000 := by
                    have e1 := pb_append (R.take k) [F]
                    rw [pb_one, ← hFt] at e1
                    rw [← e1]
                    exact Int.le_trans (pb_take R (k + 1)) hpKh.out
                  rw [pb_append, remF_pb os (by decide), Int.one_mul] at hPok
                  have hNx := Lib.hid (show prodF (remF os 4 ++ R.take (k + 1)) = fTimes (prodF (remF os 4 ++ R.take k)) F from by rw [hFt, ← List.append_assoc, prodF_snoc])
                  have hMp := pb_pos (R.take k)
                  have hNp := mB_pos F
                  generalize prodF (remF os 4 ++ R.take k) = Pk at *
                  generalize pb (R.take k) = M at *
                  have cT := Lib.hid (fun wx hx hy => l8Times_M B1 B2 D1 D2 Pk.vs.length e1 Pk.ns.length e2 m1 d1 m2 d2 Pk F M (mB F) wx hx hy hPok hFo (by omega) (by omega) (by omega))
                  clear hGf hPok hMN hMp hNp hFt hFk hFo hFW hL
                  go_wp2_with fail
                  refine wp_region_any (by kernel_rfl) ?_
                  change wpAny _ _ _ _ _ _ _ (World.drew _)
                  refine wpAny_last (n := 6) (I := fun listed aq wx => listed.size = 7 ∧ ∃ v56 v57 v58 v59 v60 v61 : Value, aq = { tmps := #[.slice (some ⟨g, off, none⟩) n' c', .slice Ad nd cd, undef, undef, .pointer (some ⟨w.heap.size, 0, none⟩), .bool false, .int .i64 ↑nd, .pointer (some ⟨P, 0, none⟩), .int .i64 ((4 : Nat) : Int), .int .i64 ↑k, .slice A n c, .bool true, .bool false, .bool false, .slice Ad nd cd, .bool true, .bool false, .bool false, undef, .int .i64 ↑nd, .slice Ad nd cd, .int .i64 ↑nd, .bool false, u23, u24, u25, u26, u27, u28, u29, u30, u31, u32, u33, .slice (some ⟨z0, 0, none⟩) 1 1, .agg #[.slice none 0 0, .slice (some ⟨z0, 0, none⟩) 1 1], .int .i64 ((4 : Nat) : Int), .bool false, u38, u39, u40, u41, u42, u43, u44, u45, u46, u47, u48, u49, .int .i64 ↑k, .slice (some ⟨g, off, none⟩) n' c', .int .i64 ↑n', .bool true, u54, u55, v56, v57, v58, v59, v60, v61, undef], defers := [] } ∧ (listed.getD 0 false = true → v56 = .agg #[.slice B1 Pk.vs.length e1, .slice B2 Pk.ns.length e2]) ∧ (listed.getD 1 false = true → v57 = .slice (some ⟨g, off, none⟩) n' c') ∧ (listed.getD 2 false = true → v58 = .int .i64 ↑k) ∧ (listed.getD 3 false = true → v59 = .pointer (some ⟨g, off + k * 2, none⟩)) ∧ (listed.getD 4 false = true → v60 = .agg #[.slice D1 m1 d1, .slice D2 m2 d2]) ∧ (listed.getD 5 false = true → (∃ (x1 x2 : Value), v61 = .agg #[x1, x2] ∧ FcV wx wr.heap.size x1 x2 (fTimes Pk F))) ∧ Below wr.heap.size wr wx) rfl (by kernel_rfl) (by kernel_rfl) ?hs ?hl _ _ _ ?st rfl (by decide) _ (by decide)
                  case st =>
                    refine ⟨rfl, u56, u57, u58, u59, u60, u61, rfl, ?_, ?_, ?_, ?_, ?_, ?_, (Below.refl _ _).drew⟩ <;> (intro e; exact absurd e (by decide))
                  case hs =>
                    rintro listed aq wx ⟨hz, v56, v57, v58, v59, v60, v61, rfl, hII⟩ i hin hi
                    obtain ⟨h0, o, ho, hd⟩ := mem_ready.1 hi
                    have K0 := Lib.hid hII.1
                    have K1 := Lib.hid hII.2.1
                    have K2 := Lib.hid hII.2.2.1
                    have K3 := Lib.hid hII.2.2.2.1
                    have K4 := Lib.hid hII.2.2.2.2.1
                    have K5 := Lib.hid hII.2.2.2.2.2.1
                    have hB : Below wr.heap.size wr wx := hII.2.2.2.2.2.2
                    have hne := Lib.hid (fun k (hk : i ≠ k) => @listed_ne listed i k hk)
                    have hPx := hPh.out.kept hB
                    have hPf : FacW wx wx.heap.size B1 Pk.vs.length B2 Pk.ns.length Pk := FcV.fac (hVh.out.below hB)
                    have hFf : FacW wx wx.heap.size D1 m1 D2 m2 F := (hFw2.out.keep_ hB).more hB.size
                    have h0f : listed.getD i false = false := by rw [Array.getD_eq_getD_getElem?, getD_false h0]; rfl
                    clear hII hi h0
                    rcases (by omega : i = 0 ∨ i = 1 ∨ i = 2 ∨ i = 3 ∨ i = 4 ∨ i = 5) with rfl | rfl | rfl | rfl | rfl | rfl
                    · cases ho
                      have hpc := hPx.cell
                      refine wpOp_step rfl (fun K hK => ?_)
                      go_simp
                      refine hK _ _ ⟨by simpa using hz, .agg #[.slice B1 Pk.vs.length e1, .slice B2 Pk.ns.length e2], v57, v58, v59, v60, v61, rfl, ?_⟩
                      exact ⟨fun _ => rfl, fun e => K1.out (hne.out 1 (by decide) e), fun e => K2.out (hne.out 2 (by decide) e), fun e => K3.out (hne.out 3 (by decide) e), fun e => K4.out (hne.out 4 (by decide) e), fun e => K5.out (hne.out 5 (by decide) e), hB⟩
                    · cases ho
                      refine wpOp_step rfl (fun K hK => ?_)
                      go_simp
                      refine hK _ _ ⟨by simpa using hz, v56, .slice (some ⟨g, off, none⟩) n' c', v58, v59, v60, v61, rfl, ?_⟩
                      exact ⟨fun e => K0.out (hne.out 0 (by decide) e), fun _ => rfl, fun e => K2.out (hne.out 2 (by decide) e), fun e => K3.out (hne.out 3 (by decide) e), fun e => K4.out (hne.out 4 (by decide) e), fun e => K5.out (hne.out 5 (by decide) e), hB⟩
                    · cases ho
                      refine wpOp_step rfl (fun K hK => ?_)
                      go_simp
                      refine hK _ _ ⟨by simpa using hz, v56, v57, .int .i64 ↑k, v59, v60, v61, rfl, ?_⟩
                      exact ⟨fun e => K0.out (hne.out 0 (by decide) e), fun e => K1.out (hne.out 1 (by decide) e), fun _ => rfl, fun e => K3.out (hne.out 3 (by decide) e), fun e => K4.out (hne.out 4 (by decide) e), fun e => K5.out (hne.out 5 (by decide) e), hB⟩
                    · cases ho
                      have d1 := hd ⟨1, .data⟩ (by simp) rfl
                      have d2 := hd ⟨2, .data⟩ (by simp) rfl
                      obtain rfl := K1.out d1
                      obtain rfl := K2.out d2
                      refine wpOp_step rfl (fun K hK => ?_)
                      go_simp
                      refine hK _ _ ⟨by simpa using hz, v56, .slice (some ⟨g, off, none⟩) n' c', .int .i64 ↑k, .pointer (some ⟨g, off + k * 2, none⟩), v60, v61, rfl, ?_⟩
                      exact ⟨fun e => K0.out (hne.out 0 (by decide) e), fun e => K1.out (hne.out 1 (by decide) e), fun e => K2.out (hne.out 2 (by decide) e), fun _ => rfl, fun e => K4.out (hne.out 4 (by decide) e), fun e => K5.out (hne.out 5 (by decide) e), hB⟩
                    · cases ho
                      have d3 := hd ⟨3, .data⟩ (by simp) rfl
                      obtain rfl := K3.out d3
                      have hca := (hB.cell (p := ⟨g, off + k * 2, none⟩) hgw).trans cl1
                      have hcb := (hB.cell (p := ⟨g, off + k * 2 + 1, none⟩) hgw).trans cl2
                      refine wpOp_step rfl (fun K hK => ?_)
                      go_simp
                      refine hK _ _ ⟨by simpa using hz, v56, v57, v58, .pointer (some ⟨g, off + k * 2, none⟩), .agg #[.slice D1 m1 d1, .slice D2 m2 d2], v61, rfl, ?_⟩
                      exact ⟨fun e => K0.out (hne.out 0 (by decide) e), fun e => K1.out (hne.out 1 (by decide) e), fun e => K2.out (hne.out 2 (by decide) e), fun e => K3.out (hne.out 3 (by decide) e), fun _ => rfl, fun e => K5.out (hne.out 5 (by decide) e), hB⟩
                    · cases ho
                      have d0 := hd ⟨0, .data⟩ (by simp) rfl
                      have d4 := hd ⟨4, .data⟩ (by simp) rfl
                      obtain rfl := K0.out d0
                      obtain rfl := K4.out d4
                      refine wpOp_step rfl (fun K hK => ?_)
                      go_simp
                      go_at_call 72
                      refine (cT.out _ hPf hFf).mono ?_
                      rintro e w3 ⟨x1, x2, rfl, hX, hb3⟩
                      refine hK _ _ ⟨by simpa using hz, .agg #[.slice B1 Pk.vs.length e1, .slice B2 Pk.ns.length e2], v57, v58, v59, .agg #[.slice D1 m1 d1, .slice D2 m2 d2], .agg #[x1, x2], rfl, ?_⟩
                      exact ⟨fun e => K0.out (hne.out 0 (by decide) e), fun e => K1.out (hne.out 1 (by decide) e), fun e => K2.out (hne.out 2 (by decide) e), fun e => K3.out (hne.out 3 (by decide) e), fun e => K4.out (hne.out 4 (by decide) e), fun _ => ⟨_, _, rfl, hX.le hB.size⟩, hB.trans (hb3.mono hB.size)⟩
                  case hl =>
                    rintro listed aq wx ⟨hz, v56, v57, v58, v59, v60, v61, rfl, hII⟩ hall
                    have K0 := Lib.hid hII.1
                    have K1 := Lib.hid hII.2.1
                    have K2 := Lib.hid hII.2.2.1
                    have K3 := Lib.hid hII.2.2.2.1
                    have K4 := Lib.hid hII.2.2.2.2.1
                    have K5 := Lib.hid hII.2.2.2.2.2.1
                    have hB : Below wr.heap.size wr wx := hII.2.2.2.2.2.2
                    have hPx := hPh.out.kept hB
                    have hPf : FacW wx wx.heap.size B1 Pk.vs.length B2 Pk.ns.length Pk := FcV.fac (hVh.out.below hB)
                    have hFf : FacW wx wx.heap.size D1 m1 D2 m2 F := (hFw2.out.keep_ hB).more hB.size
                    clear hII
                    obtain rfl := K0.out (hall 0 (by decide))
                    obtain rfl := K1.out (hall 1 (by decide))
                    obtain rfl := K2.out (hall 2 (by decide))
                    obtain rfl := K3.out (hall 3 (by decide))
                    obtain rfl := K4.out (hall 4 (by decide))
                    obtain ⟨x1, x2, rfl, hX⟩ := K5.out (hall 5 (by decide))
                    clear hall K0 K1 K2 K3 K4 K5
                    rcases hX.1.form with ⟨X1, xc1, rfl, _, _⟩
                    rcases hX.2.1.form with ⟨X2, xc2, rfl, _, _⟩
                    have hgc := hPx.cell
                    have hgf := hPx.frozen
                    refine wpOp_step rfl (fun K0 hK0 => ?_)
                    go_simp
                    refine hK0 _ _ ?_
                    clear hK0
                    have g1 := Lib.hid ((hPx.put 0 (.slice X1 (fTimes Pk F).vs.length xc1)).put 1 (.slice X2 (fTimes Pk F).ns.length xc2))
                    have g3 := Lib.hid ((hX.le hzw).put2 hPx (.slice X1 (fTimes Pk F).vs.length xc1) (.slice X2 (fTimes Pk F).ns.length xc2))
                    have g4 := Lib.hid (((hBh.out.trans (hB.mono hzw)).setCell (p := ⟨P, 0, none⟩) hPw3.out.1 (.slice X1 (fTimes Pk F).vs.length xc1)).setCell (p := ⟨P, 1, none⟩) hPw3.out.1 (.slice X2 (fTimes Pk F).ns.length xc2))
                    have g5 := Lib.hid (hLh.out.below (((hB.mono hzP).setCell (p := ⟨P, 0, none⟩) hPw3.out.2.1 (.slice X1 (fTimes Pk F).vs.length xc1)).setCell (p := ⟨P, 1, none⟩) hPw3.out.2.1 (.slice X2 (fTimes Pk F).ns.length xc2)))
                    clear hX hPx hPf hFf hB hgc hgf
                    go_wp2_with fail
                    go_roundg (n' - (k + 1))
                    case measure => omega
                    case rel => exact ⟨k + 1, (.slice X1 (fTimes Pk F).vs.length xc1), (.slice X2 (fTimes Pk F).ns.length xc2), by omega, rfl, by go_num, g1.out, by rw [hNx.out]; exact g3.out, g5.out, g4.out⟩
                · obtain rfl : n' = k := by omega
                  have htk : R.take n' = R := List.take_of_length_le (by have := hL.1.1; omega)
                  rw [htk] at hPh hVh hPx
                  have hzw2 : w.heap.size ≤ w0.heap.size := hB.out.size
                  have hr5 := hr.out.kept hBw
                  have cr := hr5.cell
                  have fr := hr5.frozen
                  have hpc := hPx.cell
                  generalize prodF (remF os 4 ++ R) = E at *
                  have hBn := Lib.hid (((hB.out.trans (hBw.mono hzw2)).setCell (p := ⟨w.heap.size, 0, none⟩) (Nat.le_refl _) (.slice B1 E.vs.length e1)).setCell (p := ⟨w.heap.size, 1, none⟩) (Nat.le_refl _) (.slice B2 E.ns.length e2))
                  have hVn := Lib.hid ((hVh.out.le hzw2).put2 hr5 (.slice B1 E.vs.length e1) (.slice B2 E.ns.length e2))
                  clear htk hPx hL hBw hzw hzw2
                  go_wp2_with fail
                  refine bodyPost_ret (v := .tuple #[.agg #[.slice B1 E.vs.length e1, .slice B2 E.ns.length e2], .bool true]) (by simp [results, Try.results26, go_sem, cr]) rfl ⟨_, _, rfl, ?_, ?_⟩
                  · exact hVn.out
                  · exact hBn.out
end Go.Proofs.Ytaipdkfbkcknkaa
