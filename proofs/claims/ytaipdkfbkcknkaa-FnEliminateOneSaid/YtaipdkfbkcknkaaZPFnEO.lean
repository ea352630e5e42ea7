/- For every list of bytes: of the drawn factors and number the program's EliminateOne returns what the model's returns; no factor that is left has the variable, and their product is the sum over it. No condition. -/
import Derived.Test.YtaipdkfbkcknkaaRows
import Derived.ProofKit
import Derived.OpenShut
import Derived.ShutString
import Derived.ChangeOld
import Derived.Below
import Derived.Test.YtaipdkfbkcknkaaZAV
import Derived.Test.YtaipdkfbkcknkaaZAE
import Derived.Test.YtaipdkfbkcknkaaZAB
import Derived.Test.YtaipdkfbkcknkaaZAA
namespace Go.Proofs.Ytaipdkfbkcknkaa.fnEliminateOne
open Go.ChangeShapes Go.WideShapes Go.ChangeAt Go.RowKit
set_option linter.unusedVariables false
set_option maxRecDepth 100000
theorem own : ownKnob Try.prog.godebug = none := by kernel_rfl
theorem laidOut : laidOutB Try.prog = true := by kernel_rfl
set_option maxHeartbeats 4000000 in
theorem walk {H : Type} (enc : TypeId × Value → H) (W : World) (base : Nat) (v0 : Value) (d0 : DataW H) (p0 : List MemPlace) (hv0 : Value.okWide Try.prog W .any base 47 v0)
    (h0 : DataW.Trod enc Try.prog W 0 (fun _ => true) true 47 v0 d0 p0) (_ : ∀ x ∈ p0, x.block < W.heap.size) :
    Calls Try.prog 10 #[v0] W fun e w' => e = .returned (.bool true) ∧ Below W.heap.size W w' := by
  obtain ⟨A, n, c, rfl, hn, hc, hb⟩ := open_bytes hv0 h0
  clear hv0 h0
  have hcM := Lib.hid hc
  have hnn : n ≤ 9223372036854775807 := by unfold maxLen at hc; omega
  clear hc
  by_cases h1 : 1048576 < n
  · go_enter Try.func10, Try.ntmps10
    go_wp2_with fail
    go_ret
    exact ⟨rfl, Below.refl _ _⟩
  go_enter Try.func10, Try.ntmps10
  go_wp2_with fail
  refine (DrawEliminateOne_any A n c _ hb hn hcM.out).mono ?_
  rintro e w1 ⟨v1, Fs, vs, x, rfl, hR, hl, hsm, hB⟩
  obtain ⟨AF, cF, rfl, _, _⟩ := hR.form
  have hF1 := Lib.hid (hR.flst0 rfl)
  have hB1 := Lib.hid hB
  obtain ⟨m, hm⟩ : ∃ m, Fs.length = m := ⟨_, rfl⟩
  rw [hm] at hF1 hl ⊢
  have hmM : m ≤ maxLen := by unfold maxLen; omega
  have cI := Lib.hid (fun wx (hx : FLst0 wx wx.heap.size AF m Fs) => EliminateOne_any AF m cF Fs x wx hx.1 hmM hsm)
  have cS := Lib.hid (fun wx (hx : FLst0 wx wx.heap.size AF m Fs) => specEliminateOne_any AF m cF Fs x wx hx hmM hsm)
  have cL := Lib.hid (fun wx (hx : FLst0 wx wx.heap.size AF m Fs) => ListOfFactors_any AF m cF Fs wx hx.1 hmM hsm)
  have hnone := Lib.hid (fun (h : oneOkV Fs x = false) => show oneTo Fs x = [] from by unfold oneTo; rw [h]; rfl)
  have hyes := Lib.hid (fun (h : oneOkV Fs x = true) => show (listOk Fs = true ∧ 0 ≤ x ∧ x ≤ 3) ∧ oneTo Fs x = elim1 Fs x from by
    refine ⟨?_, by unfold oneTo; rw [if_pos h]⟩
    unfold oneOkV at h
    rw [Bool.and_eq_true] at h
    exact ⟨h.1, inB_iff.1 h.2⟩)
  have hall : (oneTo Fs x).length ≤ 9 ∧ smallF (oneTo Fs x) ∧ ∀ F ∈ oneTo Fs x, x ∉ F.vs := by
    cases hok : oneOkV Fs x
    · rw [hnone.out hok]
      exact ⟨by decide, fun F hF => by simp at hF, fun F hF => by simp at hF⟩
    · obtain ⟨⟨h1, h2⟩, h3⟩ := hyes.out hok
      rw [h3]
      obtain ⟨h8, _, hfine⟩ := list_fine h1
      obtain ⟨V, hV, _⟩ := nat_three h2
      subst hV
      have h9 := elim1_len Fs (V.val : Int)
      refine ⟨by omega, fun F hF => ?_, elim1_no hfine V⟩
      obtain ⟨_, _, q3, q4, _⟩ := fac_parts (elim1_fine hfine V F hF)
      have q5 := pow_four q4
      unfold maxLen
      omega
  obtain ⟨hq9, hsE, hno⟩ := hall
  have hsEh := Lib.hid hsE
  have hnoh := Lib.hid hno
  have hsmh := Lib.hid hsm
  unfold Fgd at cI cS
  unfold Lbd at cL
  generalize hEe : oneTo Fs x = Es at *
  generalize oneOkV Fs x = bb at *
  obtain ⟨q, hq⟩ : ∃ q, Es.length = q := ⟨_, rfl⟩
  have hqh := Lib.hid hq
  rw [hq] at hq9
  clear hR hsm hB hb hm hsE hno hEe hq
  go_wp2_with fail
  refine (cI.out _ hF1.out).mono ?_
  rintro e w2 ⟨v2, us2, rfl, hR, _, hb⟩
  obtain ⟨AE, cE, rfl, _, _⟩ := hR.form
  have hE2 := Lib.hid (hR.flst rfl)
  have hF2 := Lib.hid ((hF1.out.below hb).more hb.size)
  have hB2 := Lib.hid (hB1.out.trans (hb.mono hB1.out.size))
  rw [hqh.out] at hE2 ⊢
  clear hR hb hF1 hB1
  go_wp2_with fail
  refine (cS.out _ hF2.out).mono ?_
  rintro e w3 ⟨v3, us3, rfl, hR, _, hb⟩
  obtain ⟨AG, cG, rfl, _, _⟩ := hR.form
  have hG3 := Lib.hid (hR.flst rfl)
  have hE3 := Lib.hid ((hE2.out.below hb).more hb.size)
  have hF3 := Lib.hid ((hF2.out.below hb).more hb.size)
  have hB3 := Lib.hid (hB2.out.trans (hb.mono hB2.out.size))
  rw [hqh.out] at hG3 ⊢
  clear hR hb hF2 hB2 hE2
  go_wp2_with fail
  go_loopg [53] q (fun gq y wr => ∃ k : Nat, k ≤ q ∧ gq = q - k ∧ y = .int .i64 k ∧ Below w3.heap.size w3 wr)
  case atStart => exact ⟨0, Nat.zero_le _, rfl, rfl, Below.refl _ _⟩
  case round =>
    obtain ⟨k, hk, hgn, rfl, hBw⟩ := hrel
    have hgk : gk = q - k := hgn
    have kB := Lib.hid hBw
    have hzw := hBw.size
    clear hgn
    by_cases hlt : k < q
    · obtain ⟨g, off, F, D1, m1, d1, D2, m2, d2, rfl, hg, hFk, cl1, cl2, hFW⟩ := (hE3.out.below hBw).at_ hlt
      obtain ⟨g2, off2, F2, H1, l1, t1, H2, l2, t2, rfl, hg2, hFk2, ck1, ck2, hFW2⟩ := (hG3.out.below hBw).at_ hlt
      obtain rfl : F = F2 := Option.some.inj (hFk.symm.trans hFk2)
      have hk0 : (0 : Int) ≤ (k : Int) := by omega
      have hk1 : (k : Int) < (q : Int) := by omega
      have hgw2 : g2 < wr.heap.size := by omega
      have hal : Below wr.heap.size wr (wr.alloc (.cells #[.slice D1 m1 d1, .slice D2 m2 d2] 36)) := (Below.refl _ _).alloc (Nat.le_refl _) _
      have hX5 := Lib.hid ((hFW.keep_ (hal.mono hzw)).more (Nat.le_trans hzw hal.size))
      have hY5 := Lib.hid ((hFW2.keep_ (hal.mono hzw)).more (Nat.le_trans hzw hal.size))
      have hcn5 := Lib.hid (Has.new wr 36 #[.slice D1 m1 d1, .slice D2 m2 d2])
      have ck1h := Lib.hid ((hal.cell (p := ⟨g2, off2 + k * 2, none⟩) hgw2).trans ck1)
      have ck2h := Lib.hid ((hal.cell (p := ⟨g2, off2 + k * 2 + 1, none⟩) hgw2).trans ck2)
      have hB5 := Lib.hid (kB.out.trans (hal.mono hzw))
      have hsF := hsEh.out F (List.mem_of_getElem? hFk)
      have hsl := Lib.hid (show (m1 ≤ maxLen ∧ m2 ≤ maxLen) ∧ l1 ≤ maxLen ∧ l2 ≤ maxLen from ⟨⟨by rw [← hFW.1.1]; exact hsF.1, by rw [← hFW.2.1]; exact hsF.2⟩, by rw [← hFW2.1.1]; exact hsF.1, by rw [← hFW2.2.1]; exact hsF.2⟩)
      have hno9 := Lib.hid (hnoh.out F (List.mem_of_getElem? hFk))
      have hm19 : m1 ≤ 9223372036854775807 := by have := hsl.out.1.1; unfold maxLen at this; omega
      have hg25 : g2 < wr.heap.size + 1 := by omega
      clear hFk hFk2 hFW hFW2 ck1 ck2 hal hsF hBw
      go_wp2_with fail
      generalize hWe : wr.alloc (.cells #[.slice D1 m1 d1, .slice D2 m2 d2] 36) = Wn at hX5 hY5 hcn5 ck1h ck2h hB5 ⊢
      have hWz : Wn.heap.size = wr.heap.size + 1 := by rw [← hWe]; simp
      have hgw5 : g2 < Wn.heap.size := by omega
      clear hWe hWz
      refine wp_region_any (by kernel_rfl) ?_
      change wpAny _ _ _ _ _ _ _ (World.drew _)
      refine wpAny_last (n := 6) (I := fun listed aq wx => listed.size = 7 ∧ ∃ v58 v59 v60 v61 v62 v63 : Value, aq = { tmps := #[.slice A n c, undef, u2, .slice AF m cF, .int .i64 x, .slice (some ⟨g, off, none⟩) q cE, .bool bb, .slice (some ⟨g2, off2, none⟩) q cG, .bool bb, .int .i64 ((k : Nat) : Int), .pointer (some ⟨wr.heap.size, 0, none⟩), undef, u12, undef, undef, undef, undef, undef, undef, undef, undef, .slice A n c, .int .i64 ((n : Nat) : Int), .bool (decide (1048576 < ((n : Nat) : Int))), .tuple #[.slice AF m cF, .int .i64 x], .slice A n c, .tuple #[.slice AF m cF, .int .i64 x], .slice AF m cF, .int .i64 x, .tuple #[.slice (some ⟨g, off, none⟩) q cE, .bool bb], .slice AF m cF, .int .i64 x, .tuple #[.slice (some ⟨g, off, none⟩) q cE, .bool bb], .slice (some ⟨g, off, none⟩) q cE, .bool bb, .tuple #[.slice (some ⟨g2, off2, none⟩) q cG, .bool bb], .slice AF m cF, .int .i64 x, .tuple #[.slice (some ⟨g2, off2, none⟩) q cG, .bool bb], .slice (some ⟨g2, off2, none⟩) q cG, .bool bb, .bool bb, .bool bb, .bool false, .bool false, .slice (some ⟨g, off, none⟩) q cE, .int .i64 ((q : Nat) : Int), .slice (some ⟨g2, off2, none⟩) q cG, .int .i64 ((q : Nat) : Int), .bool false, .bool false, .slice (some ⟨g, off, none⟩) q cE, .int .i64 ((q : Nat) : Int), .int .i64 ((k : Nat) : Int), .bool true, .int .i64 ((k : Nat) : Int), .pointer (some ⟨g, off + k * 2, none⟩), .agg #[.slice D1 m1 d1, .slice D2 m2 d2], v58, v59, v60, v61, v62, v63, u64, u65, u66, u67, u68, u69, u70, u71, u72, u73, u74, u75, u76, undef, undef, undef, undef, undef, undef, undef, undef, undef, undef, undef, undef, undef, undef, undef, undef, undef, undef, undef, undef, undef, undef, undef, undef, undef, undef, undef, undef, undef, undef, undef, undef, undef, undef, undef, undef, undef, undef, undef, undef, undef, undef, undef, undef, undef, undef, undef, undef], defers := [] } ∧ (listed.getD 0 false = true → v58 = .agg #[.slice D1 m1 d1, .slice D2 m2 d2]) ∧ (listed.getD 1 false = true → v59 = .slice (some ⟨g2, off2, none⟩) q cG) ∧ (listed.getD 2 false = true → v60 = .int .i64 ((k : Nat) : Int)) ∧ (listed.getD 3 false = true → v61 = .pointer (some ⟨g2, off2 + k * 2, none⟩)) ∧ (listed.getD 4 false = true → v62 = .agg #[.slice H1 l1 t1, .slice H2 l2 t2]) ∧ (listed.getD 5 false = true → v63 = .bool true) ∧ Below Wn.heap.size Wn wx) rfl (by kernel_rfl) (by kernel_rfl) ?hs ?hl _ _ _ ?st rfl (by decide) _ (by decide)
      case st =>
        refine ⟨rfl, u58, u59, u60, u61, u62, u63, rfl, ?_, ?_, ?_, ?_, ?_, ?_, (Below.refl _ _).drew⟩ <;> (intro e; exact absurd e (by decide))
      case hs =>
        rintro listed aq wx ⟨hz, v58, v59, v60, v61, v62, v63, rfl, hII⟩ i hin hi
        obtain ⟨h0, o, ho, hd⟩ := mem_ready.1 hi
        have K0 := Lib.hid hII.1
        have K1 := Lib.hid hII.2.1
        have K2 := Lib.hid hII.2.2.1
        have K3 := Lib.hid hII.2.2.2.1
        have K4 := Lib.hid hII.2.2.2.2.1
        have K5 := Lib.hid hII.2.2.2.2.2.1
        have hB : Below Wn.heap.size Wn wx := hII.2.2.2.2.2.2
        have hne := Lib.hid (fun k (hk : i ≠ k) => @listed_ne listed i k hk)
        have hxn := Has.kept (by exact hcn5.out) hB
        have h0f : listed.getD i false = false := by rw [Array.getD_eq_getD_getElem?, getD_false h0]; rfl
        clear hII hi h0
        rcases (by omega : i = 0 ∨ i = 1 ∨ i = 2 ∨ i = 3 ∨ i = 4 ∨ i = 5) with rfl | rfl | rfl | rfl | rfl | rfl
        · cases ho
          have hcnc := hxn.cell
          refine wpOp_step rfl (fun K hK => ?_)
          go_simp
          refine hK _ _ ⟨by simpa using hz, .agg #[.slice D1 m1 d1, .slice D2 m2 d2], v59, v60, v61, v62, v63, rfl, ?_⟩
          exact ⟨fun _ => rfl, fun e => K1.out (hne.out 1 (by decide) e), fun e => K2.out (hne.out 2 (by decide) e), fun e => K3.out (hne.out 3 (by decide) e), fun e => K4.out (hne.out 4 (by decide) e), fun e => K5.out (hne.out 5 (by decide) e), hB⟩
        · cases ho
          refine wpOp_step rfl (fun K hK => ?_)
          go_simp
          refine hK _ _ ⟨by simpa using hz, v58, .slice (some ⟨g2, off2, none⟩) q cG, v60, v61, v62, v63, rfl, ?_⟩
          exact ⟨fun e => K0.out (hne.out 0 (by decide) e), fun _ => rfl, fun e => K2.out (hne.out 2 (by decide) e), fun e => K3.out (hne.out 3 (by decide) e), fun e => K4.out (hne.out 4 (by decide) e), fun e => K5.out (hne.out 5 (by decide) e), hB⟩
        · cases ho
          refine wpOp_step rfl (fun K hK => ?_)
          go_simp
          refine hK _ _ ⟨by simpa using hz, v58, v59, .int .i64 ((k : Nat) : Int), v61, v62, v63, rfl, ?_⟩
          exact ⟨fun e => K0.out (hne.out 0 (by decide) e), fun e => K1.out (hne.out 1 (by decide) e), fun _ => rfl, fun e => K3.out (hne.out 3 (by decide) e), fun e => K4.out (hne.out 4 (by decide) e), fun e => K5.out (hne.out 5 (by decide) e), hB⟩
        · cases ho
          have d1 := hd ⟨1, .data⟩ (by simp) rfl
          have d2 := hd ⟨2, .data⟩ (by simp) rfl
          obtain rfl := K1.out d1
          obtain rfl := K2.out d2
          refine wpOp_step rfl (fun K hK => ?_)
          go_simp
          refine hK _ _ ⟨by simpa using hz, v58, .slice (some ⟨g2, off2, none⟩) q cG, .int .i64 ((k : Nat) : Int), .pointer (some ⟨g2, off2 + k * 2, none⟩), v62, v63, rfl, ?_⟩
          exact ⟨fun e => K0.out (hne.out 0 (by decide) e), fun e => K1.out (hne.out 1 (by decide) e), fun e => K2.out (hne.out 2 (by decide) e), fun _ => rfl, fun e => K4.out (hne.out 4 (by decide) e), fun e => K5.out (hne.out 5 (by decide) e), hB⟩
        · cases ho
          have d3 := hd ⟨3, .data⟩ (by simp) rfl
          obtain rfl := K3.out d3
          have hca := (hB.cell (p := ⟨g2, off2 + k * 2, none⟩) hgw5).trans ck1h.out
          have hcb := (hB.cell (p := ⟨g2, off2 + k * 2 + 1, none⟩) hgw5).trans ck2h.out
          refine wpOp_step rfl (fun K hK => ?_)
          go_simp
          refine hK _ _ ⟨by simpa using hz, v58, v59, v60, .pointer (some ⟨g2, off2 + k * 2, none⟩), .agg #[.slice H1 l1 t1, .slice H2 l2 t2], v63, rfl, ?_⟩
          exact ⟨fun e => K0.out (hne.out 0 (by decide) e), fun e => K1.out (hne.out 1 (by decide) e), fun e => K2.out (hne.out 2 (by decide) e), fun e => K3.out (hne.out 3 (by decide) e), fun _ => rfl, fun e => K5.out (hne.out 5 (by decide) e), hB⟩
        · cases ho
          have d0 := hd ⟨0, .data⟩ (by simp) rfl
          have d4 := hd ⟨4, .data⟩ (by simp) rfl
          obtain rfl := K0.out d0
          obtain rfl := K4.out d4
          refine wpOp_step rfl (fun K hK => ?_)
          go_simp
          go_at_call 40
          refine (wcFactor_any D1 D2 H1 H2 m1 d1 m2 d2 l1 t1 l2 t2 F _ ((hX5.out.keep_ hB).more hB.size) ((hY5.out.keep_ hB).more hB.size) hsl.out.1.1 hsl.out.1.2 hsl.out.2.1 hsl.out.2.2).mono ?_
          rintro e w3 ⟨rfl, hb3⟩
          refine hK _ _ ⟨by simpa using hz, .agg #[.slice D1 m1 d1, .slice D2 m2 d2], v59, v60, v61, .agg #[.slice H1 l1 t1, .slice H2 l2 t2], .bool true, rfl, ?_⟩
          exact ⟨fun e => K0.out (hne.out 0 (by decide) e), fun e => K1.out (hne.out 1 (by decide) e), fun e => K2.out (hne.out 2 (by decide) e), fun e => K3.out (hne.out 3 (by decide) e), fun e => K4.out (hne.out 4 (by decide) e), fun _ => rfl, hB.trans (hb3.mono hB.size)⟩
      case hl =>
        rintro listed aq wx ⟨hz, v58, v59, v60, v61, v62, v63, rfl, hII⟩ hall
        have K0 := Lib.hid hII.1
        have K1 := Lib.hid hII.2.1
        have K2 := Lib.hid hII.2.2.1
        have K3 := Lib.hid hII.2.2.2.1
        have K4 := Lib.hid hII.2.2.2.2.1
        have K5 := Lib.hid hII.2.2.2.2.2.1
        have hB : Below Wn.heap.size Wn wx := hII.2.2.2.2.2.2
        have hxn := Has.kept (by exact hcn5.out) hB
        clear hII
        obtain rfl := K0.out (hall 0 (by decide))
        obtain rfl := K1.out (hall 1 (by decide))
        obtain rfl := K2.out (hall 2 (by decide))
        obtain rfl := K3.out (hall 3 (by decide))
        obtain rfl := K4.out (hall 4 (by decide))
        obtain rfl := K5.out (hall 5 (by decide))
        clear hall K0 K1 K2 K3 K4 K5
        refine wpOp_step rfl (fun K0 hK0 => ?_)
        go_simp
        refine hK0 _ _ ?_
        clear hK0
        have hB9z := Lib.hid (hB5.out.trans (hB.mono hB5.out.size))
        have hcn9 := (hcn5.out.kept hB).cell
        have hI9 := Lib.hid ((hX5.out.keep_ hB).more hB.size)
        clear hB
        go_wp2_with fail
        clear hcn9
        obtain ⟨w80, rfl⟩ : ∃ x : World, x = wr := ⟨_, rfl⟩
        obtain ⟨g80, rfl⟩ : ∃ x : Nat, x = gk := ⟨_, rfl⟩
        go_loopg [68] m1 (fun gq y wr => ∃ j : Nat, j ≤ m1 ∧ gq = m1 - j ∧ y = .int .i64 j ∧ wr = wx)
        case atStart => exact ⟨0, Nat.zero_le _, rfl, rfl, rfl⟩
        case round =>
          obtain ⟨j, hj, hgn, rfl, rfl⟩ := hrel
          have hgj : gk = m1 - j := hgn
          clear hgn
          by_cases hjm : j < m1
          · obtain ⟨g9, off9, d9, rfl, hg9, hd9, cd9⟩ := (show Ils _ _ D1 m1 F.vs from hI9.out.1).at_ hjm
            have hj0 : (0 : Int) ≤ (j : Int) := by omega
            have hj1 : (j : Int) < (m1 : Int) := by omega
            have hne : (d9 == x) = false := by
              have : d9 ≠ x := fun e => hno9.out (e ▸ List.mem_of_getElem? hd9)
              simpa using this
            clear hd9
            go_wp2_with fail
            go_roundg (m1 - (j + 1))
            case measure => omega
            case rel => exact ⟨j + 1, by omega, rfl, by go_num, rfl⟩
          · obtain rfl : m1 = j := by omega
            go_wp2_with fail
            go_roundg (q - (k + 1))
            case measure => omega
            case rel => exact ⟨k + 1, by omega, rfl, by go_num, hB9z.out⟩
    · obtain rfl : q = k := by omega
      have hE4 := Lib.hid ((hE3.out.below hBw).more hzw)
      have hF4 := Lib.hid ((hF3.out.below hBw).more hzw)
      have hB4 := Lib.hid (hB3.out.trans (hBw.mono hB3.out.size))
      obtain ⟨w80, rfl⟩ : ∃ x : World, x = wr := ⟨_, rfl⟩
      obtain ⟨g80, rfl⟩ : ∃ x : Nat, x = gk := ⟨_, rfl⟩
      clear hBw kB hzw hgk hE3 hF3 hB3 hG3
      cases bb
      · have hE0 : Es = [] := hnone.out rfl
        have hq0 : q = 0 := by rw [← hqh.out, hE0]; rfl
        subst hq0
        clear hE0
        go_wp2_with fail
        go_ret
        exact ⟨rfl, hB4.out⟩
      · obtain ⟨⟨hk1, hk2⟩, hk3⟩ := hyes.out rfl
        obtain ⟨V, hV, hVt⟩ := nat_three hk2
        clear hVt
        subst hV
        obtain ⟨h8, hf9, hfine⟩ := list_fine hk1
        have hpn := pb_nine hf9
        have g9 : ∀ k : Fin 9, (9 : Int) ^ k.val ≤ 43046721 := by decide +kernel
        have hp9 := g9 ⟨Fs.length, by omega⟩
        have hpF : pb Fs ≤ 43046721 := Int.le_trans hpn hp9
        have hEf : Fine Es := by rw [hk3]; exact elim1_fine hfine V
        have hpE : pb Es ≤ 129140163 := by
          have := elim1_pb hfine V
          rw [hk3]
          omega
        have hpEh := Lib.hid hpE
        have hpFh := Lib.hid (show pb Fs ≤ 10000000000 by omega)
        have hEfh := Lib.hid hEf
        have hFfh := Lib.hid hfine
        have hsum := Lib.hid (fun (s : Nat) (hs : s < 81) => show prodAt Es (s : Int) = sE Fs (V.val : Int) (s : Int) 3 from by rw [hk3]; exact elim1_sum hfine V (by omega))
        have hlen9 := Lib.hid (show (lofTo Fs).length = 81 from by unfold lofTo; rw [if_pos hk1]; simp)
        have hget9 := Lib.hid (fun (s : Nat) (hs : s < 81) => show (lofTo Fs)[s]? = some (prodAt Fs (s : Int)) from by unfold lofTo; rw [if_pos hk1, List.getElem?_map, List.getElem?_range hs]; rfl)
        generalize lofTo Fs = os at *
        generalize listOk Fs = b9 at cL
        have hqe := hqh
        clear hk1 hk2 hk3 h8 hf9 hfine hpn g9 hp9 hpF hEf hpE hnone hyes
        go_wp2_with fail
        refine (cL.out _ hF4.out).mono ?_
        rintro e w5 ⟨v, rfl, ho, hb⟩
        obtain ⟨Da, da, rfl, _, _⟩ := ho.form
        have hIa5 := Lib.hid ho.lst
        have hE5 := Lib.hid ((hE4.out.below hb).more hb.size)
        have hB5 := Lib.hid (hB4.out.trans (hb.mono hB4.out.size))
        have ho81 := Lib.hid hlen9.out
        clear ho hb hE4 hF4 hB4
        obtain ⟨O, hO⟩ : ∃ O, os.length = O := ⟨_, rfl⟩
        have hO81 : O = 81 := by rw [← hO]; exact hlen9.out
        rw [hO] at hIa5 ⊢
        subst hO81
        clear hO
        go_wp2_with fail
        go_loopg [89] 81 (fun gq y wr => ∃ s : Nat, s ≤ 81 ∧ gq = 81 - s ∧ y = .int .i64 s ∧ Below w5.heap.size w5 wr)
        case atStart => exact ⟨0, Nat.zero_le _, rfl, rfl, Below.refl _ _⟩
        case round =>
          obtain ⟨s, hs, hgn, rfl, hBw⟩ := hrel
          have hgs : gk = 81 - s := hgn
          have kB := Lib.hid hBw
          clear hgn
          by_cases hlt : s < 81
          · have hs0 : (0 : Int) ≤ (s : Int) := by omega
            have hs1 : (s : Int) < 81 := by omega
            have hV0 : (0 : Int) ≤ (V.val : Int) ∧ (V.val : Int) ≤ 3 := by omega
            have hV0h := Lib.hid hV0
            have cV := Lib.hid (fun wx => ValueAt_any (s : Int) (V.val : Int) wx)
            have cW := Lib.hid (fun (y : Int) wx => WithValue_any (s : Int) (V.val : Int) y wx)
            generalize valueAt (s : Int) (V.val : Int) = va at cV
            have hE6 := Lib.hid ((hE5.out.below hBw).more hBw.size)
            have hIa6 := Lib.hid ((hIa5.out.below hBw).more hBw.size)
            clear hV0 hBw
            by_cases hva : 0 < va
            · go_wp2_with fail
              refine (cV.out _).mono ?_
              rintro e w' ⟨rfl, rfl⟩
              go_wp2_with fail
              go_roundg (81 - (s + 1))
              case measure => omega
              case rel => exact ⟨s + 1, by omega, rfl, by go_num, kB.out⟩
            · go_wp2_with fail
              refine (cV.out _).mono ?_
              rintro e w' ⟨rfl, rfl⟩
              go_wp2_with fail
              obtain ⟨w81, rfl⟩ : ∃ x : World, x = wr := ⟨_, rfl⟩
              obtain ⟨g81, rfl⟩ : ∃ x : Nat, x = gk := ⟨_, rfl⟩
              go_loopg [16, 18] 3 (fun gq p y wr => ∃ k : Nat, k ≤ 3 ∧ gq = 3 - k ∧ y = .int .i64 k ∧ p = .int .i64 (sE Fs (V.val : Int) (s : Int) k) ∧ wr = w81)
              case atStart => exact ⟨0, Nat.zero_le _, rfl, rfl, rfl, rfl⟩
              case round =>
                obtain ⟨k9, hk9, hgn, rfl, rfl, rfl⟩ := hrel
                have hgk9 : gk = 3 - k9 := hgn
                clear hgn
                by_cases hk3 : k9 < 3
                · have hj0 : (0 : Int) ≤ (k9 : Int) := by omega
                  have hj1 : (k9 : Int) < 3 := by omega
                  have hwb := with_bd (st := (s : Int)) (v := (V.val : Int)) (x := (k9 : Int)) (by omega) hV0h.out (by omega)
                  have b1 := sE_bd hFfh.out hpFh.out (st := (s : Int)) (by omega) hV0h.out k9 hk9
                  have b2 := sE_bd hFfh.out hpFh.out (st := (s : Int)) (by omega) hV0h.out (k9 + 1) (by omega)
                  have hsx : sE Fs (V.val : Int) (s : Int) (k9 + 1) = sE Fs (V.val : Int) (s : Int) k9 + prodAt Fs (withValue (s : Int) (V.val : Int) (k9 : Int)) := rfl
                  rw [hsx] at b2
                  have hsxh := Lib.hid hsx
                  have cWk := Lib.hid (cW.out (k9 : Int))
                  generalize withValue (s : Int) (V.val : Int) (k9 : Int) = ww at *
                  obtain ⟨u, hu⟩ : ∃ u : Nat, ww = (u : Int) := ⟨ww.toNat, by omega⟩
                  subst hu
                  have hu81 : u < 81 := by omega
                  have hu0 : (0 : Int) ≤ (u : Int) := by omega
                  have hu1 : (u : Int) < 81 := by omega
                  obtain ⟨g9, off9, d9, rfl, hg9, hd9, cd9⟩ := hIa6.out.at_ hu81
                  have hde : d9 = prodAt Fs (u : Int) := Option.some.inj (hd9.symm.trans (hget9.out u hu81))
                  rw [← hde] at b2 hsxh
                  generalize sE Fs (V.val : Int) (s : Int) k9 = s0 at *
                  have hwm : IntKind.i64.wrap (s0 + d9) = s0 + d9 := by rw [IntKind.wrap_i64]; omega
                  clear hd9 hde hsx hwb b1 b2
                  go_wp2_with fail
                  refine (cWk.out _).mono ?_
                  rintro e w' ⟨rfl, rfl⟩
                  go_wp2_with fail
                  go_roundg (3 - (k9 + 1))
                  case measure => omega
                  case rel => exact ⟨k9 + 1, by omega, rfl, by go_num, by rw [hsxh.out], rfl⟩
                · obtain rfl : k9 = 3 := by omega
                  have hsm3 := Lib.hid (hsum.out s hlt)
                  rw [← hsm3.out]
                  obtain ⟨w82, rfl⟩ : ∃ x : World, x = wr := ⟨_, rfl⟩
                  obtain ⟨g82, rfl⟩ : ∃ x : Nat, x = gk := ⟨_, rfl⟩
                  clear hgk9
                  go_wp2_with fail
                  go_loopg [17, 111] q (fun gq p y wr => ∃ j : Nat, j ≤ q ∧ gq = q - j ∧ y = .int .i64 j ∧ p = .int .i64 (prodAt (Es.take j) (s : Int)) ∧ Below w82.heap.size w82 wr)
                  case atStart => exact ⟨0, Nat.zero_le _, rfl, rfl, rfl, Below.refl _ _⟩
                  case round =>
                    obtain ⟨j, hj, hgn, rfl, rfl, hBw⟩ := hrel
                    have hgj : gk = q - j := hgn
                    have kB2 := Lib.hid hBw
                    clear hgn
                    by_cases hjm : j < q
                    · obtain ⟨g2, off2, F, D1, m1, d1, D2, m2, d2, rfl, hg2, hFk, cl1, cl2, hFW⟩ := (hE6.out.below hBw).at_ hjm
                      have hj0 : (0 : Int) ≤ (j : Int) := by omega
                      have hj1 : (j : Int) < (q : Int) := by omega
                      have hal : Below wr.heap.size wr (wr.alloc (.cells #[.slice D1 m1 d1, .slice D2 m2 d2] 36)) := (Below.refl _ _).alloc (Nat.le_refl _) _
                      have hFx := Lib.hid ((hFW.keep_ (hal.mono hBw.size)).more (Nat.le_trans hBw.size hal.size))
                      have hsF := hsEh.out F (List.mem_of_getElem? hFk)
                      have hsl := Lib.hid (show m1 ≤ maxLen ∧ m2 ≤ maxLen from ⟨by rw [← hFW.1.1]; exact hsF.1, by rw [← hFW.2.1]; exact hsF.2⟩)
                      have hB6 := Lib.hid (kB2.out.trans (hal.mono hBw.size))
                      have hcn := (Has.new wr 36 #[.slice D1 m1 d1, .slice D2 m2 d2]).cell
                      have hmem := List.mem_of_getElem? hFk
                      have hf9 := facOk_le (hEfh.out F hmem) (show mB F ≤ 1000000000 by have := pb_mem hmem; have := hpEh.out; omega)
                      have hat := Lib.hid (show fAtTo F (s : Int) = fAt F (s : Int) from by unfold fAtTo; rw [if_pos ⟨hf9, inB_iff.2 ⟨by omega, by omega⟩⟩])
                      have hpt := prod_take hFk (s : Int)
                      have hbd := prodAt_bd hEfh.out (st := (s : Int)) (by omega) (j + 1)
                      have hK9 := hpEh.out
                      rw [hpt] at hbd
                      have hpth := Lib.hid hpt
                      generalize prodAt (Es.take j) (s : Int) = p0 at *
                      generalize fAt F (s : Int) = f0 at *
                      have hwm : IntKind.i64.wrap (p0 * f0) = p0 * f0 := by rw [IntKind.wrap_i64]; omega
                      clear hpt hbd hK9 hFk hFW hf9 hal hBw hsF hmem
                      go_wp2_with fail
                      refine (FactorAt_any D1 D2 m1 d1 m2 d2 F (s : Int) _ hFx.out hsl.out.1 hsl.out.2).mono ?_
                      rw [hat.out]
                      rintro e w9 ⟨rfl, hb⟩
                      have nB := Lib.hid (hB6.out.trans (hb.mono hB6.out.size))
                      clear hb hcn
                      go_wp2_with fail
                      go_roundg (q - (j + 1))
                      case measure => omega
                      case rel => exact ⟨j + 1, by omega, rfl, by go_num, by rw [hpth.out], nB.out⟩
                    · obtain rfl : q = j := by omega
                      have htk : Es.take q = Es := List.take_of_length_le (by rw [hqe.out]; exact Nat.le_refl _)
                      rw [htk]
                      generalize prodAt Es (s : Int) = p9 at *
                      have nB := Lib.hid (kB.out.trans (hBw.mono kB.out.size))
                      clear htk hBw
                      go_wp2_with fail
                      go_roundg (81 - (s + 1))
                      case measure => omega
                      case rel => exact ⟨s + 1, by omega, rfl, by go_num, nB.out⟩
          · obtain rfl : s = 81 := by omega
            have hB7 := Lib.hid (hB5.out.trans (hBw.mono hB5.out.size))
            clear hBw
            go_wp2_with fail
            go_ret
            exact ⟨rfl, hB7.out⟩
set_option maxRecDepth 100000 in
theorem lifted (os : Os) (started : os.Started) (H : Type) (enc : TypeId × Value → H) :
    ReturnsInHanded {} Try.checked os 10 .any (Rows.fnEliminateOneSpec.pre6 enc Try.prog Try.f10 Rows.fnEliminateOneRow.domain false) (Rows.fnEliminateOneSpec.post enc Try.prog Try.f10 false true false false) := by
  refine returnsInHanded_of_change (C := Try.checked) own started (by kernel_rfl) Try.func10
    (ChangeSpec.witness6 (enc := enc) (C := Try.checked) false ⟨#[], #[.slice none 0 0], []⟩ 8 (by kernel_rfl) (by kernel_rfl) (by kernel_rfl) (by kernel_rfl)) ?_
  intro W base args ds gs before hval0 hW hcnd _
  have hval : ∀ (j : Nat) t v, Try.f10.params[j]? = some t → args[j]? = some v → Value.okWide Try.prog W .any base t v := hval0
  have hW' := hW
  obtain ⟨p, q, hA0, hV, rfl, hfz, hnd⟩ := hW
  have hA : DataW.TrodAll enc Try.prog W 0 (fun _ => true) true Try.f10.params.toList args.toList ds p := hA0
  rw [Try.params10] at hA hval
  obtain ⟨v0, vs0, d0, ds0, p0, q0, hargs, rfl, rfl, h0, r0⟩ := trodAll_cons hA
  obtain ⟨rfl, rfl, rfl⟩ := trodAll_nil r0
  obtain rfl : args = #[v0] := by cases args; simp_all
  obtain ⟨rfl, rfl⟩ := trodVars_none hV
  have lt0 : ∀ x ∈ p0, x.block < W.heap.size := by
    obtain ⟨m, hm⟩ := h0
    exact DataW.trod_lt m _ _ _ hm
  clear hA0 hval0
  refine (walk enc W base v0 d0 p0 (hval 0 47 v0 rfl rfl) h0 lt0).mono fun e W' ⟨he, bel⟩ => ?_
  subst he
  exact ⟨_, rfl, _, _, _, [], _, [], hW', trodAll_mk1 (shut_bool Try.underlying4 _), (trodAll_cons_mk (Below.trod laidOut (by kernel_rfl) (of_decide_eq_true (by kernel_rfl)) h0 bel lt0) trodAll_mk0), rfl, bel.frame _, fun h => by cases h⟩
theorem proved : Rows.FnEliminateOneSaid :=
  OpenClaim.holds_of_wide 10 Try.f10 rfl rfl rfl rfl rfl rfl rfl ⟨rfl, rfl, rfl, rfl, rfl⟩ rfl rfl rfl rfl rfl (by kernel_rfl) Try.func10 (by kernel_rfl)
    (of_decide_eq_true (by kernel_rfl)) (by unfold Func.isWrapper; first | (rw [if_pos (by decide +kernel)]; kernel_rfl) | (rw [if_neg (by decide +kernel)]; exact ⟨rfl, rfl⟩))
    (fun os started H enc _ => lifted os started H enc)
end Go.Proofs.Ytaipdkfbkcknkaa.fnEliminateOne
