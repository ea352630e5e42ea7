/- Parts of the proof: Bw. -/
import Derived.ProofKit
import Derived.OpenShut
import Derived.ShutString
import Derived.ChangeOld
import Derived.Below
import Derived.Test.YtghkpmafocacoaaZBB
import Derived.Test.YtghkpmafocacoaaZBD
import Derived.Test.YtghkpmafocacoaaZAM
import Derived.Test.YtghkpmafocacoaaZAQ
import Derived.Test.YtghkpmafocacoaaZAB
import Derived.Test.YtghkpmafocacoaaZAA
namespace Go.Proofs.Ytghkpmafocacoaa
set_option maxRecDepth 100000
set_option linter.unusedVariables false
open Go.ChangeShapes Go.WideShapes Go.ChangeAt Go.RowKit
set_option maxHeartbeats 4000000 in
theorem walkBe {H : Type} (enc : TypeId × Value → H) (W : World) (base : Nat) (v0 : Value) (d0 : DataW H) (p0 : List MemPlace) (hv0 : Value.okWide Try.prog W .any base 43 v0)
    (h0 : DataW.Trod enc Try.prog W 0 (fun _ => true) true 43 v0 d0 p0) (_ : ∀ x ∈ p0, x.block < W.heap.size) :
    Calls Try.prog 13 #[v0] W fun e w' => e = .returned (.bool true) ∧ Below W.heap.size W w' := by
  obtain ⟨A, n, c, rfl, hn, hc, hb⟩ := open_bytes hv0 h0
  clear hv0 h0
  have hcM := Lib.hid hc
  have hnn : n ≤ 9223372036854775807 := by unfold maxLen at hc; omega
  clear hc
  by_cases h1 : 1048576 < n
  · go_enter Try.func13, Try.ntmps13
    go_wp2_with fail
    go_ret
    exact ⟨rfl, Below.refl _ _⟩
  go_enter Try.func13, Try.ntmps13
  go_wp2_with fail
  refine (DrawBeliefOf_any A n c _ hb hn hcM.out).mono ?_
  rintro e w1 ⟨v1, Fs, vs, x, rfl, hx, hR, hl, hgd, hB⟩
  obtain ⟨AF, cF, rfl, _, _⟩ := hR.form
  have hF1 := Lib.hid (hR.flst rfl)
  have hB1 := Lib.hid hB
  obtain ⟨m, hm⟩ : ∃ m, Fs.length = m := ⟨_, rfl⟩
  have hmh := Lib.hid hm
  rw [hm] at hF1 hl ⊢
  have hmM : m ≤ maxLen := by unfold maxLen; omega
  have hsm := gdf_small hgd
  obtain ⟨tt, htt⟩ : ∃ tt, (treeOk Fs && inB x 0 3) = tt := ⟨_, rfl⟩
  have htth := Lib.hid htt
  have c1 := Lib.hid (fun wx (hy : FLst wx wx.heap.size AF m Fs) => (show Calls Try.prog 47 #[.slice AF m cF, .int .i64 x] wx (Rtd wx (belR Fs x) tt) from by rw [← htt]; exact BeliefOf_any AF m cF Fs x wx hy hmM hsm))
  have c2 := Lib.hid (fun wx (hy : FLst wx wx.heap.size AF m Fs) => (show Calls Try.prog 51 #[.slice AF m cF, .int .i64 x] wx (Lbd wx (belR Fs x) tt) from by rw [← htt]; exact specBeliefOf_any AF m cF Fs x wx hy hmM hsm))
  have c3 := Lib.hid (fun wx (hy : FLst wx wx.heap.size AF m Fs) => (show Calls Try.prog 52 #[.slice AF m cF, .int .i64 x] wx (Rtd wx (ownR Fs x) tt) from by rw [← htt]; exact OwnOf_any AF m cF Fs x wx hy hmM hsm))
  have c4 := Lib.hid (fun wx (hy : FLst wx wx.heap.size AF m Fs) => (show Calls Try.prog 53 #[.slice AF m cF, .int .i64 x] wx (Lbd wx (ownR Fs x) tt) from by rw [← htt]; exact specOwnOf_any AF m cF Fs x wx hy hmM hsm))
  have c5 := Lib.hid (fun wx (hy : FLst wx wx.heap.size AF m Fs) => NextTo_any AF m cF Fs x wx hy hmM hsm)
  have c6 := Lib.hid (fun wx (hy : FLst wx wx.heap.size AF m Fs) => specNextTo_any AF m cF Fs x wx hy hmM hsm)
  have c7 := Lib.hid (fun wx (hy : FLst wx wx.heap.size AF m Fs) => ListOfFactors_any AF m cF Fs wx hy hmM hsm)
  have hol : (ownR Fs x).length ≤ 4 := ownR_len Fs x
  have hnl : (nextL Fs x).length ≤ 4 := by
    unfold nextL
    split
    · exact over_len (nxI_bd _ _)
    · exact Nat.zero_le _
  have hbl : (belR Fs x).length ≤ 4 := by unfold belR; split <;> simp
  unfold Rtd at c1 c3
  unfold Lbd at c2 c4 c7
  unfold Wtsd at c5 c6
  clear hR hgd hB hb hm hsm htt
  go_wp2_with fail
  refine (c1.out _ hF1.out).mono ?_
  rintro e w2 ⟨v, rfl, ho, hb⟩
  obtain ⟨D1, d1, rfl, hI⟩ := ho.frm
  have a2 := Lib.hid hI
  have hF2 := Lib.hid ((hF1.out.below hb).more hb.size)
  have hB2 := Lib.hid (hB1.out.trans (hb.mono hB1.out.size))
  clear ho hb hF1 hB1 hI c1
  go_wp2_with fail
  refine (c2.out _ hF2.out).mono ?_
  rintro e w3 ⟨v, rfl, ho, hb⟩
  obtain ⟨D2, d2, rfl, _, _⟩ := ho.form
  have b3 := Lib.hid ho.lst
  have a3 := Lib.hid ((a2.out.below hb).more hb.size)
  have hF3 := Lib.hid ((hF2.out.below hb).more hb.size)
  have hB3 := Lib.hid (hB2.out.trans (hb.mono hB2.out.size))
  clear ho hb hF2 hB2 a2 c2
  go_wp2_with fail
  refine (c3.out _ hF3.out).mono ?_
  rintro e w4 ⟨v, rfl, ho, hb⟩
  obtain ⟨D3, d3, rfl, hI⟩ := ho.frm
  have o4 := Lib.hid hI
  have a4 := Lib.hid ((a3.out.below hb).more hb.size)
  have b4 := Lib.hid ((b3.out.below hb).more hb.size)
  have hF4 := Lib.hid ((hF3.out.below hb).more hb.size)
  have hB4 := Lib.hid (hB3.out.trans (hb.mono hB3.out.size))
  clear ho hb hF3 hB3 a3 b3 hI c3
  go_wp2_with fail
  refine (c4.out _ hF4.out).mono ?_
  rintro e w5 ⟨v, rfl, ho, hb⟩
  obtain ⟨D4, d4, rfl, _, _⟩ := ho.form
  have q5 := Lib.hid ho.lst
  have o5 := Lib.hid ((o4.out.below hb).more hb.size)
  have a5 := Lib.hid ((a4.out.below hb).more hb.size)
  have b5 := Lib.hid ((b4.out.below hb).more hb.size)
  have hF5 := Lib.hid ((hF4.out.below hb).more hb.size)
  have hB5 := Lib.hid (hB4.out.trans (hb.mono hB4.out.size))
  clear ho hb hF4 hB4 a4 b4 o4 c4
  have hbM : (belR Fs x).length ≤ maxLen := by unfold maxLen; omega
  have hoM : (ownR Fs x).length ≤ maxLen := by unfold maxLen; omega
  have hnM : (nextL Fs x).length ≤ maxLen := by unfold maxLen; omega
  cases tt
  · have hnil := Lib.hid (show belR Fs x = [] from by unfold belR; rw [htth.out]; rfl)
    go_wp2_with fail
    refine (wcInts_eq D1 D2 _ _ d1 d2 (belR Fs x) (belR Fs x) _ a5.out b5.out hbM hbM rfl).mono ?_
    rintro e w6 ⟨rfl, hb⟩
    have o6 := Lib.hid ((o5.out.below hb).more hb.size)
    have q6 := Lib.hid ((q5.out.below hb).more hb.size)
    have hF6 := Lib.hid ((hF5.out.below hb).more hb.size)
    have hB6 := Lib.hid (hB5.out.trans (hb.mono hB5.out.size))
    clear hb o5 q5 hF5 hB5 a5 b5
    go_wp2_with fail
    refine (wcInts_eq D3 D4 _ _ d3 d4 (ownR Fs x) (ownR Fs x) _ o6.out q6.out hoM hoM rfl).mono ?_
    rintro e w7 ⟨rfl, hb⟩
    have hF7 := Lib.hid ((hF6.out.below hb).more hb.size)
    have hB7 := Lib.hid (hB6.out.trans (hb.mono hB6.out.size))
    clear hb hF6 hB6 o6 q6
    go_wp2_with fail
    refine (c5.out _ hF7.out).mono ?_
    rintro e w8 ⟨v, rfl, ho, hb⟩
    obtain ⟨D5, d5, rfl, _, _⟩ := ho.form
    have n8 := Lib.hid ho.lst
    have hF8 := Lib.hid ((hF7.out.below hb).more hb.size)
    have hB8 := Lib.hid (hB7.out.trans (hb.mono hB7.out.size))
    clear ho hb hF7 hB7
    go_wp2_with fail
    refine (c6.out _ hF8.out).mono ?_
    rintro e w9 ⟨v, rfl, ho, hb⟩
    obtain ⟨D6, d6, rfl, _, _⟩ := ho.form
    have p9 := Lib.hid ho.lst
    have n9 := Lib.hid ((n8.out.below hb).more hb.size)
    have hB9 := Lib.hid (hB8.out.trans (hb.mono hB8.out.size))
    clear ho hb hF8 hB8 n8
    go_wp2_with fail
    refine (wcInts_eq D5 D6 _ _ d5 d6 (nextL Fs x) (nextL Fs x) _ n9.out p9.out hnM hnM rfl).mono ?_
    rintro e w10 ⟨rfl, hb⟩
    have hB10 := Lib.hid (hB9.out.trans (hb.mono hB9.out.size))
    clear hb
    have hz : (belR Fs x).length = 0 := by rw [hnil.out]; rfl
    go_wp2_with fail
    go_ret
    exact ⟨rfl, hB10.out⟩
  · have htr : treeOk Fs = true ∧ 0 ≤ x ∧ x ≤ 3 := by
      have h := htth.out
      rw [Bool.and_eq_true] at h
      exact ⟨h.1, inB_iff.1 h.2⟩
    obtain ⟨htr, hx0, hx3⟩ := htr
    obtain ⟨V, hV, _⟩ := nat_three (v := x) ⟨hx0, hx3⟩
    obtain ⟨M, hM, hM3, hMn, hMb, hb3, hfin⟩ := bel_final htr V
    rw [← hV] at hM hb3 hfin
    have hlo := (tree_parts htr).1
    have hdl : (lofTo Fs).length = 81 := by rw [(lof_nine hlo).1]; simp
    have c8 := Lib.hid (fun wx (D : Option Addr) (d : Nat) (hy : Ils wx wx.heap.size D 81 (lofTo Fs)) => (show Calls Try.prog 57 #[.slice D 81 d, .int .i64 x] wx (Lbd wx M (lvOk (lofTo Fs) x)) from by rw [← hM]; exact MarginalOf_any D 81 d (lofTo Fs) x wx hy (by unfold maxLen; omega)))
    rw [hlo] at c7
    obtain ⟨lv, hlv⟩ : ∃ b, lvOk (lofTo Fs) x = b := ⟨_, rfl⟩
    rw [hlv] at c8
    have hMnh := Lib.hid hMn
    have hMbh := Lib.hid hMb
    have hfinh := Lib.hid hfin
    have hM3h := Lib.hid hM3
    have hdlh := Lib.hid hdl
    unfold Lbd at c8
    generalize lofTo Fs = ds at c7 c8 hdlh
    generalize belR Fs x = bs at *
    generalize ownR Fs x = ow at *
    generalize nextL Fs x = nx at *
    rw [hb3] at a5 b5 hbM ⊢
    clear htr hx0 hx3 hV hM hM3 hMn hMb hfin hlo hdl hlv hbl htth
    go_wp2_with fail
    refine (wcInts_eq D1 D2 _ _ d1 d2 bs bs _ a5.out b5.out hbM hbM rfl).mono ?_
    rintro e w6 ⟨rfl, hb⟩
    have a6 := Lib.hid ((a5.out.below hb).more hb.size)
    have o6 := Lib.hid ((o5.out.below hb).more hb.size)
    have q6 := Lib.hid ((q5.out.below hb).more hb.size)
    have hF6 := Lib.hid ((hF5.out.below hb).more hb.size)
    have hB6 := Lib.hid (hB5.out.trans (hb.mono hB5.out.size))
    clear hb o5 q5 hF5 hB5 a5 b5
    go_wp2_with fail
    refine (wcInts_eq D3 D4 _ _ d3 d4 ow ow _ o6.out q6.out hoM hoM rfl).mono ?_
    rintro e w7 ⟨rfl, hb⟩
    have a7 := Lib.hid ((a6.out.below hb).more hb.size)
    have hF7 := Lib.hid ((hF6.out.below hb).more hb.size)
    have hB7 := Lib.hid (hB6.out.trans (hb.mono hB6.out.size))
    clear hb hF6 hB6 o6 q6 a6
    go_wp2_with fail
    refine (c5.out _ hF7.out).mono ?_
    rintro e w8 ⟨v, rfl, ho, hb⟩
    obtain ⟨D5, d5, rfl, _, _⟩ := ho.form
    have n8 := Lib.hid ho.lst
    have a8 := Lib.hid ((a7.out.below hb).more hb.size)
    have hF8 := Lib.hid ((hF7.out.below hb).more hb.size)
    have hB8 := Lib.hid (hB7.out.trans (hb.mono hB7.out.size))
    clear ho hb hF7 hB7 a7
    go_wp2_with fail
    refine (c6.out _ hF8.out).mono ?_
    rintro e w9 ⟨v, rfl, ho, hb⟩
    obtain ⟨D6, d6, rfl, _, _⟩ := ho.form
    have p9 := Lib.hid ho.lst
    have n9 := Lib.hid ((n8.out.below hb).more hb.size)
    have a9 := Lib.hid ((a8.out.below hb).more hb.size)
    have hF9 := Lib.hid ((hF8.out.below hb).more hb.size)
    have hB9 := Lib.hid (hB8.out.trans (hb.mono hB8.out.size))
    clear ho hb hF8 hB8 n8 a8
    go_wp2_with fail
    refine (wcInts_eq D5 D6 _ _ d5 d6 nx nx _ n9.out p9.out hnM hnM rfl).mono ?_
    rintro e w10 ⟨rfl, hb⟩
    have a10 := Lib.hid ((a9.out.below hb).more hb.size)
    have hF10 := Lib.hid ((hF9.out.below hb).more hb.size)
    have hB10 := Lib.hid (hB9.out.trans (hb.mono hB9.out.size))
    clear hb hF9 hB9 a9 n9 p9
    go_wp2_with fail
    refine (c7.out _ hF10.out).mono ?_
    rintro e w11 ⟨v, rfl, ho, hb⟩
    obtain ⟨D7, d7, rfl, _, _⟩ := ho.form
    have s11 := Lib.hid ho.lst
    have a11 := Lib.hid ((a10.out.below hb).more hb.size)
    have hB11 := Lib.hid (hB10.out.trans (hb.mono hB10.out.size))
    clear ho hb hF10 hB10 a10
    rw [hdlh.out] at s11 ⊢
    go_wp2_with fail
    refine (c8.out _ D7 d7 s11.out).mono ?_
    rintro e w12 ⟨v, rfl, ho, hb⟩
    obtain ⟨D8, d8, rfl, _, _⟩ := ho.form
    have m12 := Lib.hid ho.lst
    have a12 := Lib.hid ((a11.out.below hb).more hb.size)
    have hB12 := Lib.hid (hB11.out.trans (hb.mono hB11.out.size))
    clear ho hb hB11 a11 s11
    rw [hM3h.out] at m12 ⊢
    obtain ⟨S, hS⟩ : ∃ S, isum M = S := ⟨_, rfl⟩
    have hSb : S ≤ 1000000000000000000 := by rw [← hS]; exact hMbh.out
    have hfS := hfinh.out
    rw [hS] at hfS
    have cS := Lib.hid (fun wx (hy : Ils wx wx.heap.size D8 3 M) => (show Calls Try.prog 42 #[.slice D8 3 d8] wx (fun e w' => e = .returned (.int .i64 S) ∧ Below wx.heap.size wx w') from by rw [← hS]; exact wcSum_any D8 3 d8 M wx hy (by decide) hMnh.out hMbh.out))
    have hfSh := Lib.hid hfS
    have hSn : 0 ≤ S := by rw [← hS]; exact isum_nn hMnh.out
    clear hS hfS
    go_wp2_with fail
    refine (cS.out _ m12.out).mono ?_
    rintro e w13 ⟨rfl, hb⟩
    have m13 := Lib.hid ((m12.out.below hb).more hb.size)
    have a13 := Lib.hid ((a12.out.below hb).more hb.size)
    have hB13 := Lib.hid (hB12.out.trans (hb.mono hB12.out.size))
    clear hb hB12 a12 m12
    by_cases hS0 : 0 < S
    · obtain ⟨hbn, hbp, hbb, hred⟩ := hfSh.out hS0
      have hredh := Lib.hid hred
      have cB := Lib.hid (fun wx (hy : Ils wx wx.heap.size D1 3 bs) => wcSum_any D1 3 d1 bs wx hy (by decide) hbn hbb)
      obtain ⟨T, hT⟩ : ∃ T, isum bs = T := ⟨_, rfl⟩
      rw [hT] at cB hbp
      clear hred hbn hbb hT
      go_wp2_with fail
      refine (cS.out _ m13.out).mono ?_
      rintro e w14 ⟨rfl, hb⟩
      have m14 := Lib.hid ((m13.out.below hb).more hb.size)
      have a14 := Lib.hid ((a13.out.below hb).more hb.size)
      have hB14 := Lib.hid (hB13.out.trans (hb.mono hB13.out.size))
      clear hb hB13 a13 m13
      by_cases hS9 : S ≤ 1000000000
      · have hrr := Lib.hid (hredh.out hS9)
        have hrl : (reduced M).length ≤ 3 := by have := reduced_len M; rw [hM3h.out] at this; exact this
        have cR1 := Lib.hid (fun wx (hy : Ils wx wx.heap.size D1 3 bs) => (show Calls Try.prog 58 #[.slice D1 3 d1] wx (Wtsd wx (reduced M)) from by rw [← hrr.out]; exact Reduced_any D1 3 d1 bs wx hy (by decide)))
        have cR2 := Lib.hid (fun wx (hy : Ils wx wx.heap.size D8 3 M) => Reduced_any D8 3 d8 M wx hy (by decide))
        unfold Wtsd at cR1 cR2
        generalize reduced M = rd at *
        clear hredh hrr
        go_wp2_with fail
        refine (cR1.out _ a14.out).mono ?_
        rintro e w15 ⟨v, rfl, ho, hb⟩
        obtain ⟨E1, e1, rfl, _, _⟩ := ho.form
        have r15 := Lib.hid ho.lst
        have m15 := Lib.hid ((m14.out.below hb).more hb.size)
        have a15 := Lib.hid ((a14.out.below hb).more hb.size)
        have hB15 := Lib.hid (hB14.out.trans (hb.mono hB14.out.size))
        clear ho hb hB14 a14 m14
        go_wp2_with fail
        refine (cR2.out _ m15.out).mono ?_
        rintro e w16 ⟨v, rfl, ho, hb⟩
        obtain ⟨E2, e2, rfl, _, _⟩ := ho.form
        have s16 := Lib.hid ho.lst
        have r16 := Lib.hid ((r15.out.below hb).more hb.size)
        have a16 := Lib.hid ((a15.out.below hb).more hb.size)
        have hB16 := Lib.hid (hB15.out.trans (hb.mono hB15.out.size))
        clear ho hb hB15 a15 m15 r15
        go_wp2_with fail
        refine (wcInts_eq E1 E2 _ _ e1 e2 rd rd _ r16.out s16.out (by unfold maxLen; omega) (by unfold maxLen; omega) rfl).mono ?_
        rintro e w17 ⟨rfl, hb⟩
        have a17 := Lib.hid ((a16.out.below hb).more hb.size)
        have hB17 := Lib.hid (hB16.out.trans (hb.mono hB16.out.size))
        clear hb hB16 a16 r16 s16
        go_wp2_with fail
        refine (cB.out _ a17.out).mono ?_
        rintro e w18 ⟨rfl, hb⟩
        have hB18 := Lib.hid (hB17.out.trans (hb.mono hB17.out.size))
        clear hb
        go_wp2_with fail
        go_ret
        exact ⟨rfl, hB18.out⟩
      · go_wp2_with fail
        refine (cB.out _ a14.out).mono ?_
        rintro e w18 ⟨rfl, hb⟩
        have hB18 := Lib.hid (hB14.out.trans (hb.mono hB14.out.size))
        clear hb
        go_wp2_with fail
        go_ret
        exact ⟨rfl, hB18.out⟩
    · have hS00 : S = 0 := by omega
      subst hS00
      clear hS0 hSn
      go_wp2_with fail
      refine (wcSum_w D1 3 d1 bs _ a13.out (by unfold maxLen; omega)).mono ?_
      rintro e w14 ⟨rfl, rfl⟩
      have m14 := Lib.hid m13.out
      have hB14 := Lib.hid hB13.out
      clear hB13
      generalize wsum bs = T
      by_cases hT : 0 < T
      · go_wp2_with fail
        go_ret
        exact ⟨rfl, hB14.out⟩
      · go_wp2_with fail
        refine (cS.out _ m14.out).mono ?_
        rintro e w15 ⟨rfl, hb⟩
        have hB15 := Lib.hid (hB14.out.trans (hb.mono hB14.out.size))
        clear hb
        go_wp2_with fail
        go_ret
        exact ⟨rfl, hB15.out⟩
end Go.Proofs.Ytghkpmafocacoaa
