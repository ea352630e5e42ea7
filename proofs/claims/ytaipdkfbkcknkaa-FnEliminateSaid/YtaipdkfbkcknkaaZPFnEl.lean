/- For every list of bytes: of the drawn factors and order the program's Eliminate and OrderOk return what the model's return; the order turned about leaves the same, and the numbers are the sums of the weights of the states that go there. No condition. -/
import Derived.Test.YtaipdkfbkcknkaaRows
import Derived.ProofKit
import Derived.OpenShut
import Derived.ShutString
import Derived.ChangeOld
import Derived.Below
import Derived.Test.YtaipdkfbkcknkaaZBB
import Derived.Test.YtaipdkfbkcknkaaZAG
import Derived.Test.YtaipdkfbkcknkaaZAB
import Derived.Test.YtaipdkfbkcknkaaZAA
namespace Go.Proofs.Ytaipdkfbkcknkaa.fnEliminate
open Go.ChangeShapes Go.WideShapes Go.ChangeAt Go.RowKit
set_option linter.unusedVariables false
set_option maxRecDepth 100000
theorem own : ownKnob Try.prog.godebug = none := by kernel_rfl
theorem laidOut : laidOutB Try.prog = true := by kernel_rfl
theorem row_put9 {ds : List Int} {j : Nat} {y : Int} : (ints ds).toArray.setIfInBounds j (.int .i64 y) = (ints (ds.set j y)).toArray := by
  unfold ints
  rw [List.setIfInBounds_toArray, List.map_set]
theorem made_row9 (n : Nat) : madeCells #[Value.int .i64 0] n = (ints (zs n)).toArray := by
  have h := made_zs n
  apply Array.ext'
  rw [h]
set_option maxHeartbeats 4000000 in
theorem walk {H : Type} (enc : TypeId × Value → H) (W : World) (base : Nat) (v0 : Value) (d0 : DataW H) (p0 : List MemPlace) (hv0 : Value.okWide Try.prog W .any base 47 v0)
    (h0 : DataW.Trod enc Try.prog W 0 (fun _ => true) true 47 v0 d0 p0) (_ : ∀ x ∈ p0, x.block < W.heap.size) :
    Calls Try.prog 9 #[v0] W fun e w' => e = .returned (.bool true) ∧ Below W.heap.size W w' := by
  obtain ⟨A, n, c, rfl, hn, hc, hb⟩ := open_bytes hv0 h0
  clear hv0 h0
  have hcM := Lib.hid hc
  have hnn : n ≤ 9223372036854775807 := by unfold maxLen at hc; omega
  clear hc
  by_cases h1 : 1048576 < n
  · go_enter Try.func9, Try.ntmps9
    go_wp2_with fail
    go_ret
    exact ⟨rfl, Below.refl _ _⟩
  go_enter Try.func9, Try.ntmps9
  go_wp2_with fail
  refine (DrawEliminate_any A n c _ hb hn hcM.out).mono ?_
  rintro e w1 ⟨v1, u1, Fs, vs, os, rfl, hR, hO, hl, hol, hsm, hB⟩
  obtain ⟨AF, cF, rfl, _, _⟩ := hR.form
  obtain ⟨Dd, dd, rfl, hdd, hddM⟩ := hO.form
  have hF1 := Lib.hid (hR.flst0 rfl)
  have hD1 := Lib.hid hO.lst
  have hB1 := Lib.hid hB
  obtain ⟨m, hm⟩ : ∃ m, Fs.length = m := ⟨_, rfl⟩
  obtain ⟨nd, hnd⟩ : ∃ nd, os.length = nd := ⟨_, rfl⟩
  have hndh := Lib.hid hnd
  rw [hm] at hF1 hl ⊢
  rw [hnd] at hD1 hol hdd ⊢
  have hmM : m ≤ maxLen := by unfold maxLen; omega
  have hndM : nd ≤ maxLen := by unfold maxLen; omega
  obtain ⟨i0, hi0, hz0, hz1', hz2'⟩ := info_parts info_int
  have cE := Lib.hid (fun (D : Option Addr) (cd : Nat) (os' : List Int) wx (hx : FLst0 wx wx.heap.size AF m Fs) (hy : Ils wx wx.heap.size D nd os') => Eliminate_any AF D m cF nd cd Fs os' wx hx.1 hmM hsm hy hndM)
  have cS := Lib.hid (fun wx (hx : FLst0 wx wx.heap.size AF m Fs) (hy : Ils wx wx.heap.size Dd nd os) => specEliminate_any AF Dd m cF nd dd Fs os wx hx hmM hsm hy hdd hddM)
  have cL := Lib.hid (fun wx (hx : FLst0 wx wx.heap.size AF m Fs) => ListOfFactors_any AF m cF Fs wx hx.1 hmM hsm)
  have cO := Lib.hid (fun wx hx => OrderOk_any Dd nd dd os wx hx hndM)
  have cSO := Lib.hid (fun wx hx => specOrderOk_any Dd nd dd os wx hx hdd hddM)
  have hTl := elimTo_len Fs os
  have hnone := Lib.hid (fun (h : okElO Fs os = false) => show (elimTo Fs os).ns.length = 0 from by unfold elimTo; rw [h]; rfl)
  have hyes := Lib.hid (fun (h : okElO Fs os = true) => show (elimTo Fs os = ⟨over (lefO os), ptN Fs 15 (lefO os) 81⟩ ∧ elimTo Fs os.reverse = elimTo Fs os ∧ okElO Fs os.reverse = true) ∧ listOk Fs = true ∧ (over (lefO os)).length + os.length = 4 from by
    have h' := h
    unfold okElO at h'
    rw [Bool.and_eq_true] at h'
    obtain ⟨r1, r2⟩ := elimTo_rev h
    exact ⟨⟨elimTo_row h, r1, r2⟩, h'.1, (order_rev h'.2).2.2⟩)
  obtain ⟨T, hT⟩ : ∃ T, elimTo Fs os = T := ⟨_, rfl⟩
  obtain ⟨bb, hbb⟩ : ∃ bb, okElO Fs os = bb := ⟨_, rfl⟩
  rw [hT] at hTl hnone hyes
  rw [hT, hbb] at cS
  rw [hbb] at hnone hyes
  have cE1 := Lib.hid (fun wx hx hy => cE.out Dd dd os wx hx hy)
  rw [hT, hbb] at cE1
  obtain ⟨hT1, hT2⟩ := hTl
  generalize orderOk os = ob at cO cSO
  have hnn1 : T.ns.length ≤ maxLen := by unfold maxLen; omega
  have hnn2 : T.vs.length ≤ maxLen := by unfold maxLen; omega
  unfold Fbd at cE cS cE1
  unfold Lbd at cL
  clear hR hO hsm hB hb hm hnd hT hbb
  go_wp2_with fail
  refine (cE1.out _ hF1.out hD1.out).mono ?_
  rintro e w2 ⟨p1, p2, rfl, hP, hb⟩
  obtain ⟨AP1, cP1, rfl, _, _⟩ := hP.1.form
  obtain ⟨AP2, cP2, rfl, _, _⟩ := hP.2.1.form
  have hal : Below w2.heap.size w2 (w2.alloc (.cells #[.slice AP1 T.vs.length cP1, .slice AP2 T.ns.length cP2] 36)) := (Below.refl _ _).alloc (Nat.le_refl _) _
  have hP3 := Lib.hid (hP.fac.below hal)
  have hcP3 := Lib.hid (Has.new w2 36 #[.slice AP1 T.vs.length cP1, .slice AP2 T.ns.length cP2])
  have hb9 := hb.trans (hal.mono hb.size)
  have hF3 := Lib.hid ((hF1.out.below hb9).more hb9.size)
  have hD3 := Lib.hid ((hD1.out.below hb9).more hb9.size)
  have hB3 := Lib.hid (hB1.out.trans (hb9.mono hB1.out.size))
  clear hP hb hal hb9 hF1 hD1 hB1
  go_wp2_with fail
  generalize w2.alloc (.cells #[.slice AP1 T.vs.length cP1, .slice AP2 T.ns.length cP2] 36) = w3 at hP3 hcP3 hF3 hD3 hB3 ⊢
  generalize w2.heap.size = G2 at hcP3 ⊢
  refine (cS.out _ hF3.out hD3.out).mono ?_
  rintro e w4 ⟨q1, q2, rfl, hQ, hb⟩
  obtain ⟨AQ1, cQ1, rfl, _, _⟩ := hQ.1.form
  obtain ⟨AQ2, cQ2, rfl, _, _⟩ := hQ.2.1.form
  have hal : Below w4.heap.size w4 (w4.alloc (.cells #[.slice AQ1 T.vs.length cQ1, .slice AQ2 T.ns.length cQ2] 36)) := (Below.refl _ _).alloc (Nat.le_refl _) _
  have hQ5 := Lib.hid (hQ.fac.below hal)
  have hcQ5 := Lib.hid (Has.new w4 36 #[.slice AQ1 T.vs.length cQ1, .slice AQ2 T.ns.length cQ2])
  have hb9 := hb.trans (hal.mono hb.size)
  have hP5 := Lib.hid (hP3.out.below hb9)
  have hcP5 := Lib.hid (Has.kept (by exact hcP3.out) hb9)
  have hF5 := Lib.hid ((hF3.out.below hb9).more hb9.size)
  have hD5 := Lib.hid ((hD3.out.below hb9).more hb9.size)
  have hB5 := Lib.hid (hB3.out.trans (hb9.mono hB3.out.size))
  have hcp := hcP5.out.cell
  have hcq := hcQ5.out.cell
  clear hQ hb hal hb9 hF3 hD3 hB3 hP3 hcP3
  go_wp2_with fail
  clear hcp hcq
  generalize w4.alloc (.cells #[.slice AQ1 T.vs.length cQ1, .slice AQ2 T.ns.length cQ2] 36) = w5 at hQ5 hcQ5 hP5 hcP5 hF5 hD5 hB5 ⊢
  refine (wcFactor_any AP1 AP2 AQ1 AQ2 T.vs.length cP1 T.ns.length cP2 T.vs.length cQ1 T.ns.length cQ2 T _ hP5.out hQ5.out hnn2 hnn1 hnn2 hnn1).mono ?_
  rintro e w6 ⟨rfl, hb⟩
  have hP6 := Lib.hid (hP5.out.below hb)
  have hcP6 := Lib.hid (Has.kept (by exact hcP5.out) hb)
  have hF6 := Lib.hid ((hF5.out.below hb).more hb.size)
  have hD6 := Lib.hid ((hD5.out.below hb).more hb.size)
  have hB6 := Lib.hid (hB5.out.trans (hb.mono hB5.out.size))
  clear hb hF5 hD5 hB5 hP5 hcP5 hQ5 hcQ5
  go_wp2_with fail
  refine (cO.out _ hD6.out).mono ?_
  rintro e w' ⟨rfl, rfl⟩
  go_wp2_with fail
  refine (cSO.out _ hD6.out).mono ?_
  rintro e w' ⟨rfl, q9, rfl⟩
  have hb := below_drewN (Below.refl w6.heap.size w6) q9
  have hP7 := Lib.hid (hP6.out.below hb)
  have hcP7 := Lib.hid (Has.kept (by exact hcP6.out) hb)
  have hF7 := Lib.hid ((hF6.out.below hb).more hb.size)
  have hD7 := Lib.hid ((hD6.out.below hb).more hb.size)
  have hB7 := Lib.hid (hB6.out.trans (hb.mono hB6.out.size))
  clear hb hF6 hD6 hB6 hP6 hcP6
  generalize w6.drewN q9 = w7 at *
  cases bb
  · have hn0 : T.ns.length = 0 := hnone.out rfl
    have hcp := hcP7.out.cell
    go_wp2_with fail
    go_ret
    exact ⟨rfl, hB7.out⟩
  · obtain ⟨⟨hTe, hTr, hTk⟩, hLk, hT4⟩ := hyes.out rfl
    have cE2 := Lib.hid (fun (D : Option Addr) (cd : Nat) wx hx hy => cE.out D cd os.reverse wx hx hy)
    rw [hTr, hTk] at cE2
    obtain ⟨h8, hf9, hfine⟩ := list_fine hLk
    have hp0 := pow_bd h8 hf9 (k := 0) (by decide)
    have hpKh := Lib.hid (show pb Fs ≤ 10000000000 by simpa using hp0)
    have hfh := Lib.hid hfine
    have hlen9 := show (lofTo Fs).length = 81 from by unfold lofTo; rw [if_pos hLk]; simp
    have hget9 := Lib.hid (fun (s : Nat) (hs : s < 81) => show (lofTo Fs)[s]? = some (prodAt Fs (s : Int)) from by unfold lofTo; rw [if_pos hLk, List.getElem?_map, List.getElem?_range hs]; rfl)
    generalize lofTo Fs = ls at cL hlen9 hget9
    generalize listOk Fs = b9 at cL
    have hlb := lefO_bd os
    obtain ⟨L, hL⟩ := fin16 hlb
    have hLo := over_ok L
    rw [hL] at hTe hT4
    have hov : ∀ v ∈ over (L.val : Int), 0 ≤ v ∧ v ≤ 3 := (vars_len hLo.1).2
    have hovh := Lib.hid hov
    have hTv : T.vs = over (L.val : Int) := by rw [hTe]
    have hTn : T.ns = ptN Fs 15 (L.val : Int) 81 := by rw [hTe]
    have hTnl : T.ns.length = 3 ^ (over (L.val : Int)).length := by rw [hTn, ptN_len]
    have hTvh := Lib.hid hTv
    have hTnh := Lib.hid hTn
    obtain ⟨N, hN⟩ : ∃ N, T.ns.length = N := ⟨_, rfl⟩
    obtain ⟨K, hK⟩ : ∃ K, T.vs.length = K := ⟨_, rfl⟩
    have hNh := Lib.hid hN
    have hKh := Lib.hid hK
    have hNK := Lib.hid (show N = 3 ^ (over (L.val : Int)).length by rw [← hN]; exact hTnl)
    have hK4 : K + nd = 4 := by rw [← hK, hTv, ← hndh.out]; exact hT4
    have hK4i : (K : Int) + (nd : Int) = 4 := by omega
    have hN81 : N ≤ 81 := by omega
    have hmk : ∀ wx : World, (Instr.makeSlice 22 (.int .i64 (N : Int)) (.int .i64 (N : Int))).run Try.prog wx = .ok (.slice (some ⟨wx.heap.size, 0, none⟩) N N) (wx.alloc (.cells (ints (zs N)).toArray 3)) := by
      intro wx
      have hr := run_make (P := Try.prog) wx 22 3 i0 _ Try.underlying22 hi0 hz0 .i64 .i64 (N : Int) (N : Int) (by omega) (by omega) (by rw [hz2']; omega) (by omega)
      rw [hz1', Int.toNat_natCast, Nat.mul_one] at hr
      rw [← made_row9 N]
      exact hr
    have hmkh := Lib.hid hmk
    have hP8 := Lib.hid (show FacW w7 w7.heap.size AP1 K AP2 N T from by have := hP7.out; rwa [hN, hK] at this)
    have hcP8 := Lib.hid (show Has w7 G2 36 #[.slice AP1 K cP1, .slice AP2 N cP2] from by have := hcP7.out; rwa [hN, hK] at this)
    rw [hN, hK]
    rw [hK] at hT1
    clear hyes hnone hTe hTr hTk hLk hT4 h8 hf9 hfine hp0 hlb hL hLo hov hTv hTn hTnl hN hK hmk hP7 hcP7 cE cE1 cS cO cSO hnn1 hnn2 hT2
    have hal9 := Lib.hid (show Below w7.heap.size w7 (w7.alloc (.cells #[] 3)) from (Below.refl _ _).alloc (Nat.le_refl _) _)
    have hI0 := Lib.hid (show IOwn (w7.alloc (.cells #[] 3)) w7.heap.size (.slice (some ⟨w7.heap.size, 0, none⟩) 0 0) (os.drop nd).reverse from by
      rw [List.drop_of_length_le (by rw [hndh.out]; exact Nat.le_refl _)]
      exact ⟨rfl, .inr ⟨w7.heap.size, 0, #[], rfl, Nat.le_refl _, Has.new w7 _ _, Nat.le_refl _, Nat.zero_le _, rfl, rfl⟩⟩)
    go_wp2_with fail
    generalize w7.alloc (.cells #[] 3) = W0 at hal9 hI0 ⊢
    go_loopg [9, 10] nd (fun gq l y wr => ∃ r : Nat, r ≤ nd ∧ gq = r ∧ y = .int .i64 ((r : Int) - 1) ∧ IOwn wr w7.heap.size l (os.drop r).reverse ∧ Below w7.heap.size w7 wr)
    case atStart => exact ⟨nd, Nat.le_refl _, rfl, by go_num, hI0.out, hal9.out⟩
    case round =>
      obtain ⟨r, hrn, hgn, rfl, hI, hBw⟩ := hrel
      have hgr : gk = r := hgn
      have hIl : (os.drop r).reverse.length = nd - r := by rw [List.length_reverse, List.length_drop, hndh.out]
      obtain ⟨Ab, cb, rfl, _, _⟩ := hI.form
      rw [hIl]
      rw [hIl] at hI
      have kI := Lib.hid hI
      have kIl := Lib.hid hIl
      have kB := Lib.hid hBw
      have hzw := hBw.size
      clear hgn hIl
      by_cases hlt : 0 < r
      · obtain ⟨i, hi⟩ : ∃ i : Nat, r = i + 1 := ⟨r - 1, by omega⟩
        subst hi
        have hie : ((i + 1 : Nat) : Int) - 1 = (i : Int) := by omega
        rw [hie]
        obtain ⟨g, off, d, rfl, hg, hd, cd0⟩ := (hD7.out.below hBw).at_ (show i < nd by omega)
        have hi0' : (0 : Int) ≤ (i : Int) := by omega
        have hi1' : (i : Int) < (nd : Int) := by omega
        have hnx := Lib.hid (rev_drop hd)
        have hO5 := Lib.hid (show (wr.alloc (.cells #[.int .i64 d] 3)).ownsRow w7.heap.size 3 1 (.slice Ab (nd - (i + 1)) cb) (nd - (i + 1)) (ints (os.drop (i + 1)).reverse) from by
          have h9 := kI.out.alloc (.cells #[.int .i64 d] 3)
          unfold IOwn at h9
          rwa [kIl.out] at h9)
        have hnw := Lib.hid (new_one wr (.int .i64 d) 3)
        have hB5 := Lib.hid (kB.out.alloc hzw (.cells #[.int .i64 d] 3))
        have hsz5 := Lib.hid hB5.out.size
        obtain ⟨z9, hz9⟩ : ∃ z9, nd - (i + 1) = z9 := ⟨_, rfl⟩
        have hz9h := Lib.hid hz9
        have hz95 : z9 ≤ 5 := by omega
        rw [hz9] at hO5 ⊢
        clear hI hd hie hz9 hBw
        go_wp2_with (at_builtin; refine wpList_append_lies _ rfl (.tmp 70) (.tmp 75) 22 rfl w7.heap.size 3 i0 _ 1 8 Try.underlying22 hi0 hz0 hz1' hz2' rfl (by decide) (.slice Ab z9 cb) z9 (ints (os.drop (i + 1)).reverse) rfl (by exact hO5.out) ⟨wr.heap.size, 0, none⟩ 1 1 [.int .i64 d] rfl rfl (by exact hnw.out) (by simp [Value.oneCell']) (by omega) (by unfold maxLen; omega) (by omega) (by exact hsz5.out) (wr.heap.size + 1) (by simp) ?_; intro gr cr2 w8 hown8 hgrow8 hat8 hlt8)
        have nI := Lib.hid (show IOwn w8 w7.heap.size (.slice (some ⟨gr, 0, none⟩) (z9 + 1) cr2) (os.drop i).reverse from by
          unfold IOwn
          have hl9 : (os.drop i).reverse.length = z9 + 1 := by rw [List.length_reverse, List.length_drop, hndh.out]; have := hz9h.out; omega
          rw [hl9, hnx.out, ints_append]
          exact hown8)
        have nB := Lib.hid (hB5.out.grown hgrow8 hsz5.out (fun b e => (World.ownsRow.lt hO5.out b e).1))
        clear hown8 hgrow8 hat8
        go_wp2_with fail
        go_roundg i
        case measure => omega
        case rel => exact ⟨i, by omega, rfl, by go_num, nI.out, nB.out⟩
      · obtain rfl : r = 0 := by omega
        have hIr := Lib.hid (show Ils wr wr.heap.size Ab nd os.reverse from by have := hI.lst; rwa [List.drop_zero, Nat.sub_zero] at this)
        rw [Nat.sub_zero]
        have hP9 := Lib.hid (hP8.out.below hBw)
        have hcP9 := Lib.hid (Has.kept (by exact hcP8.out) hBw)
        have hF9 := Lib.hid ((hF7.out.below hBw).more hzw)
        have hB9 := Lib.hid (hB7.out.trans (hBw.mono hB7.out.size))
        obtain ⟨w80, rfl⟩ : ∃ x : World, x = wr := ⟨_, rfl⟩
        obtain ⟨g80, rfl⟩ : ∃ x : Nat, x = gk := ⟨_, rfl⟩
        clear hI kI kIl kB hBw hzw hgr hP8 hcP8 hF7 hD7 hB7
        go_wp2_with fail
        refine (cE2.out Ab cb _ hF9.out hIr.out).mono ?_
        rintro e w10 ⟨r1, r2, rfl, hQ, hb⟩
        obtain ⟨AR1, cR1, rfl, _, _⟩ := hQ.1.form
        obtain ⟨AR2, cR2, rfl, _, _⟩ := hQ.2.1.form
        have hal : Below w10.heap.size w10 (w10.alloc (.cells #[.slice AR1 T.vs.length cR1, .slice AR2 T.ns.length cR2] 36)) := (Below.refl _ _).alloc (Nat.le_refl _) _
        have hR11 := Lib.hid (hQ.fac.below hal)
        have hcR11 := Lib.hid (Has.new w10 36 #[.slice AR1 T.vs.length cR1, .slice AR2 T.ns.length cR2])
        have hb9 := hb.trans (hal.mono hb.size)
        have hP11 := Lib.hid (hP9.out.below hb9)
        have hcP11 := Lib.hid (Has.kept (by exact hcP9.out) hb9)
        have hF11 := Lib.hid ((hF9.out.below hb9).more hb9.size)
        have hB11 := Lib.hid (hB9.out.trans (hb9.mono hB9.out.size))
        rw [hNh.out, hKh.out] at hR11 hcR11
        rw [hNh.out, hKh.out] at hP11 hcP11 hF11 hB11 ⊢
        clear hQ hb hal hb9 hP9 hcP9 hF9 hB9 hIr
        have hcp := hcP11.out.cell
        go_wp2_with fail
        clear hcp
        generalize w10.alloc (.cells #[.slice AR1 K cR1, .slice AR2 N cR2] 36) = w11 at hR11 hcR11 hP11 hcP11 hF11 hB11 ⊢
        refine (cL.out _ hF11.out).mono ?_
        rintro e w12 ⟨v, rfl, ho, hb⟩
        obtain ⟨Da, da, rfl, _, _⟩ := ho.form
        have hIa := Lib.hid ho.lst
        have hR12 := Lib.hid (hR11.out.below hb)
        have hcR12 := Lib.hid (Has.kept (by exact hcR11.out) hb)
        have hP12 := Lib.hid (hP11.out.below hb)
        have hcP12 := Lib.hid (Has.kept (by exact hcP11.out) hb)
        have hB12 := Lib.hid (hB11.out.trans (hb.mono hB11.out.size))
        rw [hlen9] at hIa ⊢
        have hcp := hcP12.out.cell
        have hmk := hmkh.out
        have hal : Below w12.heap.size w12 (w12.alloc (.cells (ints (zs N)).toArray 3)) := (Below.refl _ _).alloc (Nat.le_refl _) _
        have hRow := Lib.hid (show Has (w12.alloc (.cells (ints (zs N)).toArray 3)) w12.heap.size 3 (ints (ptN Fs 15 (L.val : Int) 0)).toArray from by rw [ptN_zero, ← hNK.out]; exact Has.new _ _ _)
        have hBr := Lib.hid hal
        clear ho hb hR11 hcR11 hP11 hcP11 hF11 hB11 hal hlen9
        go_wp2_with fail
        clear hcp hmk
        generalize w12.alloc (.cells (ints (zs N)).toArray 3) = w13 at hRow hBr ⊢
        obtain ⟨G, hG⟩ : ∃ G, w12.heap.size = G := ⟨_, rfl⟩
        have hGh := Lib.hid hG
        rw [hG] at hRow ⊢
        clear hG
        go_loopg [94] 81 (fun gq y wr => ∃ s : Nat, s ≤ 81 ∧ gq = 81 - s ∧ y = .int .i64 s ∧ Has wr G 3 (ints (ptN Fs 15 (L.val : Int) s)).toArray ∧ Below w12.heap.size w12 wr)
        case atStart => exact ⟨0, Nat.zero_le _, rfl, rfl, hRow.out, hBr.out⟩
        case round =>
          obtain ⟨s, hs, hgn, rfl, hRw, hBw⟩ := hrel
          have hgs : gk = 81 - s := hgn
          have kR := Lib.hid hRw
          have kB := Lib.hid hBw
          clear hgn
          by_cases hlt : s < 81
          · obtain ⟨g, off, d, rfl, hg, hd, cd0⟩ := (hIa.out.below hBw).at_ hlt
            have hde := Lib.hid (show d = prodAt Fs (s : Int) from Option.some.inj (hd.symm.trans (hget9.out s hlt)))
            have hs0 : (0 : Int) ≤ (s : Int) := by omega
            have hs1 : (s : Int) < 81 := by omega
            have hP14 := Lib.hid (hP12.out.below hBw)
            have hcp := (Has.kept (by exact hcP12.out) hBw).cell
            have hcph := Lib.hid hcp
            have hst : 0 ≤ (s : Int) ∧ (s : Int) ≤ 80 := by omega
            have hsth := Lib.hid hst
            obtain ⟨w81, rfl⟩ : ∃ x : World, x = wr := ⟨_, rfl⟩
            obtain ⟨g81, rfl⟩ : ∃ x : Nat, x = gk := ⟨_, rfl⟩
            clear hd hBw hRw hst
            go_wp2_with fail
            clear hcp
            go_loopg [18, 19] K (fun gq p y wr => ∃ r : Nat, r ≤ K ∧ gq = r ∧ y = .int .i64 ((r : Int) - 1) ∧ p = .int .i64 (idx (T.vs.drop r) (s : Int)) ∧ wr = w81)
            case atStart => exact ⟨K, Nat.le_refl _, rfl, by go_num, by rw [List.drop_of_length_le (by rw [hKh.out]; exact Nat.le_refl _)]; rfl, rfl⟩
            case round =>
              obtain ⟨r, hrK, hgn, rfl, rfl, rfl⟩ := hrel
              have hgr : gk = r := hgn
              clear hgn
              by_cases hr0 : 0 < r
              · obtain ⟨i, hi⟩ : ∃ i : Nat, r = i + 1 := ⟨r - 1, by omega⟩
                subst hi
                have hie : ((i + 1 : Nat) : Int) - 1 = (i : Int) := by omega
                rw [hie]
                obtain ⟨g7, off7, v7, rfl, hg7, hv7, cv7⟩ := (show Ils _ _ AP1 K T.vs from hP14.out.1).at_ (show i < K by omega)
                have hi0' : (0 : Int) ≤ (i : Int) := by omega
                have hi1' : (i : Int) < (K : Int) := by omega
                have hvb : 0 ≤ v7 ∧ v7 ≤ 3 := by
                  have := List.mem_of_getElem? hv7
                  rw [hTvh.out] at this
                  exact hovh.out v7 this
                have hid := idx_drop (st := (s : Int)) hv7
                have hb7 := value_bd hsth.out hvb
                have hbI := idx_bd9 hsth.out (l := T.vs.drop (i + 1)) (fun v hv => by
                  have := List.mem_of_mem_drop hv
                  rw [hTvh.out] at this
                  exact hovh.out v this)
                have hl7 : (T.vs.drop (i + 1)).length ≤ 4 := by rw [List.length_drop, hKh.out]; omega
                have h81 := pow_four hl7
                have cV := Lib.hid (fun wx => ValueAt_any (s : Int) v7 wx)
                have hidh := Lib.hid hid
                have hcp := hcph.out
                generalize idx (T.vs.drop (i + 1)) (s : Int) = a7 at *
                generalize valueAt (s : Int) v7 = b7 at *
                have hA0 : 0 ≤ a7 := hbI.1
                have hA1 : a7 ≤ 81 := by omega
                have hwm1 : IntKind.i64.wrap (3 * a7) = 3 * a7 := by rw [IntKind.wrap_i64]; omega
                have hwm2 : IntKind.i64.wrap (3 * a7 + b7) = 3 * a7 + b7 := by rw [IntKind.wrap_i64]; omega
                clear hv7 hid hbI hl7 h81 hie
                go_wp2_with fail
                refine (cV.out _).mono ?_
                rintro e w' ⟨rfl, rfl⟩
                clear hcp
                go_wp2_with fail
                go_roundg i
                case measure => omega
                case rel => exact ⟨i, by omega, rfl, by go_num, by rw [hidh.out], rfl⟩
              · obtain rfl : r = 0 := by omega
                have hiN : idx (T.vs.drop 0) (s : Int) = idx (over (L.val : Int)) (s : Int) := by rw [List.drop_zero, hTvh.out]
                rw [hiN]
                have hbI := idx_bd9 hsth.out (l := over (L.val : Int)) hovh.out
                obtain ⟨j, hj⟩ : ∃ j : Nat, idx (over (L.val : Int)) (s : Int) = (j : Int) := ⟨(idx (over (L.val : Int)) (s : Int)).toNat, by omega⟩
                have hjh := Lib.hid hj
                rw [hj] at hbI ⊢
                have hjN : j < N := by rw [hNK.out]; omega
                have hj0 : (0 : Int) ≤ (j : Int) := by omega
                have hj1 : (j : Int) < (N : Int) := by omega
                have hpl : j < (ptN Fs 15 (L.val : Int) s).length := by rw [ptN_len, ← hNK.out]; exact hjN
                obtain ⟨x0, hx0⟩ : ∃ x0, (ptN Fs 15 (L.val : Int) s)[j]? = some x0 := ⟨_, List.getElem?_eq_getElem hpl⟩
                have hxb := ptN_bd hfh.out (show s ≤ 81 by omega) hx0
                have hpK9 := hpKh.out
                have hdb := prodAt_bd hfh.out hsth.out Fs.length
                rw [List.take_of_length_le (Nat.le_refl _), ← hde.out] at hdb
                have hadd := Lib.hid (ptN_add Fs (show vo 15 (s : Int) = (s : Int) from vo_all ⟨s, hlt⟩) hjh.out hx0)
                rw [← hde.out] at hadd
                have hrc : wr.cell? ⟨G, j, none⟩ = some (.int .i64 x0) := by
                  rw [kR.out.cell]
                  show ((ints _).toArray)[j]? = _
                  rw [List.getElem?_toArray]
                  exact ints_get hx0
                have hrf := kR.out.frozen
                have hwm : IntKind.i64.wrap (x0 + d) = x0 + d := by rw [IntKind.wrap_i64]; omega
                have nR := Lib.hid (show Has (wr.setCell ⟨G, j, none⟩ (.int .i64 (x0 + d))) G 3 (ints (ptN Fs 15 (L.val : Int) (s + 1))).toArray from by rw [← hadd.out, ← row_put9]; exact kR.out.put j _)
                have nB := Lib.hid (kB.out.setCell (p := ⟨G, j, none⟩) (by rw [hGh.out]; exact Nat.le_refl _) (.int .i64 (x0 + d)))
                clear hiN hbI hj hpl hx0 hxb hpK9 hdb
                go_wp2_with fail
                go_roundg (81 - (s + 1))
                case measure => omega
                case rel => exact ⟨s + 1, by omega, rfl, by go_num, nR.out, nB.out⟩
          · obtain rfl : s = 81 := by omega
            have hIr := Lib.hid (IOwn.of_has (base := 0) (ds := T.ns) (n := N) (by have := hRw; rwa [← hTnh.out] at this) rfl hNh.out (Nat.zero_le _) (by unfold maxLen; omega)).lst
            have hP14 := Lib.hid (hP12.out.below hBw)
            have hR14 := Lib.hid (hR12.out.below hBw)
            have hcP14 := Lib.hid (Has.kept (by exact hcP12.out) hBw)
            have hcR14 := Lib.hid (Has.kept (by exact hcR12.out) hBw)
            have hB14 := Lib.hid (hB12.out.trans (hBw.mono hB12.out.size))
            have hcp := hcP14.out.cell
            have hcr := hcR14.out.cell
            have hKM : K ≤ maxLen := by unfold maxLen; omega
            have hNM : N ≤ maxLen := by unfold maxLen; omega
            clear hRw hBw
            go_wp2_with fail
            refine (wcFactor_any AP1 AP2 AR1 AR2 K cP1 N cP2 K cR1 N cR2 T _ hP14.out hR14.out hKM hNM hKM hNM).mono ?_
            rintro e w15 ⟨rfl, hb⟩
            have hP15 := Lib.hid (hP14.out.below hb)
            have hI15 := Lib.hid ((hIr.out.below hb).more hb.size)
            have hcP15 := Lib.hid (Has.kept (by exact hcP14.out) hb)
            have hB15 := Lib.hid (hB14.out.trans (hb.mono hB14.out.size))
            clear hcp hcr hb
            have hcp := hcP15.out.cell
            go_wp2_with fail
            refine (wcInts_eq (some ⟨G, 0, none⟩) AP2 N N N cP2 T.ns T.ns _ hI15.out hP15.out.2 hNM hNM rfl).mono ?_
            rintro e w16 ⟨rfl, hb⟩
            have hcP16 := Lib.hid (Has.kept (by exact hcP15.out) hb)
            have hB16 := Lib.hid (hB15.out.trans (hb.mono hB15.out.size))
            clear hcp hb
            have hcp := hcP16.out.cell
            have hwm : IntKind.i64.wrap ((K : Int) + (nd : Int)) = 4 := by rw [hK4i]; rfl
            go_wp2_with fail
            go_ret
            exact ⟨rfl, hB16.out⟩
set_option maxRecDepth 100000 in
theorem lifted (os : Os) (started : os.Started) (H : Type) (enc : TypeId × Value → H) :
    ReturnsInHanded {} Try.checked os 9 .any (Rows.fnEliminateSpec.pre6 enc Try.prog Try.f9 Rows.fnEliminateRow.domain false) (Rows.fnEliminateSpec.post enc Try.prog Try.f9 false true false false) := by
  refine returnsInHanded_of_change (C := Try.checked) own started (by kernel_rfl) Try.func9
    (ChangeSpec.witness6 (enc := enc) (C := Try.checked) false ⟨#[], #[.slice none 0 0], []⟩ 8 (by kernel_rfl) (by kernel_rfl) (by kernel_rfl) (by kernel_rfl)) ?_
  intro W base args ds gs before hval0 hW hcnd _
  have hval : ∀ (j : Nat) t v, Try.f9.params[j]? = some t → args[j]? = some v → Value.okWide Try.prog W .any base t v := hval0
  have hW' := hW
  obtain ⟨p, q, hA0, hV, rfl, hfz, hnd⟩ := hW
  have hA : DataW.TrodAll enc Try.prog W 0 (fun _ => true) true Try.f9.params.toList args.toList ds p := hA0
  rw [Try.params9] at hA hval
  obtain ⟨v0, vs0, d0, ds0, p0, q0, hargs, rfl, rfl, h0, r0⟩ := trodAll_cons hA
  obtain ⟨rfl, rfl, rfl⟩ := trodAll_nil r0
  obtain rfl : args = #[v0] := by cases args; simp_all
  obtain ⟨rfl, rfl⟩ := trodVars_none hV
  have lt0 : ∀ x ∈ p0, x.block < W.heap.size := by
    obtain ⟨m, hm⟩ := h0
    exact DataW.trod_lt m _ _ _ hm
  clear hA0 hval0
  refine (walk enc W base v0 d0 p0 (hval 0 47 v0 rfl rfl) h0 lt0).mono fun e W' ⟨he, bel⟩ => ?_
  subst he
  exact ⟨_, rfl, _, _, _, [], _, [], hW', trodAll_mk1 (shut_bool Try.underlying4 _), (trodAll_cons_mk (Below.trod laidOut (by kernel_rfl) (of_decide_eq_true (by kernel_rfl)) h0 bel lt0) trodAll_mk0), rfl, bel.frame _, fun h => by cases h⟩
theorem proved : Rows.FnEliminateSaid :=
  OpenClaim.holds_of_wide 9 Try.f9 rfl rfl rfl rfl rfl rfl rfl ⟨rfl, rfl, rfl, rfl, rfl⟩ rfl rfl rfl rfl rfl (by kernel_rfl) Try.func9 (by kernel_rfl)
    (of_decide_eq_true (by kernel_rfl)) (by unfold Func.isWrapper; first | (rw [if_pos (by decide +kernel)]; kernel_rfl) | (rw [if_neg (by decide +kernel)]; exact ⟨rfl, rfl⟩))
    (fun os started H enc _ => lifted os started H enc)
end Go.Proofs.Ytaipdkfbkcknkaa.fnEliminate
