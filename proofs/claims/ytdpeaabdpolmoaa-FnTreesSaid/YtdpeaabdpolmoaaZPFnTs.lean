/- For every list of bytes: of the drawn factors the program's TreesOf returns what the model's returns and what TreeOk says; of a forest each variable's weights add up to those of its least one, which is the least one of itself and not greater, and trees and pairs together are as many as the variables. No condition. -/
import Derived.Test.YtdpeaabdpolmoaaRows
import Derived.ProofKit
import Derived.OpenShut
import Derived.ShutString
import Derived.ChangeOld
import Derived.Below
import Derived.Test.YtdpeaabdpolmoaaZAN
import Derived.Test.YtdpeaabdpolmoaaZAS
import Derived.Test.YtdpeaabdpolmoaaZAU
import Derived.Test.YtdpeaabdpolmoaaZAB
import Derived.Test.YtdpeaabdpolmoaaZAA
namespace Go.Proofs.Ytdpeaabdpolmoaa.fnTrees
open Go.ChangeShapes Go.WideShapes Go.ChangeAt Go.RowKit
set_option linter.unusedVariables false
set_option maxRecDepth 100000
theorem own : ownKnob Try.prog.godebug = none := by kernel_rfl
theorem laidOut : laidOutB Try.prog = true := by kernel_rfl
set_option maxHeartbeats 4000000 in
theorem walk {H : Type} (enc : TypeId × Value → H) (W : World) (base : Nat) (v0 : Value) (d0 : DataW H) (p0 : List MemPlace) (hv0 : Value.okWide Try.prog W .any base 40 v0)
    (h0 : DataW.Trod enc Try.prog W 0 (fun _ => true) true 40 v0 d0 p0) (_ : ∀ x ∈ p0, x.block < W.heap.size) :
    Calls Try.prog 10 #[v0] W fun e w' => e = .returned (.bool true) ∧ Below W.heap.size W w' := by
  obtain ⟨A, n, c, rfl, hn, hc, hb⟩ := open_bytes hv0 h0
  clear hv0 h0
  have hcM := Lib.hid hc
  have hnn : n ≤ 9223372036854775807 := by unfold maxLen at hc; omega
  clear hc
  by_cases h1 : 1048576 < n
  · go_enter Try.func10, Try.ntmps10
    go_wp2_with fail
    go_ret
    exact ⟨rfl, Below.refl _ _⟩
  go_enter Try.func10, Try.ntmps10
  go_wp2_with fail
  refine (DrawTreesOf_any A n c _ hb hn hcM.out).mono ?_
  rintro e w1 ⟨v1, Fs, vs, rfl, hR, hl, hgd, hB⟩
  obtain ⟨AF, cF, rfl, _, _⟩ := hR.form
  have hF1 := Lib.hid (hR.flst rfl)
  have hB1 := Lib.hid hB
  obtain ⟨m, hm⟩ : ∃ m, Fs.length = m := ⟨_, rfl⟩
  have hmh := Lib.hid hm
  rw [hm] at hF1 hl ⊢
  have hmM : m ≤ maxLen := by unfold maxLen; omega
  have hsm := gdf_small hgd
  have cI := Lib.hid (fun wx (hx : FLst wx wx.heap.size AF m Fs) => TreesOf_any AF m cF Fs wx hx hmM hsm)
  have cS := Lib.hid (fun wx (hx : FLst wx wx.heap.size AF m Fs) => specTreesOf_any AF m cF Fs wx hx hmM hsm)
  have cO := Lib.hid (fun wx (hx : FLst wx wx.heap.size AF m Fs) => TreeOk_any AF m cF Fs wx hx hmM hsm)
  have cB := Lib.hid (fun (v : Int) wx (hx : FLst wx wx.heap.size AF m Fs) => BeliefOf_any AF m cF Fs v wx hx hmM hsm)
  have hrl := treesR_len Fs
  unfold Lbd at cS
  unfold Rtd at cI cB
  obtain ⟨tt, htt⟩ : ∃ tt, treeOk Fs = tt := ⟨_, rfl⟩
  have htth := Lib.hid htt
  have cI2 := Lib.hid (fun wx hx => (cI.out wx hx).mono fun e w' q => (show ∃ v, e = .returned (.tuple #[v, .bool tt]) ∧ _ from by rw [← htt]; exact q))
  have cS2 := Lib.hid (fun wx hx => (cS.out wx hx).mono fun e w' q => (show ∃ v, e = .returned (.tuple #[v, .bool tt]) ∧ _ from by rw [← htt]; exact q))
  have cO2 := Lib.hid (fun wx hx => (cO.out wx hx).mono fun e w' q => (show e = .returned (.bool tt) ∧ _ from by rw [← htt]; exact q))
  clear hR hgd hB hb hm hsm htt cI cS cO
  go_wp2_with fail
  refine (cI2.out _ hF1.out).mono ?_
  rintro e w2 ⟨v, rfl, ho, hb⟩
  obtain ⟨Da, da, rfl, hIa⟩ := ho.frm
  have hIa2 := Lib.hid hIa
  have hF2 := Lib.hid ((hF1.out.below hb).more hb.size)
  have hB2 := Lib.hid (hB1.out.trans (hb.mono hB1.out.size))
  clear ho hb hF1 hB1 hIa
  go_wp2_with fail
  refine (cS2.out _ hF2.out).mono ?_
  rintro e w3 ⟨v, rfl, ho, hb⟩
  obtain ⟨Db, db, rfl, hdb, hdMb⟩ := ho.form
  have hIb3 := Lib.hid ho.lst
  have hIa3 := Lib.hid ((hIa2.out.below hb).more hb.size)
  have hF3 := Lib.hid ((hF2.out.below hb).more hb.size)
  have hB3 := Lib.hid (hB2.out.trans (hb.mono hB2.out.size))
  clear ho hb hF2 hB2 hIa2
  have hoM : (treesR Fs).length ≤ maxLen := by unfold maxLen; omega
  have cW := Lib.hid (wcInts_eq Da Db (treesR Fs).length (treesR Fs).length da db (treesR Fs) (treesR Fs) w3 hIa3.out hIb3.out hoM hoM rfl)
  cases tt
  · have hnil := Lib.hid (show treesR Fs = [] from by unfold treesR; rw [htth.out]; rfl)
    go_wp2_with (first
      | (go_at_call 35; refine (cW.out).mono ?_; rintro e w4 ⟨rfl, hb4⟩; have hB4 := Lib.hid (hB3.out.trans (hb4.mono hB3.out.size)); have hF4 := Lib.hid ((hF3.out.below hb4).more hb4.size); clear hb4)
      | (go_at_call 18; refine (cO2.out _ hF4.out).mono ?_; rintro e w5 ⟨rfl, hb5⟩; have hB5 := Lib.hid (hB4.out.trans (hb5.mono hB4.out.size)); clear hb5))
    go_ret
    exact ⟨ret_bool (by rw [hnil.out]; rfl), hB5.out⟩
  · have hT := htth.out
    have hg := (tree_fst hT).1
    have hos := Lib.hid (show treesR Fs = [((gOf Fs).root 0 : Int), ((gOf Fs).root 1 : Int), ((gOf Fs).root 2 : Int), ((gOf Fs).root 3 : Int)] from by unfold treesR; rw [hT]; rfl)
    have hol := Lib.hid (show (treesR Fs).length = 4 from by rw [hos.out]; rfl)
    have hat := Lib.hid (fun (k : Nat) (hk : k ≤ 3) => (show (treesR Fs)[k]? = some ((gOf Fs).root k : Int) from by
      rw [hos.out]
      obtain rfl | rfl | rfl | rfl : k = 0 ∨ k = 1 ∨ k = 2 ∨ k = 3 := by omega
      all_goals rfl))
    have hpb := Lib.hid (fun k => prN_bd hT k)
    have hps := Lib.hid (fun k F (hk : Fs[k]? = some F) => prN_succ hk)
    have hpa := Lib.hid (prN_all hT)
    have hl4 := Lib.hid (fun F (hF : F ∈ Fs) => len_two hT hF)
    have hto := Lib.hid (fun (v : Nat) (hv : v ≤ 3) => tot_root (Fs := Fs) hg.acy hv)
    have hbs := Lib.hid (fun (v : Nat) (hv : v ≤ 3) => bel_sum hT hv)
    have hbl := Lib.hid (fun (v : Nat) (hv : v ≤ 3) => bel_len hT hv)
    have hrr := Lib.hid (fun (v : Nat) (hv : v ≤ 3) => (show (gOf Fs).root v ≤ v ∧ (gOf Fs).root ((gOf Fs).root v) = (gOf Fs).root v from root_le (gOf Fs) ⟨v, by omega⟩))
    have hfour := Lib.hid (trees_four hg.acy)
    have hrs := Lib.hid (fun k => rootsT_succ (gOf Fs) k)
    have hrll := Lib.hid (fun k => rootsT_len (gOf Fs) k)
    have cBk := Lib.hid (fun (k : Nat) (hk : k ≤ 3) wx hx => (cB.out (k : Int) wx hx).mono fun e w' q => (show ∃ v, e = .returned (.tuple #[v, .bool true]) ∧ Rws w' wx.heap.size v (belR Fs (k : Int)) ∧ Below wx.heap.size wx w' from by
      obtain ⟨v, q1, q2, q3⟩ := q
      refine ⟨v, ?_, q2, q3⟩
      rw [q1, hT, inB_iff.2 (show (0 : Int) ≤ (k : Int) ∧ (k : Int) ≤ 3 by omega)]
      rfl))
    clear hT hg cB
    rw [hol.out] at hIa3 hIb3 hoM cW ⊢
    generalize treesR Fs = os at *
    generalize gOf Fs = g at *
    go_wp2_with (first
      | (go_at_call 35; refine (cW.out).mono ?_; rintro e w4 ⟨rfl, hb4⟩; have hB4 := Lib.hid (hB3.out.trans (hb4.mono hB3.out.size)); have hF4 := Lib.hid ((hF3.out.below hb4).more hb4.size); have hIa4 := Lib.hid ((hIa3.out.below hb4).more hb4.size); clear hb4)
      | (go_at_call 18; refine (cO2.out _ hF4.out).mono ?_; rintro e w5 ⟨rfl, hb5⟩; have hB5 := Lib.hid (hB4.out.trans (hb5.mono hB4.out.size)); have hF5 := Lib.hid ((hF4.out.below hb5).more hb5.size); have hIa5 := Lib.hid ((hIa4.out.below hb5).more hb5.size); clear hb5))
    clear cW cI2 cS2 cO2 hF3 hB3 hIa3 hIb3 hF4 hB4 hIa4
    go_loopg [8, 55] m (fun gn p i wr => ∃ k : Nat, k ≤ m ∧ gn = m - k ∧ i = .int .i64 k ∧ p = .int .i64 (prN Fs k) ∧ FLst wr wr.heap.size AF m Fs ∧ Ils wr wr.heap.size Da 4 os ∧ Below W.heap.size W wr)
    case atStart => exact ⟨0, Nat.zero_le _, rfl, rfl, rfl, hF5.out, hIa5.out, hB5.out⟩
    case round =>
      obtain ⟨k, hk, hgn, rfl, rfl, hF, hIa, hB⟩ := hrel
      have hgk : gk = m - k := hgn
      have hFk := Lib.hid hF
      have hIk := Lib.hid hIa
      have hBk := Lib.hid hB
      clear hgn hF hIa hB hF5 hIa5 hB5
      by_cases hlt : k < m
      · obtain ⟨gl, off, F, B1, m1, e1, B2, m2, e2, rfl, hgl, hFk1, cl1, cl2, hFW⟩ := hFk.out.at_ hlt
        have hk0 : (0 : Int) ≤ (k : Int) := by omega
        have hk1 : (k : Int) < (m : Int) := by omega
        have hm1 := hFW.1.1
        have hb1 := hl4.out F (List.mem_of_getElem? hFk1)
        have hst := Lib.hid (show prN Fs (k + 1) = prN Fs k + ((m1 : Int) - 1) from by rw [hps.out k F hFk1, hm1])
        have hpk := hpb.out k
        have hpk1 := hpb.out (k + 1)
        rw [hst.out] at hpk1
        have hm4 : m1 ≤ 4 := by omega
        have hal : Below wr.heap.size wr (wr.alloc (.cells #[.slice B1 m1 e1, .slice B2 m2 e2] 44)) := (Below.refl _ _).alloc (Nat.le_refl _) _
        have hFn := Lib.hid ((hFk.out.below hal).more hal.size)
        have hIn := Lib.hid ((hIk.out.below hal).more hal.size)
        have hBn := Lib.hid (hBk.out.trans (hal.mono hBk.out.size))
        have hX := Lib.hid (Has.new wr 44 #[.slice B1 m1 e1, .slice B2 m2 e2])
        have x0 := hX.out.cell 0
        have x1 := hX.out.cell 1
        clear hFW hFk1 hm1 hb1 hal
        generalize prN Fs k = p at *
        have hw1 : IntKind.i64.wrap (p + (m1 : Int)) = p + (m1 : Int) := by rw [IntKind.wrap_i64]; omega
        have hw2 : IntKind.i64.wrap (p + (m1 : Int) - 1) = p + ((m1 : Int) - 1) := by rw [IntKind.wrap_i64]; omega
        go_wp2_with fail
        go_roundg (m - (k + 1))
        case measure => omega
        case rel => exact ⟨k + 1, by omega, rfl, by go_num, by rw [hst.out], hFn.out, hIn.out, hBn.out⟩
      · obtain rfl : k = m := by omega
        have hpe := Lib.hid (show prN Fs k = (g.many : Int) from by rw [← hpa.out, hmh.out])
        rw [hpe.out]
        go_wp2_with fail
        go_loopg [9, 68] 4 (fun gn t i wr => ∃ j : Nat, j ≤ 4 ∧ gn = 4 - j ∧ i = .int .i64 j ∧ t = .int .i64 ((rootsT g j).length : Int) ∧ FLst wr wr.heap.size AF k Fs ∧ Ils wr wr.heap.size Da 4 os ∧ Below W.heap.size W wr)
        case atStart => exact ⟨0, by omega, rfl, rfl, rfl, hFk.out, hIk.out, hBk.out⟩
        case round =>
          obtain ⟨j, hj, hgn, rfl, rfl, hF, hIa, hB⟩ := hrel
          have hgj : gk = 4 - j := hgn
          have hFj := Lib.hid hF
          have hIj := Lib.hid hIa
          have hBj := Lib.hid hB
          clear hgn hF hIa hB hFk hIk hBk
          by_cases hlj : j < 4
          · obtain ⟨gd, od, d, rfl, hgd, hd, cd⟩ := hIj.out.at_ hlj
            rw [hat.out j (by omega)] at hd
            obtain rfl := Option.some.inj hd
            have hle := (hrr.out j (by omega)).1
            have hid := (hrr.out j (by omega)).2
            have hj0 : (0 : Int) ≤ (j : Int) := by omega
            have hj4 : (j : Int) < 4 := by omega
            have hsum := Lib.hid (show wsum (belR Fs ((g.root j : Nat) : Int)) = wsum (belR Fs (j : Int)) from by rw [hbs.out j (by omega), hbs.out (g.root j) (by omega), ← hto.out j (by omega)])
            have hla := Lib.hid (hbl.out j (by omega))
            have hlb := Lib.hid (hbl.out (g.root j) (by omega))
            have cB1 := Lib.hid (fun wx hx => cBk.out j (by omega) wx hx)
            have cB2 := Lib.hid (fun wx hx => cBk.out (g.root j) (by omega) wx hx)
            have hrj := Lib.hid (hrs.out j)
            have hrb := hrll.out j
            have hatr := Lib.hid (fun wx (hx : Ils wx wx.heap.size (some ⟨gd, od, none⟩) 4 os) => (show wx.cell? ⟨gd, od + g.root j, none⟩ = some (.int .i64 ((g.root j : Nat) : Int)) from by
              obtain ⟨g9, o9, d9, e9, _, h9, c9⟩ := hx.at_ (k := g.root j) (by omega)
              rw [hat.out (g.root j) (by omega), hid] at h9
              obtain rfl := Option.some.inj h9
              obtain ⟨rfl, rfl⟩ : gd = g9 ∧ od = o9 := by simpa using e9
              exact c9))
            clear hd
            obtain ⟨r, hr⟩ : ∃ r, g.root j = r := ⟨_, rfl⟩
            rw [hr] at hle hid hsum hlb cB2 hatr cd
            have hrh := Lib.hid hr
            have hr0 : (0 : Int) ≤ (r : Int) := by omega
            have hr4 : (r : Int) < 4 := by omega
            clear hid hr
            go_wp2_with fail
            clear cd
            refine (cB1.out _ hFj.out).mono ?_
            rintro e w6 ⟨v6, rfl, ho6, hb6⟩
            obtain ⟨D6, d6, rfl, hI6⟩ := ho6.frm
            have hA6 := Lib.hid hI6
            have hF6 := Lib.hid ((hFj.out.below hb6).more hb6.size)
            have hJ6 := Lib.hid ((hIj.out.below hb6).more hb6.size)
            have hB6 := Lib.hid (hBj.out.trans (hb6.mono hBj.out.size))
            clear ho6 hb6 hI6 hFj hIj hBj
            go_wp2_with fail
            refine (cB2.out _ hF6.out).mono ?_
            rintro e w7 ⟨v7, rfl, ho7, hb7⟩
            obtain ⟨D7, d7, rfl, hI7⟩ := ho7.frm
            have hZ7 := Lib.hid hI7
            have hA7 := Lib.hid ((hA6.out.below hb7).more hb7.size)
            have hF7 := Lib.hid ((hF6.out.below hb7).more hb7.size)
            have hJ7 := Lib.hid ((hJ6.out.below hb7).more hb7.size)
            have hB7 := Lib.hid (hB6.out.trans (hb7.mono hB6.out.size))
            clear ho7 hb7 hI7 hA6 hF6 hJ6 hB6
            have cS1 := Lib.hid (wcSum_w D6 (belR Fs (j : Int)).length d6 (belR Fs (j : Int)) w7 hA7.out (by rw [hla.out]; decide))
            have cS3 := Lib.hid (wcSum_w D7 (belR Fs (r : Int)).length d7 (belR Fs (r : Int)) w7 hZ7.out (by rw [hlb.out]; decide))
            rw [hsum.out] at cS3
            have crr := hatr.out w7 hJ7.out
            obtain ⟨sj, hsj⟩ : ∃ sj, wsum (belR Fs (j : Int)) = sj := ⟨_, rfl⟩
            rw [hsj] at cS1 cS3
            obtain ⟨l1, hl1⟩ : ∃ l1, (belR Fs (j : Int)).length = l1 := ⟨_, rfl⟩
            obtain ⟨l2, hl2⟩ : ∃ l2, (belR Fs (r : Int)).length = l2 := ⟨_, rfl⟩
            rw [hl1] at cS1 ⊢
            rw [hl2] at cS3 ⊢
            have hng : ¬ (r : Int) > (j : Int) := by omega
            clear hsj hl1 hl2 hA7 hZ7
            obtain ⟨q, hq⟩ : ∃ q, (rootsT g j).length = q := ⟨_, rfl⟩
            rw [hq] at hrb ⊢
            have hqh := Lib.hid hq
            clear hq
            by_cases hrj2 : r = j
            · have hnx := Lib.hid (show (rootsT g (j + 1)).length = q + 1 from by rw [hrj.out, hrh.out, if_pos hrj2, List.length_append, hqh.out]; rfl)
              have hbb : ((r : Int) == (j : Int)) = true := by rw [beq_iff_eq]; omega
              have hrjh := Lib.hid hrj2
              clear hrj2
              go_wp2_with fail
              refine (cS1.out).mono ?_
              rintro e w8 ⟨rfl, rfl⟩
              go_wp2_with fail
              refine (cS3.out).mono ?_
              rintro e w8 ⟨rfl, rfl⟩
              go_wp2_with fail
              go_roundg (4 - (j + 1))
              case measure => omega
              case rel => exact ⟨j + 1, by omega, rfl, by go_num, by rw [hnx.out]; go_num, hF7.out, hJ7.out, hB7.out⟩
            · have hnx := Lib.hid (show (rootsT g (j + 1)).length = q from by rw [hrj.out, hrh.out, if_neg hrj2, List.append_nil, hqh.out])
              have hbb : ((r : Int) == (j : Int)) = false := by rw [beq_eq_false_iff_ne]; omega
              have hrjh := Lib.hid hrj2
              clear hrj2
              go_wp2_with fail
              refine (cS1.out).mono ?_
              rintro e w8 ⟨rfl, rfl⟩
              go_wp2_with fail
              refine (cS3.out).mono ?_
              rintro e w8 ⟨rfl, rfl⟩
              go_wp2_with fail
              go_roundg (4 - (j + 1))
              case measure => omega
              case rel => exact ⟨j + 1, by omega, rfl, by go_num, by rw [hnx.out], hF7.out, hJ7.out, hB7.out⟩
          · obtain rfl : j = 4 := by omega
            have h4 := hfour.out
            generalize (rootsT g 4).length = t4 at *
            generalize g.many = gm at *
            have hsum4 : ((t4 : Int) + (gm : Int) == 4) = true := by rw [beq_iff_eq]; omega
            go_wp2_with fail
            go_ret
            exact ⟨ret_bool rfl, hBj.out⟩
set_option maxRecDepth 100000 in
theorem lifted (os : Os) (started : os.Started) (H : Type) (enc : TypeId × Value → H) :
    ReturnsInHanded {} Try.checked os 10 .any (Rows.fnTreesSpec.pre6 enc Try.prog Try.f10 Rows.fnTreesRow.domain false) (Rows.fnTreesSpec.post enc Try.prog Try.f10 false true false false) := by
  refine returnsInHanded_of_change (C := Try.checked) own started (by kernel_rfl) Try.func10
    (ChangeSpec.witness6 (enc := enc) (C := Try.checked) false ⟨#[], #[.slice none 0 0], []⟩ 8 (by kernel_rfl) (by kernel_rfl) (by kernel_rfl) (by kernel_rfl)) ?_
  intro W base args ds gs before hval0 hW hcnd _
  have hval : ∀ (j : Nat) t v, Try.f10.params[j]? = some t → args[j]? = some v → Value.okWide Try.prog W .any base t v := hval0
  have hW' := hW
  obtain ⟨p, q, hA0, hV, rfl, hfz, hnd⟩ := hW
  have hA : DataW.TrodAll enc Try.prog W 0 (fun _ => true) true Try.f10.params.toList args.toList ds p := hA0
  rw [Try.params10] at hA hval
  obtain ⟨v0, vs0, d0, ds0, p0, q0, hargs, rfl, rfl, h0, r0⟩ := trodAll_cons hA
  obtain ⟨rfl, rfl, rfl⟩ := trodAll_nil r0
  obtain rfl : args = #[v0] := by cases args; simp_all
  obtain ⟨rfl, rfl⟩ := trodVars_none hV
  have lt0 : ∀ x ∈ p0, x.block < W.heap.size := by
    obtain ⟨m, hm⟩ := h0
    exact DataW.trod_lt m _ _ _ hm
  clear hA0 hval0
  refine (walk enc W base v0 d0 p0 (hval 0 40 v0 rfl rfl) h0 lt0).mono fun e W' ⟨he, bel⟩ => ?_
  subst he
  exact ⟨_, rfl, _, _, _, [], _, [], hW', trodAll_mk1 (shut_bool Try.underlying4 _), (trodAll_cons_mk (Below.trod laidOut (by kernel_rfl) (of_decide_eq_true (by kernel_rfl)) h0 bel lt0) trodAll_mk0), rfl, bel.frame _, fun h => by cases h⟩
theorem proved : Rows.FnTreesSaid :=
  OpenClaim.holds_of_wide 10 Try.f10 rfl rfl rfl rfl rfl rfl rfl ⟨rfl, rfl, rfl, rfl, rfl⟩ rfl rfl rfl rfl rfl (by kernel_rfl) Try.func10 (by kernel_rfl)
    (of_decide_eq_true (by kernel_rfl)) (by unfold Func.isWrapper; first | (rw [if_pos (by decide +kernel)]; kernel_rfl) | (rw [if_neg (by decide +kernel)]; exact ⟨rfl, rfl⟩))
    (fun os started H enc _ => lifted os started H enc)
end Go.Proofs.Ytdpeaabdpolmoaa.fnTrees
