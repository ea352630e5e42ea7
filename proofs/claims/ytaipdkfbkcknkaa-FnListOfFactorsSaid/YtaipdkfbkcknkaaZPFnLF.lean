/- For every list of bytes: of the drawn factors the program's ListOfFactors returns what the model's returns, in this order and turned about, and each of its numbers is the product of the factors there. No condition. -/
import Derived.Test.YtaipdkfbkcknkaaRows
import Derived.ProofKit
import Derived.OpenShut
import Derived.ShutString
import Derived.ChangeOld
import Derived.Below
import Derived.Test.YtaipdkfbkcknkaaZAK
import Derived.Test.YtaipdkfbkcknkaaZAE
import Derived.Test.YtaipdkfbkcknkaaZAG
import Derived.Test.YtaipdkfbkcknkaaZAB
import Derived.Test.YtaipdkfbkcknkaaZAA
namespace Go.Proofs.Ytaipdkfbkcknkaa.fnListOfFactors
open Go.ChangeShapes Go.WideShapes Go.ChangeAt Go.RowKit
set_option linter.unusedVariables false
set_option maxRecDepth 100000
theorem own : ownKnob Try.prog.godebug = none := by kernel_rfl
theorem laidOut : laidOutB Try.prog = true := by kernel_rfl
set_option maxHeartbeats 4000000 in
theorem walk {H : Type} (enc : TypeId × Value → H) (W : World) (base : Nat) (v0 : Value) (d0 : DataW H) (p0 : List MemPlace) (hv0 : Value.okWide Try.prog W .any base 47 v0)
    (h0 : DataW.Trod enc Try.prog W 0 (fun _ => true) true 47 v0 d0 p0) (_ : ∀ x ∈ p0, x.block < W.heap.size) :
    Calls Try.prog 14 #[v0] W fun e w' => e = .returned (.bool true) ∧ Below W.heap.size W w' := by
  obtain ⟨A, n, c, rfl, hn, hc, hb⟩ := open_bytes hv0 h0
  clear hv0 h0
  have hcM := Lib.hid hc
  have hnn : n ≤ 9223372036854775807 := by unfold maxLen at hc; omega
  clear hc
  by_cases h1 : 1048576 < n
  · go_enter Try.func14, Try.ntmps14
    go_wp2_with fail
    go_ret
    exact ⟨rfl, Below.refl _ _⟩
  go_enter Try.func14, Try.ntmps14
  go_wp2_with fail
  refine (DrawListOfFactors_any A n c _ hb hn hcM.out).mono ?_
  rintro e w1 ⟨v1, Fs, vs, rfl, hR, hl, hsm, hB⟩
  obtain ⟨AF, cF, rfl, _, _⟩ := hR.form
  have hF1 := Lib.hid (hR.flst rfl)
  have hB1 := Lib.hid hB
  obtain ⟨m, hm⟩ : ∃ m, Fs.length = m := ⟨_, rfl⟩
  have hmh := Lib.hid hm
  rw [hm] at hF1 hl ⊢
  have hmM : m ≤ maxLen := by unfold maxLen; omega
  obtain ⟨i0, hi0, hi1, hi2, hi3⟩ := info_parts info_fac
  have hsmr : smallF Fs.reverse := fun F hF => hsm F (List.mem_reverse.1 hF)
  have cL := Lib.hid (fun wx (hx : FLst wx wx.heap.size AF m Fs) => ListOfFactors_any AF m cF Fs wx hx hmM hsm)
  have cSL := Lib.hid (fun wx (hx : FLst wx wx.heap.size AF m Fs) => specListOfFactors_any AF m cF Fs wx hx hmM hsm)
  have cR := Lib.hid (fun (D : Option Addr) (cd : Nat) wx (hx : FLst wx wx.heap.size D m Fs.reverse) => ListOfFactors_any D m cd Fs.reverse wx hx hmM hsmr)
  rw [lofTo_rev, listOk_rev] at cR
  have hol := lofTo_len Fs
  have hnone := Lib.hid (fun (h : listOk Fs = false) => show lofTo Fs = [] from by unfold lofTo; rw [h]; rfl)
  have hlen := Lib.hid (fun (h : listOk Fs = true) => show (lofTo Fs).length = 81 from by unfold lofTo; rw [if_pos h]; simp)
  have hget := Lib.hid (fun (h : listOk Fs = true) (s : Nat) (hs : s < 81) => show (lofTo Fs)[s]? = some (prodAt Fs (s : Int)) from by unfold lofTo; rw [if_pos h, List.getElem?_map, List.getElem?_range hs]; rfl)
  have hfin := Lib.hid (fun (h : listOk Fs = true) => list_fine h)
  have hsmh := Lib.hid hsm
  unfold Lbd at cL cSL cR
  generalize lofTo Fs = os at *
  generalize hkk : listOk Fs = bb at *
  clear hR hsm hB hb hm hkk hsmr
  go_wp2_with fail
  refine (cL.out _ hF1.out).mono ?_
  rintro e w2 ⟨v, rfl, ho, hb⟩
  obtain ⟨Da, da, rfl, hda, hdMa⟩ := ho.form
  have hIa2 := Lib.hid ho.lst
  have hF2 := Lib.hid ((hF1.out.below hb).more hb.size)
  have hB2 := Lib.hid (hB1.out.trans (hb.mono hB1.out.size))
  clear ho hb hF1 hB1
  go_wp2_with fail
  refine (cSL.out _ hF2.out).mono ?_
  rintro e w3 ⟨v, rfl, ho, hb⟩
  obtain ⟨Db, db, rfl, hdb, hdMb⟩ := ho.form
  have hIb3 := Lib.hid ho.lst
  have hIa3 := Lib.hid ((hIa2.out.below hb).more hb.size)
  have hF3 := Lib.hid ((hF2.out.below hb).more hb.size)
  have hB3 := Lib.hid (hB2.out.trans (hb.mono hB2.out.size))
  clear ho hb hF2 hB2 hIa2
  have hoM : os.length ≤ maxLen := by unfold maxLen; omega
  cases bb
  · obtain rfl := hnone.out rfl
    go_wp2_with fail
    refine (wcInts_eq Da Db ([] : List Int).length ([] : List Int).length da db [] [] _ hIa3.out hIb3.out hoM hoM rfl).mono ?_
    rintro e w4 ⟨rfl, hb⟩
    have hB4 := Lib.hid (hB3.out.trans (hb.mono hB3.out.size))
    clear hb
    go_wp2_with fail
    go_ret
    exact ⟨rfl, hB4.out⟩
  · have hlen9 := Lib.hid (hlen.out rfl)
    have hget9 := Lib.hid (hget.out rfl)
    obtain ⟨h8, hf9, hfine⟩ := hfin.out rfl
    have hp0 := pow_bd h8 hf9 (k := 0) (by decide)
    have hpK := Lib.hid (show pb Fs ≤ 10000000000 by simpa using hp0)
    have hfi := Lib.hid hfine
    have hf9h := Lib.hid hf9
    clear hp0 h8 hf9 hfine hnone hlen hget hfin
    go_wp2_with fail
    refine (wcInts_eq Da Db os.length os.length da db os os _ hIa3.out hIb3.out hoM hoM rfl).mono ?_
    rintro e w4 ⟨rfl, hb⟩
    have hIa4 := Lib.hid ((hIa3.out.below hb).more hb.size)
    have hF4 := Lib.hid ((hF3.out.below hb).more hb.size)
    have hB4 := Lib.hid (hB3.out.trans (hb.mono hB3.out.size))
    clear hb hIa3 hIb3 hF3 hB3
    -- the list turned about
    have hal0 : Below w4.heap.size w4 (w4.alloc (.cells #[] 36)) := (Below.refl _ _).alloc (Nat.le_refl _) _
    have hK0 := Lib.hid (show Bk (w4.alloc (.cells #[] 36)) w4.heap.size (.slice (some ⟨w4.heap.size, 0, none⟩) 0 0) (Fs.reverse.take 0) [] from
      ⟨⟨rfl, .inr ⟨w4.heap.size, 0, #[], rfl, Nat.le_refl _, Has.new w4 _ _, Nat.le_refl _, Nat.zero_le _, rfl, rfl⟩⟩, fun j F hF => by simp at hF⟩)
    have hal9 := Lib.hid hal0
    clear hal0
    go_wp2_with fail
    generalize w4.alloc (.cells #[] 36) = W0 at hK0 hal9 ⊢
    go_loopg [8, 9] m (fun gq l y wr => ∃ (k : Nat) (us : List Value), k ≤ m ∧ gq = m - k ∧ y = .int .i64 ((m : Int) - 1 - (k : Int)) ∧ Bk wr w4.heap.size l (Fs.reverse.take k) us ∧ Below w4.heap.size w4 wr)
    case atStart => exact ⟨0, [], Nat.zero_le _, rfl, by go_num, hK0.out, hal9.out⟩
    case round =>
      obtain ⟨k, us, hk, hgn, rfl, hK, hBw⟩ := hrel
      have hgk : gk = m - k := hgn
      have hKl : (Fs.reverse.take k).length = k := by rw [List.length_take, List.length_reverse, hmh.out]; omega
      obtain ⟨Ab, cb, rfl, _, _⟩ := hK.form
      rw [hKl]
      rw [hKl] at hK
      have kK := Lib.hid hK
      have kKl := Lib.hid hKl
      have kB := Lib.hid hBw
      have hzw := hBw.size
      clear hgn hKl
      by_cases hlt : k < m
      · obtain ⟨i, hi⟩ : ∃ i : Nat, (m : Int) - 1 - (k : Int) = (i : Int) := ⟨m - 1 - k, by omega⟩
        have him : i < m := by omega
        obtain ⟨g, off, F, D1, m1, d1, D2, m2, d2, rfl, hg, hFk, cl1, cl2, hFW⟩ := (hF4.out.below hBw).at_ him
        have hFr : Fs.reverse[k]? = some F := by
          rw [List.getElem?_reverse (by rw [hmh.out]; exact hlt), hmh.out, show m - 1 - k = i by omega]
          exact hFk
        have hnx := Lib.hid (show Fs.reverse.take (k + 1) = Fs.reverse.take k ++ [F] from by
          obtain ⟨hl9, he9⟩ := List.getElem?_eq_some_iff.1 hFr
          rw [List.take_succ_eq_append_getElem hl9, he9])
        have hi0' : (0 : Int) ≤ (i : Int) := by omega
        have hi1' : (i : Int) < (m : Int) := by omega
        have hih := Lib.hid hi
        rw [hi]
        have hal : Below wr.heap.size wr (wr.alloc (.cells #[.slice D1 m1 d1, .slice D2 m2 d2] 36)) := (Below.refl _ _).alloc (Nat.le_refl _) _
        have hK5 := Lib.hid (hK.below hal hzw)
        have hB5 := Lib.hid (kB.out.trans (hal.mono hzw))
        have hFx := Lib.hid (hFW.keep_ (hal.mono hzw))
        have hO5 := Lib.hid (show (wr.alloc (.cells #[.slice D1 m1 d1, .slice D2 m2 d2] 36)).ownsRow w4.heap.size 36 2 (.slice Ab k cb) k us from by have h9 := hK5.out.1; rwa [kKl.out] at h9)
        have hnw := Lib.hid (World.news_of_block (Has.new wr 36 #[.slice D1 m1 d1, .slice D2 m2 d2]))
        have hsz5 := Lib.hid hB5.out.size
        clear hal hK hFk hFr hFW hi hBw
        go_wp2_with (at_builtin; refine wpList_append_lies _ rfl (.tmp 54) (.tmp 59) 28 rfl w4.heap.size 36 i0 _ 2 48 Try.underlying28 hi0 hi1 hi2 hi3 rfl (by decide) (.slice Ab k cb) k us rfl (by exact hO5.out) ⟨wr.heap.size, 0, none⟩ 1 1 [.slice D1 m1 d1, .slice D2 m2 d2] rfl rfl (by exact hnw.out) (by simp [Value.oneCell']) (by omega) (by unfold maxLen; omega) (by omega) (by exact hsz5.out) (wr.heap.size + 1) (by simp) ?_; intro gr cr2 w6 hown6 hgrow6 hat6 hlt6)
        have hb6 : Below w4.heap.size (wr.alloc (.cells #[.slice D1 m1 d1, .slice D2 m2 d2] 36)) w6 := (Below.refl _ _).grown hgrow6 hsz5.out (fun b e => (World.ownsRow.lt hO5.out b e).1)
        have nK := Lib.hid (Bk.append_ hK5.out hFx.out (by rw [kKl.out]; exact hown6) hb6)
        have nB := Lib.hid (hB5.out.trans hb6)
        clear hown6 hgrow6 hat6 hb6
        go_wp2_with fail
        go_roundg (m - (k + 1))
        case measure => omega
        case rel => exact ⟨k + 1, _, by omega, rfl, by have := hih.out; go_num, by rw [hnx.out]; exact nK.out, nB.out⟩
      · obtain rfl : m = k := by omega
        have htk : Fs.reverse.take m = Fs.reverse := List.take_of_length_le (by rw [List.length_reverse, hmh.out]; exact Nat.le_refl _)
        rw [htk] at hK
        have hKf := Lib.hid (hK.flst (by rw [List.length_reverse, hmh.out]) hzw)
        have hIa5 := Lib.hid ((hIa4.out.below hBw).more hzw)
        have hF5 := Lib.hid ((hF4.out.below hBw).more hzw)
        have hB5 := Lib.hid (hB4.out.trans (hBw.mono hB4.out.size))
        obtain ⟨w80, rfl⟩ : ∃ x : World, x = wr := ⟨_, rfl⟩
        obtain ⟨g80, rfl⟩ : ∃ x : Nat, x = gk := ⟨_, rfl⟩
        clear htk hK hBw kK kB kKl hIa4 hF4 hB4 hzw hgk
        go_wp2_with fail
        refine (cR.out Ab cb _ hKf.out).mono ?_
        rintro e w5 ⟨v, rfl, ho, hb⟩
        obtain ⟨Dc, dc, rfl, hdc, hdMc⟩ := ho.form
        have hIc5 := Lib.hid ho.lst
        have hIa6 := Lib.hid ((hIa5.out.below hb).more hb.size)
        have hF6 := Lib.hid ((hF5.out.below hb).more hb.size)
        have hB6 := Lib.hid (hB5.out.trans (hb.mono hB5.out.size))
        clear ho hb hKf hIa5 hF5 hB5
        go_wp2_with fail
        go_loopg [68] os.length (fun gq y wr => ∃ s : Nat, s ≤ os.length ∧ gq = os.length - s ∧ y = .int .i64 s ∧ Below w5.heap.size w5 wr)
        case atStart => exact ⟨0, Nat.zero_le _, rfl, rfl, Below.refl _ _⟩
        case round =>
          obtain ⟨s, hs, hgn, rfl, hBw⟩ := hrel
          have hgs : gk = os.length - s := hgn
          have kB := Lib.hid hBw
          have hF7 := Lib.hid ((hF6.out.below hBw).more hBw.size)
          clear hgn
          by_cases hlt : s < os.length
          · obtain ⟨g, off, d, rfl, hg, hd, cd0⟩ := (hIa6.out.below hBw).at_ hlt
            have hs81 : s < 81 := by have := hlen9.out; omega
            have hde := Lib.hid (Option.some.inj ((hget9.out s hs81).symm.trans hd))
            have hs0 : (0 : Int) ≤ (s : Int) := by omega
            have hs1 : (s : Int) < (os.length : Int) := by omega
            obtain ⟨w81, rfl⟩ : ∃ x : World, x = wr := ⟨_, rfl⟩
            obtain ⟨g81, rfl⟩ : ∃ x : Nat, x = gk := ⟨_, rfl⟩
            clear hd hBw
            go_wp2_with fail
            go_loopg [14, 75] m (fun gq p y wr => ∃ j : Nat, j ≤ m ∧ gq = m - j ∧ y = .int .i64 j ∧ p = .int .i64 (prodAt (Fs.take j) (s : Int)) ∧ Below w81.heap.size w81 wr)
            case atStart => exact ⟨0, Nat.zero_le _, rfl, rfl, rfl, Below.refl _ _⟩
            case round =>
              obtain ⟨j, hj, hgn, rfl, rfl, hBw⟩ := hrel
              have hgj : gk = m - j := hgn
              have kB2 := Lib.hid hBw
              clear hgn
              by_cases hjm : j < m
              · obtain ⟨g2, off2, F, D1, m1, d1, D2, m2, d2, rfl, hg2, hFk, cl1, cl2, hFW⟩ := (hF7.out.below hBw).at_ hjm
                have hj0 : (0 : Int) ≤ (j : Int) := by omega
                have hj1 : (j : Int) < (m : Int) := by omega
                have hal : Below wr.heap.size wr (wr.alloc (.cells #[.slice D1 m1 d1, .slice D2 m2 d2] 36)) := (Below.refl _ _).alloc (Nat.le_refl _) _
                have hFx := Lib.hid ((hFW.keep_ (hal.mono hBw.size)).more (Nat.le_trans hBw.size hal.size))
                have hsF := hsmh.out F (List.mem_of_getElem? hFk)
                have hsl := Lib.hid (show m1 ≤ maxLen ∧ m2 ≤ maxLen from ⟨by rw [← hFW.1.1]; exact hsF.1, by rw [← hFW.2.1]; exact hsF.2⟩)
                have hB5 := Lib.hid (kB2.out.trans (hal.mono hBw.size))
                have hcn := (Has.new wr 36 #[.slice D1 m1 d1, .slice D2 m2 d2]).cell
                have hf9 := facOk_le (hf9h.out F (List.mem_of_getElem? hFk)) (show (9 : Int) ≤ 1000000000 by decide)
                have hat := Lib.hid (show fAtTo F (s : Int) = fAt F (s : Int) from by unfold fAtTo; rw [if_pos ⟨hf9, inB_iff.2 ⟨by omega, by omega⟩⟩])
                have hpt := prod_take hFk (s : Int)
                have hbd := prodAt_bd hfi.out (st := (s : Int)) (by omega) (j + 1)
                have hK9 := hpK.out
                rw [hpt] at hbd
                have hpth := Lib.hid hpt
                generalize prodAt (Fs.take j) (s : Int) = p0 at *
                generalize fAt F (s : Int) = f0 at *
                have hwm : IntKind.i64.wrap (p0 * f0) = p0 * f0 := by rw [IntKind.wrap_i64]; omega
                clear hpt hbd hK9 hFk hFW hf9 hal hBw hsF
                go_wp2_with fail
                refine (FactorAt_any D1 D2 m1 d1 m2 d2 F (s : Int) _ hFx.out hsl.out.1 hsl.out.2).mono ?_
                rw [hat.out]
                rintro e w9 ⟨rfl, hb⟩
                have nB := Lib.hid (hB5.out.trans (hb.mono hB5.out.size))
                clear hb hcn
                go_wp2_with fail
                go_roundg (m - (j + 1))
                case measure => omega
                case rel => exact ⟨j + 1, by omega, rfl, by go_num, by rw [hpth.out], nB.out⟩
              · obtain rfl : m = j := by omega
                have htk : Fs.take m = Fs := List.take_of_length_le (by rw [hmh.out]; exact Nat.le_refl _)
                rw [htk, hde.out]
                have nB := Lib.hid (kB.out.trans (hBw.mono kB.out.size))
                clear htk hBw
                go_wp2_with fail
                go_roundg (os.length - (s + 1))
                case measure => omega
                case rel => exact ⟨s + 1, by omega, rfl, by go_num, nB.out⟩
          · obtain rfl : s = os.length := by omega
            have hIa7 := Lib.hid ((hIa6.out.below hBw).more hBw.size)
            have hIc7 := Lib.hid ((hIc5.out.below hBw).more hBw.size)
            have hB7 := Lib.hid (hB6.out.trans (hBw.mono hB6.out.size))
            clear hBw
            go_wp2_with fail
            refine (wcInts_eq Dc Da os.length os.length dc da os os _ hIc7.out hIa7.out hoM hoM rfl).mono ?_
            rintro e w9 ⟨rfl, hb⟩
            have hB8 := Lib.hid (hB7.out.trans (hb.mono hB7.out.size))
            clear hb
            go_wp2_with fail
            go_ret
            exact ⟨rfl, hB8.out⟩
set_option maxRecDepth 100000 in
theorem lifted (os : Os) (started : os.Started) (H : Type) (enc : TypeId × Value → H) :
    ReturnsInHanded {} Try.checked os 14 .any (Rows.fnListOfFactorsSpec.pre6 enc Try.prog Try.f14 Rows.fnListOfFactorsRow.domain false) (Rows.fnListOfFactorsSpec.post enc Try.prog Try.f14 false true false false) := by
  refine returnsInHanded_of_change (C := Try.checked) own started (by kernel_rfl) Try.func14
    (ChangeSpec.witness6 (enc := enc) (C := Try.checked) false ⟨#[], #[.slice none 0 0], []⟩ 8 (by kernel_rfl) (by kernel_rfl) (by kernel_rfl) (by kernel_rfl)) ?_
  intro W base args ds gs before hval0 hW hcnd _
  have hval : ∀ (j : Nat) t v, Try.f14.params[j]? = some t → args[j]? = some v → Value.okWide Try.prog W .any base t v := hval0
  have hW' := hW
  obtain ⟨p, q, hA0, hV, rfl, hfz, hnd⟩ := hW
  have hA : DataW.TrodAll enc Try.prog W 0 (fun _ => true) true Try.f14.params.toList args.toList ds p := hA0
  rw [Try.params14] at hA hval
  obtain ⟨v0, vs0, d0, ds0, p0, q0, hargs, rfl, rfl, h0, r0⟩ := trodAll_cons hA
  obtain ⟨rfl, rfl, rfl⟩ := trodAll_nil r0
  obtain rfl : args = #[v0] := by cases args; simp_all
  obtain ⟨rfl, rfl⟩ := trodVars_none hV
  have lt0 : ∀ x ∈ p0, x.block < W.heap.size := by
    obtain ⟨m, hm⟩ := h0
    exact DataW.trod_lt m _ _ _ hm
  clear hA0 hval0
  refine (walk enc W base v0 d0 p0 (hval 0 47 v0 rfl rfl) h0 lt0).mono fun e W' ⟨he, bel⟩ => ?_
  subst he
  exact ⟨_, rfl, _, _, _, [], _, [], hW', trodAll_mk1 (shut_bool Try.underlying4 _), (trodAll_cons_mk (Below.trod laidOut (by kernel_rfl) (of_decide_eq_true (by kernel_rfl)) h0 bel lt0) trodAll_mk0), rfl, bel.frame _, fun h => by cases h⟩
theorem proved : Rows.FnListOfFactorsSaid :=
  OpenClaim.holds_of_wide 14 Try.f14 rfl rfl rfl rfl rfl rfl rfl ⟨rfl, rfl, rfl, rfl, rfl⟩ rfl rfl rfl rfl rfl (by kernel_rfl) Try.func14 (by kernel_rfl)
    (of_decide_eq_true (by kernel_rfl)) (by unfold Func.isWrapper; first | (rw [if_pos (by decide +kernel)]; kernel_rfl) | (rw [if_neg (by decide +kernel)]; exact ⟨rfl, rfl⟩))
    (fun os started H enc _ => lifted os started H enc)
end Go.Proofs.Ytaipdkfbkcknkaa.fnListOfFactors
