/- Parts of the proof: Mw. -/
import Derived.ProofKit
import Derived.OpenShut
import Derived.ShutString
import Derived.ChangeOld
import Derived.Below
import Derived.Test.YtghkpmafocacoaaZAU
import Derived.Test.YtghkpmafocacoaaZAV
import Derived.Test.YtghkpmafocacoaaZAZ
import Derived.Test.YtghkpmafocacoaaZAB
import Derived.Test.YtghkpmafocacoaaZAA
namespace Go.Proofs.Ytghkpmafocacoaa
set_option maxRecDepth 100000
set_option linter.unusedVariables false
open Go.ChangeShapes Go.WideShapes Go.ChangeAt Go.RowKit
theorem get3 {L : List Int} {f : Nat → Int} (h : L = [f 0, f 1, f 2]) {j : Nat} (hj : j < 3) : L[j]? = some (f j) := by
  rw [h]
  obtain rfl | rfl | rfl : j = 0 ∨ j = 1 ∨ j = 2 := by omega
  all_goals rfl
set_option maxHeartbeats 4000000 in
theorem walkMg {H : Type} (enc : TypeId × Value → H) (W : World) (base : Nat) (v0 : Value) (d0 : DataW H) (p0 : List MemPlace) (hv0 : Value.okWide Try.prog W .any base 43 v0)
    (h0 : DataW.Trod enc Try.prog W 0 (fun _ => true) true 43 v0 d0 p0) (_ : ∀ x ∈ p0, x.block < W.heap.size) :
    Calls Try.prog 12 #[v0] W fun e w' => e = .returned (.bool true) ∧ Below W.heap.size W w' := by
  obtain ⟨A, n, c, rfl, hn, hc, hb⟩ := open_bytes hv0 h0
  clear hv0 h0
  have hcM := Lib.hid hc
  have hnn : n ≤ 9223372036854775807 := by unfold maxLen at hc; omega
  clear hc
  by_cases h1 : 1048576 < n
  · go_enter Try.func12, Try.ntmps12
    go_wp2_with fail
    go_ret
    exact ⟨rfl, Below.refl _ _⟩
  go_enter Try.func12, Try.ntmps12
  go_wp2_with fail
  refine (DrawMessageOf_any A n c _ hb hn hcM.out).mono ?_
  rintro e w1 ⟨v1, Fs, vs, u, t, rfl, ⟨hu, ht⟩, hR, hl, hgd, hB⟩
  obtain ⟨AF, cF, rfl, _, _⟩ := hR.form
  have hF1 := Lib.hid (hR.flst rfl)
  have hB1 := Lib.hid hB
  obtain ⟨m, hm⟩ : ∃ m, Fs.length = m := ⟨_, rfl⟩
  have hmh := Lib.hid hm
  rw [hm] at hF1 hl ⊢
  have hmM : m ≤ maxLen := by unfold maxLen; omega
  have hsm := gdf_small hgd
  have hsmh := Lib.hid hsm
  obtain ⟨i0, hi0, hi1, hi2, hi3⟩ := info_parts info_fac
  have cI := Lib.hid (fun wx (hx : FLst wx wx.heap.size AF m Fs) => MessageOf_any AF m cF Fs u t wx hx hmM hsm)
  have cS := Lib.hid (fun wx (hx : FLst wx wx.heap.size AF m Fs) => specMessageOf_any AF m cF Fs u t wx hx hmM hsm)
  have hrl := msgR_len Fs u t
  unfold Lbd at cS
  unfold Rtd at cI
  obtain ⟨tt, htt⟩ : ∃ tt, okM Fs u t = tt := ⟨_, rfl⟩
  have htth := Lib.hid htt
  have cI2 := Lib.hid (fun wx hx => (cI.out wx hx).mono fun e w' q => (show ∃ v, e = .returned (.tuple #[v, .bool tt]) ∧ _ from by rw [← htt]; exact q))
  have cS2 := Lib.hid (fun wx hx => (cS.out wx hx).mono fun e w' q => (show ∃ v, e = .returned (.tuple #[v, .bool tt]) ∧ _ from by rw [← htt]; exact q))
  clear hR hgd hB hb hm hsm htt cI cS
  go_wp2_with fail
  refine (cI2.out _ hF1.out).mono ?_
  rintro e w2 ⟨v, rfl, ho, hb⟩
  obtain ⟨Da, da, rfl, hIa⟩ := ho.frm
  have hIa2 := Lib.hid hIa
  have hF2 := Lib.hid ((hF1.out.below hb).more hb.size)
  have hB2 := Lib.hid (hB1.out.trans (hb.mono hB1.out.size))
  clear ho hb hF1 hB1 hIa
  go_wp2_with fail
  refine (cS2.out _ hF2.out).mono ?_
  rintro e w3 ⟨v, rfl, ho, hb⟩
  obtain ⟨Db, db, rfl, hdb, hdMb⟩ := ho.form
  have hIb3 := Lib.hid ho.lst
  have hIa3 := Lib.hid ((hIa2.out.below hb).more hb.size)
  have hF3 := Lib.hid ((hF2.out.below hb).more hb.size)
  have hB3 := Lib.hid (hB2.out.trans (hb.mono hB2.out.size))
  clear ho hb hF2 hB2 hIa2
  have hoM : (msgR Fs u t).length ≤ maxLen := by unfold maxLen; omega
  have cW := Lib.hid (wcInts_eq Da Db (msgR Fs u t).length (msgR Fs u t).length da db (msgR Fs u t) (msgR Fs u t) w3 hIa3.out hIb3.out hoM hoM rfl)
  cases tt
  · have hnil := Lib.hid (show msgR Fs u t = [] from by unfold msgR; rw [htth.out]; rfl)
    go_wp2_with fail
    refine (cW.out).mono ?_
    rintro e w4 ⟨rfl, hb4⟩
    have hB4 := Lib.hid (hB3.out.trans (hb4.mono hB3.out.size))
    clear hb4
    go_wp2_with fail
    go_ret
    exact ⟨ret_bool (by rw [hnil.out]; rfl), hB4.out⟩
  · obtain ⟨a, b, rfl, rfl, hab, hT, he⟩ := okM_parts htth.out
    have ha3 : a.val ≤ 3 := by omega
    have hb3 : b.val ≤ 3 := by omega
    have habn : a.val ≠ b.val := fun q => hab (Fin.ext q)
    have hos3 := Lib.hid (show (msgR Fs (a.val : Int) (b.val : Int)).length = 3 from by unfold msgR; rw [htth.out]; rfl)
    have hms := Lib.hid (fun (y : Nat) (hy : y < 3) => msg_sum hab hT he htth.out hy)
    have hbl := Lib.hid (bel_less hT ha3 hb3 habn he)
    have hlt := Lib.hid (less_tree hT ha3 hb3 habn)
    have hfin := Lib.hid (pr1_btw (tree_fst hT).1 a b)
    have hok9 := Lib.hid ((tree_fst hT).2.1)
    have hbo := Lib.hid (btw_ok9 hT he)
    have hpt := Lib.hid (fun (k : Nat) (F : Fac) (h : Fs[k]? = some F) => pr1_take h a.val b.val)
    have hlk := Lib.hid (fun (k : Nat) (F : Fac) (h : Fs[k]? = some F) => less_take h a.val b.val)
    have htp := Lib.hid (fun (F : Fac) (h : facOk 9 F = true) (h2 : F.vs.length = 2) (x y : Int) (hv : F.vs = [x, y]) => test_pair h h2 a b x y hv)
    rw [hos3.out] at hIa3 hIb3 hoM cW ⊢
    generalize msgR Fs (a.val : Int) (b.val : Int) = os at *
    obtain ⟨a, ha4⟩ := a
    obtain ⟨b, hb4'⟩ := b
    simp only at ha3 hb3 habn hu ht hms hbl hlt hfin hbo hpt hlk htp he ⊢
    have heh := Lib.hid he
    clear hT he hab cI2 cS2
    go_wp2_with fail
    refine (cW.out).mono ?_
    rintro e w4 ⟨rfl, hb4⟩
    have hB4 := Lib.hid (hB3.out.trans (hb4.mono hB3.out.size))
    have hF4 := Lib.hid ((hF3.out.below hb4).more hb4.size)
    have hIa4 := Lib.hid ((hIa3.out.below hb4).more hb4.size)
    clear hb4 cW hF3 hB3 hIa3 hIb3
    have hal0 : Below w4.heap.size w4 ((w4.alloc (.cells #[] 56)).alloc (.cells #[.slice none 0 0, .slice none 0 0] 56)) := ((Below.refl _ _).alloc (Nat.le_refl _) _).alloc (by simp) _
    have hK0 := Lib.hid (show Bk ((w4.alloc (.cells #[] 56)).alloc (.cells #[.slice none 0 0, .slice none 0 0] 56)) w4.heap.size (.slice (some ⟨w4.heap.size, 0, none⟩) 0 0) (lessL (Fs.take 0) a b) [] from
      ⟨⟨rfl, .inr ⟨w4.heap.size, 0, #[], rfl, Nat.le_refl _, (Has.new w4 _ _).alloc _, Nat.le_refl _, Nat.zero_le _, rfl, rfl⟩⟩, fun j F hF => by simp [lessL] at hF⟩)
    have hP0 := Lib.hid (show PrW ((w4.alloc (.cells #[] 56)).alloc (.cells #[.slice none 0 0, .slice none 0 0] 56)) (w4.heap.size + 1) w4.heap.size (pr1 (Fs.take 0) a b) from prw_nil (Has.newAt (by simp)))
    have hs0 : w4.heap.size + 2 ≤ ((w4.alloc (.cells #[] 56)).alloc (.cells #[.slice none 0 0, .slice none 0 0] 56)).heap.size := by simp
    have hal9 := Lib.hid hal0
    clear hal0
    go_wp2_with fail
    generalize (w4.alloc (.cells #[] 56)).alloc (.cells #[.slice none 0 0, .slice none 0 0] 56) = W0 at hK0 hP0 hs0 hal9 ⊢
    go_loopg [10, 62] m (fun gq l y wr => ∃ (k : Nat) (us : List Value), k ≤ m ∧ gq = m - k ∧ y = .int .i64 (k : Int) ∧ Bk wr w4.heap.size l (lessL (Fs.take k) a b) us ∧ (∀ g, l.ownBlock = some g → g ≠ w4.heap.size + 1) ∧ PrW wr (w4.heap.size + 1) w4.heap.size (pr1 (Fs.take k) a b) ∧ w4.heap.size + 2 ≤ wr.heap.size ∧ Below w4.heap.size w4 wr)
    case atStart => exact ⟨0, [], Nat.zero_le _, rfl, rfl, hK0.out, fun g e => by have e2 : w4.heap.size = g := (by simpa [Value.ownBlock] using e); omega, hP0.out, hs0, hal9.out⟩
    case round =>
      obtain ⟨k, us, hk, hgn, rfl, hK, hD, hP, hz2, hBw⟩ := hrel
      have hgk : gk = m - k := hgn
      obtain ⟨q, hKl⟩ : ∃ q, (lessL (Fs.take k) a b).length = q := ⟨_, rfl⟩
      have hqk : q ≤ k := by rw [← hKl]; exact Nat.le_trans (List.length_filter_le _ _) (by rw [List.length_take]; omega)
      obtain ⟨Ab, cb, rfl, _, _⟩ := hK.form
      rw [hKl]
      rw [hKl] at hK hD
      have kK := Lib.hid hK
      have kD := Lib.hid hD
      have kP := Lib.hid hP
      have kKl := Lib.hid hKl
      have kB := Lib.hid hBw
      have hzw := hBw.size
      clear hgn hKl hK hD hP
      by_cases hlt9 : k < m
      · obtain ⟨g, off, F, D1, m1, d1, D2, m2, d2, rfl, hg, hFk, cl1, cl2, hFW⟩ := (hF4.out.below hBw).at_ hlt9
        have hlk1 := Lib.hid (hlk.out k F hFk)
        have hpt1 := Lib.hid (hpt.out k F hFk)
        have hF9 := Lib.hid (hok9.out F (List.mem_of_getElem? hFk))
        have hk0 : (0 : Int) ≤ (k : Int) := by omega
        have hk1 : (k : Int) < (m : Int) := by omega
        have hm1 := hFW.1.1
        have kFW := Lib.hid hFW
        have hX := Lib.hid (Has.new wr 56 #[.slice D1 m1 d1, .slice D2 m2 d2])
        have y0 := hX.out.cell 0
        have y1 := hX.out.cell 1
        have hm14 : m1 ≤ 4 := by have := (fac_parts hF9.out).2.2.2.1; omega
        clear hFk hBw
        by_cases h2 : m1 = 2
        · have hv2 : F.vs.length = 2 := by omega
          obtain ⟨x, y, hvs⟩ : ∃ x y, F.vs = [x, y] := by
            match hq : F.vs, hv2 with
            | [x, y], _ => exact ⟨x, y, rfl⟩
          have hxy := (fac_parts hF9.out).2.2.2.2
          rw [hvs] at hxy
          have hx := hxy x (by simp)
          have hy := hxy y (by simp)
          have htest := Lib.hid (htp.out F hF9.out hv2 x y hvs)
          subst h2
          obtain ⟨g1, o1, e1, hg1, hc1⟩ := hFW.1.2 (by omega)
          rw [hvs] at hc1
          have hal5 : Below wr.heap.size wr (wr.alloc (.cells #[.slice D1 2 d1, .slice D2 m2 d2] 56)) := (Below.refl _ _).alloc (Nat.le_refl _) _
          have cx := hc1 0 x rfl
          have cy := hc1 1 y rfl
          rw [Nat.add_zero] at cx
          have cx5 := (hal5.cell (p := ⟨g1, o1, none⟩) (by show g1 < _; omega)).trans cx
          have cy5 := (hal5.cell (p := ⟨g1, o1 + 1, none⟩) (by show g1 < _; omega)).trans cy
          have hw1 : IntKind.i64.wrap (x + y) = x + y := by rw [IntKind.wrap_i64]; omega
          have hw2 : IntKind.i64.wrap ((a : Int) + (b : Int)) = (a : Int) + (b : Int) := by rw [IntKind.wrap_i64]; omega
          subst e1
          clear hxy hvs hv2 hm1 hc1 hFW cx cy hal5
          by_cases hA : x + y = (a : Int) + (b : Int)
          · have hAb : (x + y == (a : Int) + (b : Int)) = true := by rw [beq_iff_eq]; exact hA
            by_cases h1a : x = (a : Int)
            · have h1b : (x == (a : Int)) = true := by rw [beq_iff_eq]; exact h1a
              have hnp := Lib.hid (show isP F a b = true from by rw [htest.out, Bool.and_eq_true]; exact ⟨decide_eq_true hA, by simp [h1a]⟩)
              have hAh := Lib.hid hA
              have h1h := Lib.hid h1a
              clear hA h1a htest
              go_wp2_with fail
              go_quiet (fail)
              obtain ⟨w5, hw5⟩ : ∃ x : World, (wr.alloc (.cells #[.slice (some ⟨g1, o1, none⟩) 2 d1, .slice D2 m2 d2] 56)).drewN nq = x := ⟨_, rfl⟩
              rw [hw5]
              have hX5 : Has w5 wr.heap.size 56 #[.slice (some ⟨g1, o1, none⟩) 2 d1, .slice D2 m2 d2] := by rw [← hw5]; exact (Has.new wr _ _).drewN nq
              have hal5 : Below wr.heap.size wr w5 := by rw [← hw5]; exact below_drewN ((Below.refl _ _).alloc (Nat.le_refl _) _) nq
              have x0 := hX5.cell 0
              have x1 := hX5.cell 1
              have hP5 := kP.out.below hal5 hzw
              have hst := PrW.put hP5 (kFW.out.keep_ (hal5.mono hzw)) (by omega) (Nat.le_trans (by omega) hal5.size) (d1 := d1) (d2 := d2)
              have nP := Lib.hid hst.1
              have nK := Lib.hid ((kK.out.below hal5 hzw).but hst.2 (fun g e q => kD.out g e q) (fun i hi e => by omega) (Nat.le_trans (by omega) hal5.size))
              have nB := Lib.hid ((kB.out.trans (hal5.mono hzw)).trans (hst.2.below (fun i hi e => by omega) (Nat.le_trans (by omega) hal5.size)))
              have nS : w4.heap.size + 2 ≤ ((w5.setCell ⟨w4.heap.size + 1, 0, none⟩ (.slice (some ⟨g1, o1, none⟩) 2 d1)).setCell ⟨w4.heap.size + 1, 1, none⟩ (.slice D2 m2 d2)).heap.size := Nat.le_trans hz2 (Nat.le_trans hal5.size hst.2.size)
              obtain ⟨B1, b1, e1, B2, b2, e2, hPh, _⟩ := hP5
              have p0 := hPh.cell 0
              have p1 := hPh.cell 1
              have p2 := hPh.frozen
              have p3 := hPh.lt
              clear hX5 hw5 hst hPh hal5
              go_wp2_with fail
              go_roundg (m - (k + 1))
              case measure => omega
              case rel => exact ⟨k + 1, us, by omega, rfl, by go_num, by rw [hlk1.out, if_pos hnp.out]; exact nK.out, kD.out, by rw [hpt1.out, if_pos hnp.out]; exact nP.out, nS, nB.out⟩
            · have h1b : (x == (a : Int)) = false := by rw [beq_eq_false_iff_ne]; exact h1a
              by_cases h1c : x = (b : Int)
              · have h1d : (x == (b : Int)) = true := by rw [beq_iff_eq]; exact h1c
                have hnp := Lib.hid (show isP F a b = true from by rw [htest.out, Bool.and_eq_true]; exact ⟨decide_eq_true hA, by simp [h1c]⟩)
                have hAh := Lib.hid hA
                clear hA h1a h1c htest
                go_wp2_with fail
                go_quiet (fail)
                obtain ⟨w5, hw5⟩ : ∃ x : World, (wr.alloc (.cells #[.slice (some ⟨g1, o1, none⟩) 2 d1, .slice D2 m2 d2] 56)).drewN nq = x := ⟨_, rfl⟩
                rw [hw5]
                have hX5 : Has w5 wr.heap.size 56 #[.slice (some ⟨g1, o1, none⟩) 2 d1, .slice D2 m2 d2] := by rw [← hw5]; exact (Has.new wr _ _).drewN nq
                have hal5 : Below wr.heap.size wr w5 := by rw [← hw5]; exact below_drewN ((Below.refl _ _).alloc (Nat.le_refl _) _) nq
                have x0 := hX5.cell 0
                have x1 := hX5.cell 1
                have hP5 := kP.out.below hal5 hzw
                have hst := PrW.put hP5 (kFW.out.keep_ (hal5.mono hzw)) (by omega) (Nat.le_trans (by omega) hal5.size) (d1 := d1) (d2 := d2)
                have nP := Lib.hid hst.1
                have nK := Lib.hid ((kK.out.below hal5 hzw).but hst.2 (fun g e q => kD.out g e q) (fun i hi e => by omega) (Nat.le_trans (by omega) hal5.size))
                have nB := Lib.hid ((kB.out.trans (hal5.mono hzw)).trans (hst.2.below (fun i hi e => by omega) (Nat.le_trans (by omega) hal5.size)))
                have nS : w4.heap.size + 2 ≤ ((w5.setCell ⟨w4.heap.size + 1, 0, none⟩ (.slice (some ⟨g1, o1, none⟩) 2 d1)).setCell ⟨w4.heap.size + 1, 1, none⟩ (.slice D2 m2 d2)).heap.size := Nat.le_trans hz2 (Nat.le_trans hal5.size hst.2.size)
                obtain ⟨B1, b1, e1, B2, b2, e2, hPh, _⟩ := hP5
                have p0 := hPh.cell 0
                have p1 := hPh.cell 1
                have p2 := hPh.frozen
                have p3 := hPh.lt
                clear hX5 hw5 hst hPh hal5
                go_wp2_with fail
                go_roundg (m - (k + 1))
                case measure => omega
                case rel => exact ⟨k + 1, us, by omega, rfl, by go_num, by rw [hlk1.out, if_pos hnp.out]; exact nK.out, kD.out, by rw [hpt1.out, if_pos hnp.out]; exact nP.out, nS, nB.out⟩
              · have h1d : (x == (b : Int)) = false := by rw [beq_eq_false_iff_ne]; exact h1c
                have hnp := Lib.hid (show isP F a b = false from by rw [htest.out]; simp [h1a, h1c])
                have hAh := Lib.hid hA
                clear hA h1a h1c htest
                go_wp2_with fail
                go_quiet (fail)
                obtain ⟨w5, hw5⟩ : ∃ x : World, (wr.alloc (.cells #[.slice (some ⟨g1, o1, none⟩) 2 d1, .slice D2 m2 d2] 56)).drewN nq = x := ⟨_, rfl⟩
                rw [hw5]
                have hX5 : Has w5 wr.heap.size 56 #[.slice (some ⟨g1, o1, none⟩) 2 d1, .slice D2 m2 d2] := by rw [← hw5]; exact (Has.new wr _ _).drewN nq
                have hal5 : Below wr.heap.size wr w5 := by rw [← hw5]; exact below_drewN ((Below.refl _ _).alloc (Nat.le_refl _) _) nq
                have hs5 := Lib.hid (show w5.heap.size = wr.heap.size + 1 by rw [← hw5]; simp [World.drewN])
                have x0 := hX5.cell 0
                have x1 := hX5.cell 1
                have hal6 : Below wr.heap.size wr (w5.alloc (.cells #[.slice (some ⟨g1, o1, none⟩) 2 d1, .slice D2 m2 d2] 56)) := hal5.alloc hal5.size _
                have hK6 := Lib.hid (kK.out.below hal6 hzw)
                have hP6 := Lib.hid (kP.out.below hal6 hzw)
                have hB6 := Lib.hid (kB.out.trans (hal6.mono hzw))
                have hFx := Lib.hid (kFW.out.keep_ (hal6.mono hzw))
                have hO6 := Lib.hid (show (w5.alloc (.cells #[.slice (some ⟨g1, o1, none⟩) 2 d1, .slice D2 m2 d2] 56)).ownsRow w4.heap.size 56 2 (.slice Ab q cb) q us from by have h9 := hK6.out.1; rwa [kKl.out] at h9)
                have hnw := Lib.hid (World.news_of_block (Has.new w5 56 #[.slice (some ⟨g1, o1, none⟩) 2 d1, .slice D2 m2 d2]))
                have hsz6 := Lib.hid hB6.out.size
                clear hX5 hw5 hal6 hal5
                go_wp2_with (at_builtin; refine wpList_append_lies _ rfl (.tmp 102) (.tmp 104) 50 rfl w4.heap.size 56 i0 _ 2 48 Try.underlying50 hi0 hi1 hi2 hi3 rfl (by decide) (.slice Ab q cb) q us rfl (by exact hO6.out) ⟨w5.heap.size, 0, none⟩ 1 1 [.slice (some ⟨g1, o1, none⟩) 2 d1, .slice D2 m2 d2] rfl rfl (by exact hnw.out) (by simp [Value.oneCell']) (by omega) (by unfold maxLen; omega) (by omega) (by exact hsz6.out) (w5.heap.size + 1) (by simp) ?_; intro gr cr2 w7 hown7 hgrow7 hat7 hlt7)
                have hb7 : Below w4.heap.size (w5.alloc (.cells #[.slice (some ⟨g1, o1, none⟩) 2 d1, .slice D2 m2 d2] 56)) w7 := (Below.refl _ _).grown hgrow7 hsz6.out (fun b e => (World.ownsRow.lt hO6.out b e).1)
                have nK := Lib.hid (Bk.append_ hK6.out hFx.out (by rw [kKl.out]; exact hown7) hb7)
                have nB := Lib.hid (hB6.out.trans hb7)
                have nP := Lib.hid (hP6.out.but (KeptBut.of_grown hgrow7 (S := fun i => (Value.slice Ab q cb).ownBlock = some i) (fun k e => e)) (fun e => kD.out _ e rfl) (fun i hi e => by have := (World.ownsRow.lt hO6.out i e).1; omega) hsz6.out)
                have nS : w4.heap.size + 2 ≤ w7.heap.size := by have q1 := hgrow7.size; have q2 : (w5.alloc (.cells #[.slice (some ⟨g1, o1, none⟩) 2 d1, .slice D2 m2 d2] 56)).heap.size = w5.heap.size + 1 := (by simp); have q3 := hs5.out; omega
                have nD := Lib.hid (show ∀ g, (Value.slice (some ⟨gr, 0, none⟩) (q + 1) cr2).ownBlock = some g → g ≠ w4.heap.size + 1 from fun g e => by
                  have e2 : gr = g := by simpa [Value.ownBlock] using e
                  subst e2
                  have q3 := hs5.out
                  rcases hat7 with h9 | h9
                  · exact kD.out _ h9
                  · have q2 : (w5.alloc (.cells #[.slice (some ⟨g1, o1, none⟩) 2 d1, .slice D2 m2 d2] 56)).heap.size = w5.heap.size + 1 := (by simp)
                    omega)
                clear hown7 hgrow7 hat7 hb7
                go_wp2_with fail
                go_roundg (m - (k + 1))
                case measure => omega
                case rel => exact ⟨k + 1, _, by omega, rfl, by go_num, by rw [hlk1.out, if_neg (by rw [hnp.out]; decide)]; exact nK.out, nD.out, by rw [hpt1.out, if_neg (by rw [hnp.out]; decide)]; exact nP.out, nS, nB.out⟩
          · have hAb : (x + y == (a : Int) + (b : Int)) = false := by rw [beq_eq_false_iff_ne]; exact hA
            have hnp := Lib.hid (show isP F a b = false from by rw [htest.out]; simp [hA])
            clear hA htest
            go_wp2_with fail
            go_quiet (fail)
            obtain ⟨w5, hw5⟩ : ∃ x : World, (wr.alloc (.cells #[.slice (some ⟨g1, o1, none⟩) 2 d1, .slice D2 m2 d2] 56)).drewN nq = x := ⟨_, rfl⟩
            rw [hw5]
            have hX5 : Has w5 wr.heap.size 56 #[.slice (some ⟨g1, o1, none⟩) 2 d1, .slice D2 m2 d2] := by rw [← hw5]; exact (Has.new wr _ _).drewN nq
            have hal5 : Below wr.heap.size wr w5 := by rw [← hw5]; exact below_drewN ((Below.refl _ _).alloc (Nat.le_refl _) _) nq
            have hs5 := Lib.hid (show w5.heap.size = wr.heap.size + 1 by rw [← hw5]; simp [World.drewN])
            have x0 := hX5.cell 0
            have x1 := hX5.cell 1
            have hal6 : Below wr.heap.size wr (w5.alloc (.cells #[.slice (some ⟨g1, o1, none⟩) 2 d1, .slice D2 m2 d2] 56)) := hal5.alloc hal5.size _
            have hK6 := Lib.hid (kK.out.below hal6 hzw)
            have hP6 := Lib.hid (kP.out.below hal6 hzw)
            have hB6 := Lib.hid (kB.out.trans (hal6.mono hzw))
            have hFx := Lib.hid (kFW.out.keep_ (hal6.mono hzw))
            have hO6 := Lib.hid (show (w5.alloc (.cells #[.slice (some ⟨g1, o1, none⟩) 2 d1, .slice D2 m2 d2] 56)).ownsRow w4.heap.size 56 2 (.slice Ab q cb) q us from by have h9 := hK6.out.1; rwa [kKl.out] at h9)
            have hnw := Lib.hid (World.news_of_block (Has.new w5 56 #[.slice (some ⟨g1, o1, none⟩) 2 d1, .slice D2 m2 d2]))
            have hsz6 := Lib.hid hB6.out.size
            clear hX5 hw5 hal6 hal5
            go_wp2_with (at_builtin; refine wpList_append_lies _ rfl (.tmp 102) (.tmp 104) 50 rfl w4.heap.size 56 i0 _ 2 48 Try.underlying50 hi0 hi1 hi2 hi3 rfl (by decide) (.slice Ab q cb) q us rfl (by exact hO6.out) ⟨w5.heap.size, 0, none⟩ 1 1 [.slice (some ⟨g1, o1, none⟩) 2 d1, .slice D2 m2 d2] rfl rfl (by exact hnw.out) (by simp [Value.oneCell']) (by omega) (by unfold maxLen; omega) (by omega) (by exact hsz6.out) (w5.heap.size + 1) (by simp) ?_; intro gr cr2 w7 hown7 hgrow7 hat7 hlt7)
            have hb7 : Below w4.heap.size (w5.alloc (.cells #[.slice (some ⟨g1, o1, none⟩) 2 d1, .slice D2 m2 d2] 56)) w7 := (Below.refl _ _).grown hgrow7 hsz6.out (fun b e => (World.ownsRow.lt hO6.out b e).1)
            have nK := Lib.hid (Bk.append_ hK6.out hFx.out (by rw [kKl.out]; exact hown7) hb7)
            have nB := Lib.hid (hB6.out.trans hb7)
            have nP := Lib.hid (hP6.out.but (KeptBut.of_grown hgrow7 (S := fun i => (Value.slice Ab q cb).ownBlock = some i) (fun k e => e)) (fun e => kD.out _ e rfl) (fun i hi e => by have := (World.ownsRow.lt hO6.out i e).1; omega) hsz6.out)
            have nS : w4.heap.size + 2 ≤ w7.heap.size := by have q1 := hgrow7.size; have q2 : (w5.alloc (.cells #[.slice (some ⟨g1, o1, none⟩) 2 d1, .slice D2 m2 d2] 56)).heap.size = w5.heap.size + 1 := (by simp); have q3 := hs5.out; omega
            have nD := Lib.hid (show ∀ g, (Value.slice (some ⟨gr, 0, none⟩) (q + 1) cr2).ownBlock = some g → g ≠ w4.heap.size + 1 from fun g e => by
              have e2 : gr = g := by simpa [Value.ownBlock] using e
              subst e2
              have q3 := hs5.out
              rcases hat7 with h9 | h9
              · exact kD.out _ h9
              · have q2 : (w5.alloc (.cells #[.slice (some ⟨g1, o1, none⟩) 2 d1, .slice D2 m2 d2] 56)).heap.size = w5.heap.size + 1 := (by simp)
                omega)
            clear hown7 hgrow7 hat7 hb7
            go_wp2_with fail
            go_roundg (m - (k + 1))
            case measure => omega
            case rel => exact ⟨k + 1, _, by omega, rfl, by go_num, by rw [hlk1.out, if_neg (by rw [hnp.out]; decide)]; exact nK.out, nD.out, by rw [hpt1.out, if_neg (by rw [hnp.out]; decide)]; exact nP.out, nS, nB.out⟩
        · have hnp := Lib.hid (show isP F a b = false from not_pair (by omega) a b)
          have hm2 : ((m1 : Int) == 2) = false := by rw [beq_eq_false_iff_ne]; omega
          clear hm1 hFW
          go_wp2_with fail
          go_quiet (fail)
          obtain ⟨w5, hw5⟩ : ∃ x : World, (wr.alloc (.cells #[.slice D1 m1 d1, .slice D2 m2 d2] 56)).drewN nq = x := ⟨_, rfl⟩
          rw [hw5]
          have hX5 : Has w5 wr.heap.size 56 #[.slice D1 m1 d1, .slice D2 m2 d2] := by rw [← hw5]; exact (Has.new wr _ _).drewN nq
          have hal5 : Below wr.heap.size wr w5 := by rw [← hw5]; exact below_drewN ((Below.refl _ _).alloc (Nat.le_refl _) _) nq
          have hs5 := Lib.hid (show w5.heap.size = wr.heap.size + 1 by rw [← hw5]; simp [World.drewN])
          have x0 := hX5.cell 0
          have x1 := hX5.cell 1
          have hal6 : Below wr.heap.size wr (w5.alloc (.cells #[.slice D1 m1 d1, .slice D2 m2 d2] 56)) := hal5.alloc hal5.size _
          have hK6 := Lib.hid (kK.out.below hal6 hzw)
          have hP6 := Lib.hid (kP.out.below hal6 hzw)
          have hB6 := Lib.hid (kB.out.trans (hal6.mono hzw))
          have hFx := Lib.hid (kFW.out.keep_ (hal6.mono hzw))
          have hO6 := Lib.hid (show (w5.alloc (.cells #[.slice D1 m1 d1, .slice D2 m2 d2] 56)).ownsRow w4.heap.size 56 2 (.slice Ab q cb) q us from by have h9 := hK6.out.1; rwa [kKl.out] at h9)
          have hnw := Lib.hid (World.news_of_block (Has.new w5 56 #[.slice D1 m1 d1, .slice D2 m2 d2]))
          have hsz6 := Lib.hid hB6.out.size
          clear hX5 hw5 hal6 hal5
          go_wp2_with (at_builtin; refine wpList_append_lies _ rfl (.tmp 102) (.tmp 104) 50 rfl w4.heap.size 56 i0 _ 2 48 Try.underlying50 hi0 hi1 hi2 hi3 rfl (by decide) (.slice Ab q cb) q us rfl (by exact hO6.out) ⟨w5.heap.size, 0, none⟩ 1 1 [.slice D1 m1 d1, .slice D2 m2 d2] rfl rfl (by exact hnw.out) (by simp [Value.oneCell']) (by omega) (by unfold maxLen; omega) (by omega) (by exact hsz6.out) (w5.heap.size + 1) (by simp) ?_; intro gr cr2 w7 hown7 hgrow7 hat7 hlt7)
          have hb7 : Below w4.heap.size (w5.alloc (.cells #[.slice D1 m1 d1, .slice D2 m2 d2] 56)) w7 := (Below.refl _ _).grown hgrow7 hsz6.out (fun b e => (World.ownsRow.lt hO6.out b e).1)
          have nK := Lib.hid (Bk.append_ hK6.out hFx.out (by rw [kKl.out]; exact hown7) hb7)
          have nB := Lib.hid (hB6.out.trans hb7)
          have nP := Lib.hid (hP6.out.but (KeptBut.of_grown hgrow7 (S := fun i => (Value.slice Ab q cb).ownBlock = some i) (fun k e => e)) (fun e => kD.out _ e rfl) (fun i hi e => by have := (World.ownsRow.lt hO6.out i e).1; omega) hsz6.out)
          have nS : w4.heap.size + 2 ≤ w7.heap.size := by have q1 := hgrow7.size; have q2 : (w5.alloc (.cells #[.slice D1 m1 d1, .slice D2 m2 d2] 56)).heap.size = w5.heap.size + 1 := (by simp); have q3 := hs5.out; omega
          have nD := Lib.hid (show ∀ g, (Value.slice (some ⟨gr, 0, none⟩) (q + 1) cr2).ownBlock = some g → g ≠ w4.heap.size + 1 from fun g e => by
            have e2 : gr = g := by simpa [Value.ownBlock] using e
            subst e2
            have q3 := hs5.out
            rcases hat7 with h9 | h9
            · exact kD.out _ h9
            · have q2 : (w5.alloc (.cells #[.slice D1 m1 d1, .slice D2 m2 d2] 56)).heap.size = w5.heap.size + 1 := (by simp)
              omega)
          clear hown7 hgrow7 hat7 hb7
          go_wp2_with fail
          go_roundg (m - (k + 1))
          case measure => omega
          case rel => exact ⟨k + 1, _, by omega, rfl, by go_num, by rw [hlk1.out, if_neg (by rw [hnp.out]; decide)]; exact nK.out, nD.out, by rw [hpt1.out, if_neg (by rw [hnp.out]; decide)]; exact nP.out, nS, nB.out⟩
      · obtain rfl : m = k := by omega
        have htk : Fs.take m = Fs := List.take_of_length_le (by rw [hmh.out]; exact Nat.le_refl _)
        have hKq := kK.out
        have hPq := kP.out
        have hql := kKl.out
        rw [htk] at hKq hPq hql
        rw [hfin.out] at hPq
        have hs4 : w4.heap.size ≤ wr.heap.size := by omega
        have hLs := Lib.hid (hKq.flst hql hs4)
        have hIa5 := Lib.hid ((hIa4.out.below hBw).more hzw)
        have hP5 := Lib.hid hPq
        have hB5 := Lib.hid (hB4.out.trans (hBw.mono hB4.out.size))
        obtain ⟨w80, rfl⟩ : ∃ x : World, x = wr := ⟨_, rfl⟩
        obtain ⟨g80, rfl⟩ : ∃ x : Nat, x = gk := ⟨_, rfl⟩
        have hqM : q ≤ maxLen := by unfold maxLen; omega
        obtain ⟨Bf, hBf⟩ : ∃ Bf : Nat → Int, Bf = fun x => IntKind.i64.wrap (allT Fs (gOf Fs) a b x) := ⟨_, rfl⟩
        have hms2 := Lib.hid (fun (y : Nat) (hy : y < 3) => (show os[y]? = some (msP Bf (fun x => fAtTo (btw Fs a b) (st2 a x b y)) 3) by rw [hBf]; exact hms.out y hy))
        obtain ⟨L3, hL3⟩ : ∃ L : List Int, L = [Bf 0, Bf 1, Bf 2] := ⟨_, rfl⟩
        have hL3n : L3.length = 3 := by rw [hL3]; rfl
        have hget3 := Lib.hid (fun (j : Nat) (hj : j < 3) => (show L3[j]? = some (Bf j) from get3 hL3 hj))
        have cB := Lib.hid (fun wx (hx : FLst wx wx.heap.size Ab q (lessL Fs a b)) => (show Calls Try.prog 47 #[.slice Ab q cb, .int .i64 (a : Int)] wx (Rtd wx L3 (treeOk (lessL Fs a b) && inB (a : Int) 0 3)) by
          have h := BeliefOf_any Ab q cb (lessL Fs a b) (a : Int) wx hx hqM (fun F hF => hsmh.out F (List.mem_filter.1 hF).1)
          rw [hbl.out] at h
          rw [hL3, hBf]
          exact h))
        generalize (treeOk (lessL Fs a b) && inB (a : Int) 0 3) = tb9 at cB
        have hbo9 := Lib.hid hbo.out
        generalize btw Fs a b = P0 at hms2 hP5 hbo9
        clear htk hKq hPq hql hBw kK kD kP kKl kB hIa4 hF4 hB4 hzw hgk hBf hL3 hms hbl hlt hfin hok9 hbo hpt hlk htp hsmh heh htth hmh
        unfold Rtd at cB
        go_wp2_with fail
        refine (cB.out _ hLs.out).mono ?_
        rintro e w5 ⟨v, rfl, ho, hb⟩
        obtain ⟨De, de, rfl, hIe⟩ := ho.frm
        rw [hL3n] at hIe ⊢
        have hIe5 := Lib.hid hIe
        have hIa6 := Lib.hid ((hIa5.out.below hb).more hb.size)
        have hP6 := Lib.hid (hP5.out.below hb (by omega))
        have hB6 := Lib.hid (hB5.out.trans (hb.mono hB5.out.size))
        have hz5 := hb.size
        clear ho hb hIe hLs hIa5 hP5 hB5 cB
        go_wp2_with fail
        go_loopg [115] 3 (fun gq y wr => ∃ s : Nat, s ≤ 3 ∧ gq = 3 - s ∧ y = .int .i64 s ∧ Below w5.heap.size w5 wr)
        case atStart => exact ⟨0, Nat.zero_le _, rfl, rfl, Below.refl _ _⟩
        case round =>
          obtain ⟨s, hs, hgn, rfl, hBw⟩ := hrel
          have hgs : gk = 3 - s := hgn
          have kB := Lib.hid hBw
          have hIe7 := Lib.hid ((hIe5.out.below hBw).more hBw.size)
          have hP7 := Lib.hid (hP6.out.below hBw (by omega))
          have hzw := hBw.size
          clear hgn
          by_cases hlt : s < 3
          · obtain ⟨g, off, d, rfl, hg, hd, cd0⟩ := (hIa6.out.below hBw).at_ hlt
            have hde := Lib.hid (Option.some.inj ((hms2.out s hlt).symm.trans hd))
            have hs0 : (0 : Int) ≤ (s : Int) := by omega
            have hs1 : (s : Int) < 3 := by omega
            obtain ⟨w81, rfl⟩ : ∃ x : World, x = wr := ⟨_, rfl⟩
            obtain ⟨g81, rfl⟩ : ∃ x : Nat, x = gk := ⟨_, rfl⟩
            clear hd hBw
            go_wp2_with fail
            go_loopg [18, 122] 3 (fun gq p y wr => ∃ j : Nat, j ≤ 3 ∧ gq = 3 - j ∧ y = .int .i64 j ∧ p = .int .i64 (msP Bf (fun x => fAtTo P0 (st2 a x b s)) j) ∧ Below w81.heap.size w81 wr)
            case atStart => exact ⟨0, Nat.zero_le _, rfl, rfl, rfl, Below.refl _ _⟩
            case round =>
              obtain ⟨j, hj, hgn, rfl, rfl, hBw⟩ := hrel
              have hgj : gk = 3 - j := hgn
              have kB2 := Lib.hid hBw
              clear hgn
              by_cases hjm : j < 3
              · obtain ⟨g2, off2, n2, rfl, hg2, hn2, ce0⟩ := (hIe7.out.below hBw).at_ hjm
                have hne := Lib.hid (Option.some.inj ((hget3.out j hjm).symm.trans hn2))
                have hP8 := Lib.hid (hP7.out.below hBw (by omega))
                have hj0 : (0 : Int) ≤ (j : Int) := by omega
                have hj1 : (j : Int) < 3 := by omega
                have hzv := hBw.size
                clear hn2 hBw
                obtain ⟨B1, n1, e1, B2, n4, e2, hPh, hPf⟩ := hP8.out
                have hPhh := Lib.hid hPh
                have hPff := Lib.hid hPf
                have hbl := Lib.hid (show n1 ≤ maxLen ∧ n4 ≤ maxLen from by
                  have q := fac_parts hbo9.out
                  have q1 := hPf.1.1
                  have q2 := hPf.2.1
                  have q3 : 3 ^ P0.vs.length ≤ 81 := Nat.le_trans (Nat.pow_le_pow_right (by decide) q.2.2.2.1) (by decide)
                  unfold maxLen
                  omega)
                have hstp := Lib.hid (show msP Bf (fun x => fAtTo P0 (st2 a x b s)) (j + 1) = IntKind.i64.wrap (msP Bf (fun x => fAtTo P0 (st2 a x b s)) j + IntKind.i64.wrap (n2 * fAtTo P0 (st2 a j b s))) from by rw [← hne.out]; rfl)
                have hq1 := Lib.hid (show withValue (withValue 0 (a : Int) (j : Int)) (b : Int) (s : Int) = st2 a j b s from rfl)
                generalize hpz : msP Bf (fun x => fAtTo P0 (st2 a x b s)) j = pz at hstp ⊢
                generalize st2 a j b s = sq at hstp hq1
                obtain ⟨f0, hf0⟩ : ∃ f, fAtTo P0 sq = f := ⟨_, rfl⟩
                have hfa := Lib.hid hf0
                rw [hf0] at hstp
                obtain ⟨y1, hy1⟩ : ∃ y, IntKind.i64.wrap (n2 * f0) = y := ⟨_, rfl⟩
                obtain ⟨y2, hy2⟩ : ∃ y, IntKind.i64.wrap (pz + y1) = y := ⟨_, rfl⟩
                have hY := Lib.hid (show msP Bf (fun x => fAtTo P0 (st2 a x b s)) (j + 1) = y2 from by rw [hstp.out, hy1, hy2])
                clear hPh hPf hpz hf0 hstp
                go_wp2_with fail
                refine wp_region_any (by kernel_rfl) ?_
                change wpAny _ _ _ _ _ _ _ (World.drew _)
                refine wpAny_last (n := 12) (I := fun listed aq wx => listed.size = 13 ∧ ∃ v127 v128 v129 v130 v131 v132 v133 v134 v135 v136 v137 v138 : Value, aq = { tmps := #[.slice A n c, undef, u2, .slice AF m cF, .int .i64 ((a : Nat) : Int), .int .i64 ((b : Nat) : Int), .slice (some ⟨g, off, none⟩) 3 da, .bool true, .slice Db 3 db, .bool true, .slice Ab q cb, .pointer (some ⟨w4.heap.size + 1, 0, none⟩), undef, u13, .slice (some ⟨g2, off2, none⟩) 3 de, .bool tb9, .int .i64 ((s : Nat) : Int), .int .i64 d, .int .i64 (pz), .int .i64 ((j : Nat) : Int), .int .i64 n2, .slice A n c, .int .i64 ((n : Nat) : Int), .bool (decide (1048576 < ((n : Nat) : Int))), .tuple #[.slice AF m cF, .int .i64 ((a : Nat) : Int), .int .i64 ((b : Nat) : Int)], .slice A n c, .tuple #[.slice AF m cF, .int .i64 ((a : Nat) : Int), .int .i64 ((b : Nat) : Int)], .slice AF m cF, .int .i64 ((a : Nat) : Int), .int .i64 ((b : Nat) : Int), .tuple #[.slice (some ⟨g, off, none⟩) 3 da, .bool true], .slice AF m cF, .int .i64 ((a : Nat) : Int), .int .i64 ((b : Nat) : Int), .tuple #[.slice (some ⟨g, off, none⟩) 3 da, .bool true], .slice (some ⟨g, off, none⟩) 3 da, .bool true, .tuple #[.slice Db 3 db, .bool true], .slice AF m cF, .int .i64 ((a : Nat) : Int), .int .i64 ((b : Nat) : Int), .tuple #[.slice Db 3 db, .bool true], .slice Db 3 db, .bool true, .bool true, .bool true, .bool false, .bool false, .slice (some ⟨g, off, none⟩) 3 da, .slice Db 3 db, .bool true, .bool false, .bool false, .bool true, .bool false, undef, undef, undef, .slice (some ⟨w4.heap.size, 0, none⟩) 0 0, .agg #[.slice none 0 0, .slice none 0 0], .slice AF m cF, .int .i64 ((m : Nat) : Int), .int .i64 ((m : Nat) : Int), .bool false, u64, u65, u66, u67, u68, u69, u70, u71, u72, u73, u74, u75, u76, u77, u78, u79, u80, u81, u82, u83, u84, u85, u86, u87, u88, u89, u90, u91, u92, u93, u94, u95, u96, u97, u98, u99, u100, u101, u102, u103, u104, u105, u106, .tuple #[.slice (some ⟨g2, off2, none⟩) 3 de, .bool tb9], .slice Ab q cb, .int .i64 ((a : Nat) : Int), .tuple #[.slice (some ⟨g2, off2, none⟩) 3 de, .bool tb9], .slice (some ⟨g2, off2, none⟩) 3 de, .bool tb9, .slice (some ⟨g, off, none⟩) 3 da, .int .i64 3, .int .i64 ((s : Nat) : Int), .bool true, .int .i64 ((s : Nat) : Int), .pointer (some ⟨g, off + s, none⟩), .int .i64 d, .slice (some ⟨g2, off2, none⟩) 3 de, .int .i64 3, .int .i64 ((j : Nat) : Int), .bool true, .int .i64 ((j : Nat) : Int), .pointer (some ⟨g2, off2 + j, none⟩), .int .i64 n2, v127, v128, v129, v130, v131, v132, v133, v134, v135, v136, v137, v138, u139, u140, u141, u142, u143], defers := [] } ∧ (listed.getD 0 false = true → v127 = .int .i64 (pz)) ∧ (listed.getD 1 false = true → v128 = .int .i64 n2) ∧ (listed.getD 2 false = true → v129 = .agg #[.slice B1 n1 e1, .slice B2 n4 e2]) ∧ (listed.getD 3 false = true → v130 = .int .i64 ((a : Nat) : Int)) ∧ (listed.getD 4 false = true → v131 = .int .i64 ((j : Nat) : Int)) ∧ (listed.getD 5 false = true → v132 = .int .i64 (withValue 0 (a : Int) (j : Int))) ∧ (listed.getD 6 false = true → v133 = .int .i64 ((b : Nat) : Int)) ∧ (listed.getD 7 false = true → v134 = .int .i64 ((s : Nat) : Int)) ∧ (listed.getD 8 false = true → v135 = .int .i64 sq) ∧ (listed.getD 9 false = true → v136 = .int .i64 f0) ∧ (listed.getD 10 false = true → v137 = .int .i64 y1) ∧ (listed.getD 11 false = true → v138 = .int .i64 y2) ∧ Below wr.heap.size wr wx) rfl (by kernel_rfl) (by kernel_rfl) ?hs ?hl _ _ _ ?st rfl (by decide) _ (by decide)
                case st =>
                  refine ⟨rfl, u127, u128, u129, u130, u131, u132, u133, u134, u135, u136, u137, u138, rfl, ?_, ?_, ?_, ?_, ?_, ?_, ?_, ?_, ?_, ?_, ?_, ?_, (Below.refl _ _).drew⟩ <;> (intro e; exact absurd e (by decide))
                case hs =>
                  rintro listed aq wx ⟨hz, v127, v128, v129, v130, v131, v132, v133, v134, v135, v136, v137, v138, rfl, hII⟩ i hin hi
                  obtain ⟨h0, o, ho, hd⟩ := mem_ready.1 hi
                  have K0 := Lib.hid hII.1
                  have K1 := Lib.hid hII.2.1
                  have K2 := Lib.hid hII.2.2.1
                  have K3 := Lib.hid hII.2.2.2.1
                  have K4 := Lib.hid hII.2.2.2.2.1
                  have K5 := Lib.hid hII.2.2.2.2.2.1
                  have K6 := Lib.hid hII.2.2.2.2.2.2.1
                  have K7 := Lib.hid hII.2.2.2.2.2.2.2.1
                  have K8 := Lib.hid hII.2.2.2.2.2.2.2.2.1
                  have K9 := Lib.hid hII.2.2.2.2.2.2.2.2.2.1
                  have K10 := Lib.hid hII.2.2.2.2.2.2.2.2.2.2.1
                  have K11 := Lib.hid hII.2.2.2.2.2.2.2.2.2.2.2.1
                  have hB : Below wr.heap.size wr wx := hII.2.2.2.2.2.2.2.2.2.2.2.2
                  have hne := Lib.hid (fun k (hk : i ≠ k) => @listed_ne listed i k hk)
                  have hxn := Has.kept (by exact hPhh.out) hB
                  have h0f : listed.getD i false = false := by rw [Array.getD_eq_getD_getElem?, getD_false h0]; rfl
                  clear hII hi h0
                  rcases (by omega : i = 0 ∨ i = 1 ∨ i = 2 ∨ i = 3 ∨ i = 4 ∨ i = 5 ∨ i = 6 ∨ i = 7 ∨ i = 8 ∨ i = 9 ∨ i = 10 ∨ i = 11) with rfl | rfl | rfl | rfl | rfl | rfl | rfl | rfl | rfl | rfl | rfl | rfl
                  · cases ho
                    refine wpOp_step rfl (fun K hK => ?_)
                    go_simp
                    refine hK _ _ ⟨by simpa using hz, .int .i64 (pz), v128, v129, v130, v131, v132, v133, v134, v135, v136, v137, v138, rfl, ?_⟩
                    exact ⟨fun _ => rfl, fun e => K1.out (hne.out 1 (by decide) e), fun e => K2.out (hne.out 2 (by decide) e), fun e => K3.out (hne.out 3 (by decide) e), fun e => K4.out (hne.out 4 (by decide) e), fun e => K5.out (hne.out 5 (by decide) e), fun e => K6.out (hne.out 6 (by decide) e), fun e => K7.out (hne.out 7 (by decide) e), fun e => K8.out (hne.out 8 (by decide) e), fun e => K9.out (hne.out 9 (by decide) e), fun e => K10.out (hne.out 10 (by decide) e), fun e => K11.out (hne.out 11 (by decide) e), hB⟩
                  · cases ho
                    refine wpOp_step rfl (fun K hK => ?_)
                    go_simp
                    refine hK _ _ ⟨by simpa using hz, v127, .int .i64 n2, v129, v130, v131, v132, v133, v134, v135, v136, v137, v138, rfl, ?_⟩
                    exact ⟨fun e => K0.out (hne.out 0 (by decide) e), fun _ => rfl, fun e => K2.out (hne.out 2 (by decide) e), fun e => K3.out (hne.out 3 (by decide) e), fun e => K4.out (hne.out 4 (by decide) e), fun e => K5.out (hne.out 5 (by decide) e), fun e => K6.out (hne.out 6 (by decide) e), fun e => K7.out (hne.out 7 (by decide) e), fun e => K8.out (hne.out 8 (by decide) e), fun e => K9.out (hne.out 9 (by decide) e), fun e => K10.out (hne.out 10 (by decide) e), fun e => K11.out (hne.out 11 (by decide) e), hB⟩
                  · cases ho
                    have hcnc := hxn.cell
                    refine wpOp_step rfl (fun K hK => ?_)
                    go_simp
                    refine hK _ _ ⟨by simpa using hz, v127, v128, .agg #[.slice B1 n1 e1, .slice B2 n4 e2], v130, v131, v132, v133, v134, v135, v136, v137, v138, rfl, ?_⟩
                    exact ⟨fun e => K0.out (hne.out 0 (by decide) e), fun e => K1.out (hne.out 1 (by decide) e), fun _ => rfl, fun e => K3.out (hne.out 3 (by decide) e), fun e => K4.out (hne.out 4 (by decide) e), fun e => K5.out (hne.out 5 (by decide) e), fun e => K6.out (hne.out 6 (by decide) e), fun e => K7.out (hne.out 7 (by decide) e), fun e => K8.out (hne.out 8 (by decide) e), fun e => K9.out (hne.out 9 (by decide) e), fun e => K10.out (hne.out 10 (by decide) e), fun e => K11.out (hne.out 11 (by decide) e), hB⟩
                  · cases ho
                    refine wpOp_step rfl (fun K hK => ?_)
                    go_simp
                    refine hK _ _ ⟨by simpa using hz, v127, v128, v129, .int .i64 ((a : Nat) : Int), v131, v132, v133, v134, v135, v136, v137, v138, rfl, ?_⟩
                    exact ⟨fun e => K0.out (hne.out 0 (by decide) e), fun e => K1.out (hne.out 1 (by decide) e), fun e => K2.out (hne.out 2 (by decide) e), fun _ => rfl, fun e => K4.out (hne.out 4 (by decide) e), fun e => K5.out (hne.out 5 (by decide) e), fun e => K6.out (hne.out 6 (by decide) e), fun e => K7.out (hne.out 7 (by decide) e), fun e => K8.out (hne.out 8 (by decide) e), fun e => K9.out (hne.out 9 (by decide) e), fun e => K10.out (hne.out 10 (by decide) e), fun e => K11.out (hne.out 11 (by decide) e), hB⟩
                  · cases ho
                    refine wpOp_step rfl (fun K hK => ?_)
                    go_simp
                    refine hK _ _ ⟨by simpa using hz, v127, v128, v129, v130, .int .i64 ((j : Nat) : Int), v132, v133, v134, v135, v136, v137, v138, rfl, ?_⟩
                    exact ⟨fun e => K0.out (hne.out 0 (by decide) e), fun e => K1.out (hne.out 1 (by decide) e), fun e => K2.out (hne.out 2 (by decide) e), fun e => K3.out (hne.out 3 (by decide) e), fun _ => rfl, fun e => K5.out (hne.out 5 (by decide) e), fun e => K6.out (hne.out 6 (by decide) e), fun e => K7.out (hne.out 7 (by decide) e), fun e => K8.out (hne.out 8 (by decide) e), fun e => K9.out (hne.out 9 (by decide) e), fun e => K10.out (hne.out 10 (by decide) e), fun e => K11.out (hne.out 11 (by decide) e), hB⟩
                  · cases ho
                    have d3 := hd ⟨3, .data⟩ (by simp) rfl
                    have d4 := hd ⟨4, .data⟩ (by simp) rfl
                    obtain rfl := K3.out d3
                    obtain rfl := K4.out d4
                    refine wpOp_step rfl (fun K hK => ?_)
                    go_simp
                    go_at_call 49
                    refine (WithValue_any 0 (a : Int) (j : Int) _).mono ?_
                    rintro e w3 ⟨rfl, rfl⟩
                    refine hK _ _ ⟨by simpa using hz, v127, v128, v129, .int .i64 ((a : Nat) : Int), .int .i64 ((j : Nat) : Int), .int .i64 (withValue 0 (a : Int) (j : Int)), v133, v134, v135, v136, v137, v138, rfl, ?_⟩
                    exact ⟨fun e => K0.out (hne.out 0 (by decide) e), fun e => K1.out (hne.out 1 (by decide) e), fun e => K2.out (hne.out 2 (by decide) e), fun e => K3.out (hne.out 3 (by decide) e), fun e => K4.out (hne.out 4 (by decide) e), fun _ => rfl, fun e => K6.out (hne.out 6 (by decide) e), fun e => K7.out (hne.out 7 (by decide) e), fun e => K8.out (hne.out 8 (by decide) e), fun e => K9.out (hne.out 9 (by decide) e), fun e => K10.out (hne.out 10 (by decide) e), fun e => K11.out (hne.out 11 (by decide) e), hB⟩
                  · cases ho
                    refine wpOp_step rfl (fun K hK => ?_)
                    go_simp
                    refine hK _ _ ⟨by simpa using hz, v127, v128, v129, v130, v131, v132, .int .i64 ((b : Nat) : Int), v134, v135, v136, v137, v138, rfl, ?_⟩
                    exact ⟨fun e => K0.out (hne.out 0 (by decide) e), fun e => K1.out (hne.out 1 (by decide) e), fun e => K2.out (hne.out 2 (by decide) e), fun e => K3.out (hne.out 3 (by decide) e), fun e => K4.out (hne.out 4 (by decide) e), fun e => K5.out (hne.out 5 (by decide) e), fun _ => rfl, fun e => K7.out (hne.out 7 (by decide) e), fun e => K8.out (hne.out 8 (by decide) e), fun e => K9.out (hne.out 9 (by decide) e), fun e => K10.out (hne.out 10 (by decide) e), fun e => K11.out (hne.out 11 (by decide) e), hB⟩
                  · cases ho
                    refine wpOp_step rfl (fun K hK => ?_)
                    go_simp
                    refine hK _ _ ⟨by simpa using hz, v127, v128, v129, v130, v131, v132, v133, .int .i64 ((s : Nat) : Int), v135, v136, v137, v138, rfl, ?_⟩
                    exact ⟨fun e => K0.out (hne.out 0 (by decide) e), fun e => K1.out (hne.out 1 (by decide) e), fun e => K2.out (hne.out 2 (by decide) e), fun e => K3.out (hne.out 3 (by decide) e), fun e => K4.out (hne.out 4 (by decide) e), fun e => K5.out (hne.out 5 (by decide) e), fun e => K6.out (hne.out 6 (by decide) e), fun _ => rfl, fun e => K8.out (hne.out 8 (by decide) e), fun e => K9.out (hne.out 9 (by decide) e), fun e => K10.out (hne.out 10 (by decide) e), fun e => K11.out (hne.out 11 (by decide) e), hB⟩
                  · cases ho
                    have d5 := hd ⟨5, .data⟩ (by simp) rfl
                    have d6 := hd ⟨6, .data⟩ (by simp) rfl
                    have d7 := hd ⟨7, .data⟩ (by simp) rfl
                    obtain rfl := K5.out d5
                    obtain rfl := K6.out d6
                    obtain rfl := K7.out d7
                    refine wpOp_step rfl (fun K hK => ?_)
                    go_simp
                    go_at_call 49
                    refine (WithValue_any (withValue 0 (a : Int) (j : Int)) (b : Int) (s : Int) _).mono ?_
                    rw [hq1.out]
                    rintro e w3 ⟨rfl, rfl⟩
                    refine hK _ _ ⟨by simpa using hz, v127, v128, v129, v130, v131, .int .i64 (withValue 0 (a : Int) (j : Int)), .int .i64 ((b : Nat) : Int), .int .i64 ((s : Nat) : Int), .int .i64 sq, v136, v137, v138, rfl, ?_⟩
                    exact ⟨fun e => K0.out (hne.out 0 (by decide) e), fun e => K1.out (hne.out 1 (by decide) e), fun e => K2.out (hne.out 2 (by decide) e), fun e => K3.out (hne.out 3 (by decide) e), fun e => K4.out (hne.out 4 (by decide) e), fun e => K5.out (hne.out 5 (by decide) e), fun e => K6.out (hne.out 6 (by decide) e), fun e => K7.out (hne.out 7 (by decide) e), fun _ => rfl, fun e => K9.out (hne.out 9 (by decide) e), fun e => K10.out (hne.out 10 (by decide) e), fun e => K11.out (hne.out 11 (by decide) e), hB⟩
                  · cases ho
                    have d2 := hd ⟨2, .data⟩ (by simp) rfl
                    have d8 := hd ⟨8, .data⟩ (by simp) rfl
                    obtain rfl := K2.out d2
                    obtain rfl := K8.out d8
                    refine wpOp_step rfl (fun K hK => ?_)
                    go_simp
                    go_at_call 48
                    refine (FactorAt_any B1 B2 n1 e1 n4 e2 P0 sq _ ((hPff.out.keep_ (hB.mono (by omega))).more (Nat.le_trans (by omega) hB.size)) hbl.out.1 hbl.out.2).mono ?_
                    rw [hfa.out]
                    rintro e w3 ⟨rfl, hb3⟩
                    refine hK _ _ ⟨by simpa using hz, v127, v128, .agg #[.slice B1 n1 e1, .slice B2 n4 e2], v130, v131, v132, v133, v134, .int .i64 sq, .int .i64 f0, v137, v138, rfl, ?_⟩
                    exact ⟨fun e => K0.out (hne.out 0 (by decide) e), fun e => K1.out (hne.out 1 (by decide) e), fun e => K2.out (hne.out 2 (by decide) e), fun e => K3.out (hne.out 3 (by decide) e), fun e => K4.out (hne.out 4 (by decide) e), fun e => K5.out (hne.out 5 (by decide) e), fun e => K6.out (hne.out 6 (by decide) e), fun e => K7.out (hne.out 7 (by decide) e), fun e => K8.out (hne.out 8 (by decide) e), fun _ => rfl, fun e => K10.out (hne.out 10 (by decide) e), fun e => K11.out (hne.out 11 (by decide) e), hB.trans (hb3.mono hB.size)⟩
                  · cases ho
                    have d1 := hd ⟨1, .data⟩ (by simp) rfl
                    have d9 := hd ⟨9, .data⟩ (by simp) rfl
                    obtain rfl := K1.out d1
                    obtain rfl := K9.out d9
                    refine wpOp_step rfl (fun K hK => ?_)
                    go_simp
                    refine hK _ _ ⟨by simpa using hz, v127, .int .i64 n2, v129, v130, v131, v132, v133, v134, v135, .int .i64 f0, .int .i64 y1, v138, rfl, ?_⟩
                    exact ⟨fun e => K0.out (hne.out 0 (by decide) e), fun e => K1.out (hne.out 1 (by decide) e), fun e => K2.out (hne.out 2 (by decide) e), fun e => K3.out (hne.out 3 (by decide) e), fun e => K4.out (hne.out 4 (by decide) e), fun e => K5.out (hne.out 5 (by decide) e), fun e => K6.out (hne.out 6 (by decide) e), fun e => K7.out (hne.out 7 (by decide) e), fun e => K8.out (hne.out 8 (by decide) e), fun e => K9.out (hne.out 9 (by decide) e), fun _ => rfl, fun e => K11.out (hne.out 11 (by decide) e), hB⟩
                  · cases ho
                    have d0 := hd ⟨0, .data⟩ (by simp) rfl
                    have d10 := hd ⟨10, .data⟩ (by simp) rfl
                    obtain rfl := K0.out d0
                    obtain rfl := K10.out d10
                    refine wpOp_step rfl (fun K hK => ?_)
                    go_simp
                    refine hK _ _ ⟨by simpa using hz, .int .i64 (pz), v128, v129, v130, v131, v132, v133, v134, v135, v136, .int .i64 y1, .int .i64 y2, rfl, ?_⟩
                    exact ⟨fun e => K0.out (hne.out 0 (by decide) e), fun e => K1.out (hne.out 1 (by decide) e), fun e => K2.out (hne.out 2 (by decide) e), fun e => K3.out (hne.out 3 (by decide) e), fun e => K4.out (hne.out 4 (by decide) e), fun e => K5.out (hne.out 5 (by decide) e), fun e => K6.out (hne.out 6 (by decide) e), fun e => K7.out (hne.out 7 (by decide) e), fun e => K8.out (hne.out 8 (by decide) e), fun e => K9.out (hne.out 9 (by decide) e), fun e => K10.out (hne.out 10 (by decide) e), fun _ => rfl, hB⟩
                case hl =>
                  rintro listed aq wx ⟨hz, v127, v128, v129, v130, v131, v132, v133, v134, v135, v136, v137, v138, rfl, hII⟩ hall
                  have K0 := Lib.hid hII.1
                  have K1 := Lib.hid hII.2.1
                  have K2 := Lib.hid hII.2.2.1
                  have K3 := Lib.hid hII.2.2.2.1
                  have K4 := Lib.hid hII.2.2.2.2.1
                  have K5 := Lib.hid hII.2.2.2.2.2.1
                  have K6 := Lib.hid hII.2.2.2.2.2.2.1
                  have K7 := Lib.hid hII.2.2.2.2.2.2.2.1
                  have K8 := Lib.hid hII.2.2.2.2.2.2.2.2.1
                  have K9 := Lib.hid hII.2.2.2.2.2.2.2.2.2.1
                  have K10 := Lib.hid hII.2.2.2.2.2.2.2.2.2.2.1
                  have K11 := Lib.hid hII.2.2.2.2.2.2.2.2.2.2.2.1
                  have hB : Below wr.heap.size wr wx := hII.2.2.2.2.2.2.2.2.2.2.2.2
                  have hxn := Has.kept (by exact hPhh.out) hB
                  clear hII
                  obtain rfl := K0.out (hall 0 (by decide))
                  obtain rfl := K1.out (hall 1 (by decide))
                  obtain rfl := K2.out (hall 2 (by decide))
                  obtain rfl := K3.out (hall 3 (by decide))
                  obtain rfl := K4.out (hall 4 (by decide))
                  obtain rfl := K5.out (hall 5 (by decide))
                  obtain rfl := K6.out (hall 6 (by decide))
                  obtain rfl := K7.out (hall 7 (by decide))
                  obtain rfl := K8.out (hall 8 (by decide))
                  obtain rfl := K9.out (hall 9 (by decide))
                  obtain rfl := K10.out (hall 10 (by decide))
                  obtain rfl := K11.out (hall 11 (by decide))
                  clear hall K0 K1 K2 K3 K4 K5 K6 K7 K8 K9 K10 K11
                  refine wpOp_step rfl (fun K0 hK0 => ?_)
                  go_simp
                  refine hK0 _ _ ?_
                  clear hK0
                  have nB := Lib.hid (kB2.out.trans (hB.mono kB2.out.size))
                  go_wp2_with fail
                  go_roundg (3 - (j + 1))
                  case measure => omega
                  case rel => exact ⟨j + 1, by omega, rfl, by go_num, by rw [hY.out], nB.out⟩
              · obtain rfl : 3 = j := by omega
                rw [hde.out]
                have nB := Lib.hid (kB.out.trans (hBw.mono kB.out.size))
                clear hBw
                go_wp2_with fail
                go_roundg (3 - (s + 1))
                case measure => omega
                case rel => exact ⟨s + 1, by omega, rfl, by go_num, nB.out⟩
          · obtain rfl : 3 = s := by omega
            have hB7 := Lib.hid (hB6.out.trans (hBw.mono hB6.out.size))
            clear hBw
            go_wp2_with fail
            go_ret
            exact ⟨rfl, hB7.out⟩
end Go.Proofs.Ytghkpmafocacoaa
