/- Diagrams: the drawn list; two diagrams held against each other. Diagrams: the walk of FnDiagramOf, and the plain facts that it asks for. -/
import Derived.Test.YtghkpmafocacoaaOr
import Derived.Test.YtghkpmafocacoaaDx
import Derived.Test.YtghkpmafocacoaaWs
import Derived.Test.YtghkpmafocacoaaOa
import Derived.Test.YtghkpmafocacoaaOpB
import Derived.ProofKit
import Derived.OpenShut
import Derived.ShutString
import Derived.ChangeOld
import Derived.Below
namespace Go.Proofs.Ytghkpmafocacoaa
set_option maxRecDepth 100000
set_option linter.unusedVariables false
open Go.RowKit

theorem isum_sum : ∀ ds : List Int, isum ds = ds.sum
  | [] => rfl
  | d :: r => by
    have h := isum_sum r
    simp [isum] at h ⊢
    try omega
theorem DrawDiagramOf_any (A : Option Addr) (n c : Nat) (w : World) (h : Byt w w.heap.size A n) (hn : n ≤ c) (hc : c ≤ maxLen) :
    Calls Try.prog 40 #[.slice A n c] w (Nmd w) := by
  have hO := Lib.hid (l40Open_any A n c _ h hn hc)
  clear h hc
  go_enter Try.func40, Try.ntmps40
  go_wp2_with fail
  refine (hO.out).mono ?_
  rintro e w1 ⟨rfl, ⟨n', hn', hrd⟩, hb1⟩
  have hz1 : w.heap.size < w1.heap.size := hrd.lt
  have hrdh := Lib.hid hrd
  have hbh := Lib.hid hb1
  clear hO hrd hb1
  go_wp2_with fail
  refine (l4Draw_any A n' c 0 w1 w hrdh.out (by omega) hn' hbh.out).mono ?_
  rintro e w3 ⟨v, ds, rfl, hI, hl, hb⟩
  have hF := Lib.hid (show Nmd w (.returned v) w3 from ⟨v, ds, rfl, hI, hl, hb⟩)
  clear hI hb
  go_wp2_with fail
  go_ret
  exact hF.out
theorem wcCells_same (A A2 : Option Addr) (n c c2 : Nat) (ds : List Ce) (w : World) (h : CLst w w.heap.size A n ds) (h2 : CLst w w.heap.size A2 n ds) (hn : n ≤ maxLen) :
    Calls Try.prog 41 #[.slice A n c, .slice A2 n c2] w fun e w' => e = .returned (.bool true) ∧ ∃ m, w' = w.drewN m := by
  unfold maxLen at hn
  have eqC := eqCe
  have hH := Lib.hid h
  have hH2 := Lib.hid h2
  clear h h2
  go_enter Try.func41, Try.ntmps41
  go_wp2
  go_loopw [13] (fun i wr => ∃ k m : Nat, k ≤ n ∧ i = .int .i64 k ∧ wr = w.drewN m) (fun i _ => n - (intOf i).toNat)
  case atStart => exact ⟨0, 0, Nat.zero_le _, rfl, rfl⟩
  case round =>
    obtain ⟨k, m, hk, rfl, hw⟩ := hrel
    have h1 : CLst wr wr.heap.size A n ds := by rw [hw]; exact hH.out
    have h2 : CLst wr wr.heap.size A2 n ds := by rw [hw]; exact hH2.out
    have hW := Lib.hid hw
    clear hw
    by_cases hlt : k < n
    · obtain ⟨g, off, rfl, hg, hat⟩ := h1.gt_ hlt
      obtain ⟨g2, off2, rfl, hg2, hat2⟩ := h2.gt_ hlt
      obtain ⟨c0, c1, c2', c3, c4⟩ := hat.open_
      obtain ⟨d0, d1, d2, d3, d4⟩ := hat2.open_
      generalize gt ds k = s at *
      have hss : ceq s s = true := ceq_iff.2 rfl
      have hk0 : (0 : Int) ≤ (k : Int) := Int.natCast_nonneg _
      have hk1 : (k : Int) < (n : Int) := by omega
      clear hat hat2 h1 h2
      go_wp2
      go_quiet (fail)
      go_wp2
      exact ⟨⟨k + 1, m + nq, by omega, by go_num, by rw [hW.out, World.drewN_drewN]⟩, by simp [intOf]; omega⟩
    · clear h1 h2
      go_wp2
      go_ret
      exact ⟨rfl, m, hW.out⟩
end Go.Proofs.Ytghkpmafocacoaa

namespace Go.Proofs.Ytghkpmafocacoaa
set_option maxRecDepth 100000
set_option linter.unusedVariables false
open Go.ChangeShapes Go.WideShapes Go.ChangeAt Go.RowKit

theorem fl_list {os : List Int} (h : os.length = 81) : (List.range 81).map (fl os) = os := by
  apply List.ext_getElem?
  intro i
  rw [List.getElem?_map]
  by_cases hi : i < 81
  · rw [List.getElem?_range hi, fl_get (by omega)]
    rfl
  · rw [List.getElem?_eq_none (by simp; omega), List.getElem?_eq_none (by omega)]
    rfl
theorem fl_in {os : List Int} (h : lstOk 1000000000 os = true) {s : Nat} (hs : s < 81) : inB (fl os s) 0 1000000000 = true := by
  obtain ⟨h1, h2⟩ := lstOk_bd h
  exact inB_iff.2 (h2 _ (List.mem_of_getElem? (fl_get (by omega))))
theorem do_ok {os : List Int} (h : lstOk 1000000000 os = true) : diaOk (mkd (fl os)) = true := mkd_ok fun s hs => fl_in h hs
theorem do_at {os : List Int} (h : lstOk 1000000000 os = true) {k : Nat} (hk : k < 81) : dAt (mkd (fl os)) (k : Int) = fl os k := by
  unfold dAt
  rw [if_pos ⟨do_ok h, inB_iff.2 ⟨by omega, by omega⟩⟩, Int.toNat_natCast]
  exact mkd_num (fl os) hk
theorem do_far (ds : List Ce) : dAt ds 81 = -1 := by
  unfold dAt
  rw [if_neg]
  rintro ⟨_, h⟩
  have := inB_iff.1 h
  omega
theorem do_sum {os : List Int} (h : lstOk 1000000000 os = true) : dsum (mkd (fl os)) = isum os := by
  unfold dsum
  rw [if_pos (do_ok h), dlist_mkd, fl_list (lstOk_bd h).1, isum_sum]
theorem do_ne (f : Nat → Int) {j k : Nat} (hj : j < k) (hk : k < (mkd f).length) : gt (mkd f) j ≠ gt (mkd f) k := by
  have hn : (mkd f).Nodup := mk_nodup f 4 [] 0 List.nodup_nil
  intro e
  have h1 : (mkd f)[j]'(by omega) = (mkd f)[k] := by
    have a := gt_some (ds := mkd f) (i := j) (by omega)
    have b := gt_some (ds := mkd f) (i := k) hk
    rw [List.getElem?_eq_getElem (by omega)] at a b
    rw [Option.some.inj a, Option.some.inj b, e]
  have := (List.getElem_inj (h₀ := by omega) (h₁ := hk) hn).1 h1
  omega
theorem do_kids (f : Nat → Int) {k : Nat} (hk : k < (mkd f).length) (h0 : 0 ≤ (gt (mkd f) k).v) : ¬ ((gt (mkd f) k).a = (gt (mkd f) k).b ∧ (gt (mkd f) k).b = (gt (mkd f) k).c) := by
  rcases (mkd_wf f).1 k hk with h | ⟨_, _, _, h⟩
  · rw [h] at h0
    exact absurd h0 (by show ¬ (0:Int) ≤ -1; decide)
  · rintro ⟨h1, h2⟩
    exact h ⟨h1.symm, by rw [← h2, h1]⟩
theorem do_top : ∀ {os : List Int}, (∀ x ∈ os, x ≤ 1000000000) → isum os ≤ os.length * 1000000000
  | [], _ => by simp [isum]
  | x :: r, h => by
    have h1 := h x List.mem_cons_self
    have h2 := do_top (os := r) fun y hy => h y (List.mem_cons_of_mem _ hy)
    rw [isum, List.length_cons]
    omega
set_option maxHeartbeats 4000000 in
theorem walkDO {H : Type} (enc : TypeId × Value → H) (W : World) (base : Nat) (v0 : Value) (d0 : DataW H) (p0 : List MemPlace) (hv0 : Value.okWide Try.prog W .any base 43 v0)
    (h0 : DataW.Trod enc Try.prog W 0 (fun _ => true) true 43 v0 d0 p0) (_ : ∀ x ∈ p0, x.block < W.heap.size) :
    Calls Try.prog 11 #[v0] W fun e w' => e = .returned (.bool true) ∧ Below W.heap.size W w' := by
  obtain ⟨A, n, c, rfl, hn, hc, hb⟩ := open_bytes hv0 h0
  clear hv0 h0
  have hcM := Lib.hid hc
  have hnn : n ≤ 9223372036854775807 := by unfold maxLen at hc; omega
  clear hc
  have eqC := eqCe
  by_cases hbig : 1048576 < n
  · go_enter Try.func11, Try.ntmps11
    go_wp2_with fail
    go_ret
    exact ⟨rfl, Below.refl _ _⟩
  go_enter Try.func11, Try.ntmps11
  go_wp2_with fail
  refine (DrawDiagramOf_any A n c _ hb hn hcM.out).mono ?_
  rintro e w1 ⟨u, os, rfl, hI1, hl82, hB1⟩
  obtain ⟨A1, c1, hu, _, _⟩ := hI1.form
  subst hu
  have i1 := Lib.hid hI1.lst
  have b1 := Lib.hid hB1
  have h1z := hB1.size
  clear hI1 hb hB1
  go_wp2_with fail
  refine (DiagramOf_any A1 os.length c1 os w1 i1.out (by unfold maxLen; omega)).mono ?_
  rintro e w2 ⟨v2, rfl, hO2, hb2⟩
  obtain ⟨A2, c2, hv2, hc21, hc22⟩ := hO2.form
  subst hv2
  have i2 := Lib.hid ((i1.out.below hb2).more hb2.size)
  have l2 := Lib.hid (COwn.lst hO2)
  have b2 := Lib.hid (b1.out.trans (hb2.mono h1z))
  have h2z : W.heap.size ≤ w2.heap.size := b2.out.size
  have hc2h := Lib.hid hc22
  have hc2l := Lib.hid hc21
  clear hO2 hb2 i1 b1 hc21 hc22
  go_wp2_with fail
  refine (specDiagramOf_any A1 os.length c1 os w2 i2.out (by unfold maxLen; omega)).mono ?_
  rintro e w3 ⟨v3, rfl, hO3, hb3⟩
  obtain ⟨A3, c3, hv3, _, _⟩ := hO3.form
  subst hv3
  have i3 := Lib.hid ((i2.out.below hb3).more hb3.size)
  have l3 := Lib.hid ((l2.out.below hb3).more hb3.size)
  have m3 := Lib.hid (COwn.lst hO3)
  have b3 := Lib.hid (b2.out.trans (hb3.mono h2z))
  have h3z : W.heap.size ≤ w3.heap.size := b3.out.size
  clear hO3 hb3 i2 l2 b2
  have hDl : (dOf os).length ≤ 121 := by
    unfold dOf
    split
    · exact (mkd_wf _).2.2.1
    · exact Nat.zero_le _
  have cW := Lib.hid (wcCells_same A2 A3 (dOf os).length c2 c3 (dOf os) w3 l3.out m3.out (by unfold maxLen; omega))
  cases hk : lstOk 1000000000 os
  · have hD0 : dOf os = [] := by unfold dOf; rw [hk]; rfl
    rw [hD0] at cW
    have hk' := hk
    rw [hD0]
    clear hk hD0 hDl
    go_wp2_with fail
    refine cW.out.mono ?_
    rintro e w4 ⟨rfl, m, rfl⟩
    go_wp2_with fail
    go_ret
    exact ⟨rfl, below_drewN b3.out _⟩
  · have hD1 : dOf os = mkd (fl os) := if_pos hk
    have h81 := (lstOk_bd hk).1
    rw [hD1] at cW l3 hDl hc2l
    have hat := Lib.hid (fun (k : Nat) (hk1 : k < 81) => do_at hk hk1)
    have hsum := Lib.hid (do_sum hk)
    have hne := Lib.hid (fun (j k : Nat) (hj : j < k) hk2 => do_ne (fl os) hj hk2)
    have hkd := Lib.hid (fun (k : Nat) hk2 h9 => do_kids (fl os) (k := k) hk2 h9)
    have hfl := Lib.hid (fun (k : Nat) (hk1 : k < 81) => fl_get (os := os) (s := k) (by omega))
    have hsb := Lib.hid (lstOk_bd hk)
    have hlen81 := Lib.hid h81
    generalize mkd (fl os) = D at *
    have cA := Lib.hid (fun (k : Int) (wx : World) (hx : CLst wx wx.heap.size A2 D.length D) => DiagramAt_any A2 D.length c2 D k wx hx (by unfold maxLen; omega) hc2h.out hc2l.out)
    have cS := Lib.hid (fun (wx : World) (hx : CLst wx wx.heap.size A2 D.length D) => DiagramSum_any A2 D.length c2 D wx hx (by unfold maxLen; omega) hc2h.out hc2l.out)
    have cT := Lib.hid (fun (wx : World) (hx : Ils wx wx.heap.size A1 os.length os) => wcSum_any A1 os.length c1 os wx hx (by omega) (fun x hx => (hsb.out.2 x hx).1) (by have := do_top (fun x hx => (hsb.out.2 x hx).2); rw [h81] at this; omega))
    rw [hD1]
    have ho81 : os.length ≤ 81 := by omega
    clear hk hD1 h81 hl82
    go_wp2_with fail
    refine cW.out.mono ?_
    rintro e w4 ⟨rfl, m, hw4⟩
    have hb4 : Below w3.heap.size w3 w4 := by rw [hw4]; exact below_drewN (Below.refl _ _) _
    have i4 := Lib.hid ((i3.out.below hb4).more hb4.size)
    have l4 := Lib.hid ((l3.out.below hb4).more hb4.size)
    have b4 := Lib.hid (b3.out.trans (hb4.mono h3z))
    have h4z : W.heap.size ≤ w4.heap.size := b4.out.size
    clear hw4 hb4 i3 l3 b3 m3 cW
    go_wp2_with fail
    go_loopg [44] os.length (fun gq y wr => ∃ s : Nat, s ≤ os.length ∧ gq = os.length - s ∧ y = .int .i64 s ∧ Below w4.heap.size w4 wr)
    case atStart => exact ⟨0, Nat.zero_le _, rfl, rfl, Below.refl _ _⟩
    case round =>
      obtain ⟨s, hs, hgn, rfl, hBw⟩ := hrel
      have hgs : gk = os.length - s := hgn
      have kB := Lib.hid hBw
      have i5 := Lib.hid ((i4.out.below hBw).more hBw.size)
      have l5 := Lib.hid ((l4.out.below hBw).more hBw.size)
      have b5 := Lib.hid (b4.out.trans (hBw.mono h4z))
      clear hgn
      by_cases hlt : s < os.length
      · obtain ⟨g, off, d, rfl, hg, hd, cd0⟩ := (i4.out.below hBw).at_ hlt
        have hs81 : s < 81 := by omega
        have hde : d = fl os s := Option.some.inj (hd.symm.trans (hfl.out s hs81))
        have hatk := hat.out s hs81
        rw [← hde] at hatk
        have cAs := Lib.hid (cA.out (s : Int) _ l5.out)
        rw [hatk] at cAs
        have hs0 : (0 : Int) ≤ (s : Int) := by omega
        have hs1 : (s : Int) < (os.length : Int) := by omega
        clear hd hBw hde hatk
        go_wp2_with fail
        refine cAs.out.mono ?_
        rintro e w9 ⟨rfl, hb⟩
        have nB := Lib.hid (kB.out.trans (hb.mono kB.out.size))
        clear hb
        go_wp2_with fail
        go_roundg (os.length - (s + 1))
        case measure => omega
        case rel => exact ⟨s + 1, by omega, rfl, by go_num, nB.out⟩
      · obtain rfl : s = os.length := by omega
        obtain ⟨w10, rfl⟩ : ∃ x : World, x = wr := ⟨_, rfl⟩
        have h10 : W.heap.size ≤ w10.heap.size := b5.out.size
        have cS5 := Lib.hid (cS.out _ l5.out)
        clear hBw kB hgs i4 l4 b4
        generalize hDn : D.length = n0 at *
        go_wp2_with fail
        go_loopg [57] n0 (fun gq y wr => ∃ i : Nat, i ≤ n0 ∧ gq = n0 - i ∧ y = .int .i64 i ∧ Below w10.heap.size w10 wr)
        case atStart => exact ⟨0, Nat.zero_le _, rfl, rfl, Below.refl _ _⟩
        case round =>
          obtain ⟨i, hi, hgn, rfl, hBw⟩ := hrel
          have hgi : gk = n0 - i := hgn
          have kB := Lib.hid hBw
          have l6 := Lib.hid ((l5.out.below hBw).more hBw.size)
          clear hgn
          by_cases hlt : i < n0
          · obtain ⟨g, off, rfl, hg, hce⟩ := (l5.out.below hBw).gt_ hlt
            obtain ⟨f0, f1, f2, f3, f4⟩ := hce.open_
            have hi0 : (0 : Int) ≤ (i : Int) := by omega
            have hi1 : (i : Int) < (n0 : Int) := by omega
            have hkk := Lib.hid (hkd.out i hlt)
            have hneq := Lib.hid (fun j (hj : j < i) => hne.out j i hj hlt)
            generalize gt D i = t at f0 f1 f2 f3 f4 hkk hneq
            have hBn : Below wr.heap.size wr (wr.alloc (.cells #[.int .i64 t.v, .int .i64 t.n, .int .i64 t.a, .int .i64 t.b, .int .i64 t.c] 47)) := (Below.refl _ _).alloc (Nat.le_refl _) _
            have hW := Lib.hid (Has.new wr 47 #[.int .i64 t.v, .int .i64 t.n, .int .i64 t.a, .int .i64 t.b, .int .i64 t.c])
            have l7 := Lib.hid ((l6.out.below hBn).more hBn.size)
            have b7 := Lib.hid (hBw.trans (hBn.mono hBw.size))
            have hzz := b7.out.size
            clear hce hBw hBn
            go_wp2_with fail
            generalize hP : wr.heap.size = P at hW ⊢
            generalize wr.alloc (.cells #[.int .i64 t.v, .int .i64 t.n, .int .i64 t.a, .int .i64 t.b, .int .i64 t.c] 47) = w11 at hW l7 b7 hzz ⊢
            clear f0 f1 f2 f3 f4 kB l6 hP
            go_loopg [12] i (fun gq y wx => ∃ (k m : Nat), k ≤ i ∧ gq = i - k ∧ y = .int .i64 (k : Int) ∧ wx = w11.drewN m)
            case atStart => exact ⟨0, 0, Nat.zero_le _, rfl, rfl, rfl⟩
            case round =>
              obtain ⟨k, m9, hk, hgn, rfl, hw⟩ := hrel
              have hgk : gk = i - k := hgn
              clear hgn
              have hbx : Below w11.heap.size w11 wr := by rw [hw]; exact below_drewN (Below.refl _ _) _
              have hWx := Lib.hid hw
              have hxc := (hW.out.kept hbx).cell
              by_cases hki : k < i
              · obtain ⟨g2, off2, e2, hg2, hat2⟩ := (l7.out.below hbx).gt_ (show k < n0 by omega)
                obtain ⟨q0, q1, q2, q3, q4⟩ := hat2.open_
                injection e2 with e2
                injection e2 with e2 e3 _
                subst e2 e3
                have hcf : ceq (gt D k) t = false := by
                  cases hq : ceq (gt D k) t
                  · rfl
                  · exact absurd (ceq_iff.1 hq) (hneq.out k hki)
                have hk0 : (0 : Int) ≤ (k : Int) := by omega
                have hk1 : (k : Int) < (n0 : Int) := by omega
                have hk2 : (k : Int) < (i : Int) := by omega
                generalize gt D k = t2 at q0 q1 q2 q3 q4 hcf
                clear hat2 hw hbx
                go_wp2_with fail
                go_quiet (fail)
                go_wp2_with fail
                go_roundg (i - (k + 1))
                case measure => omega
                case rel => exact ⟨k + 1, m9 + nq, by omega, rfl, by go_num, by rw [hWx.out, World.drewN_drewN]⟩
              · obtain rfl : i = k := by omega
                have nB := Lib.hid (b7.out.trans (hbx.mono hzz))
                have hkf := Lib.hid hkk.out
                clear hw hbx hkk
                by_cases h9 : 0 ≤ t.v
                · have hno := hkf.out h9
                  by_cases hab : t.a = t.b
                  · have hbc : (t.b == t.c) = false := by rw [beq_eq_false_iff_ne]; exact fun q => hno ⟨hab, q⟩
                    have hab2 : (t.a == t.b) = true := by rw [beq_iff_eq]; exact hab
                    clear hno hab
                    go_wp2_with fail
                    go_roundg (n0 - (i + 1))
                    case measure => omega
                    case rel => exact ⟨i + 1, by omega, rfl, by go_num, nB.out⟩
                  · have hab2 : (t.a == t.b) = false := by rw [beq_eq_false_iff_ne]; exact hab
                    clear hno hab
                    go_wp2_with fail
                    go_roundg (n0 - (i + 1))
                    case measure => omega
                    case rel => exact ⟨i + 1, by omega, rfl, by go_num, nB.out⟩
                · go_wp2_with fail
                  go_roundg (n0 - (i + 1))
                  case measure => omega
                  case rel => exact ⟨i + 1, by omega, rfl, by go_num, nB.out⟩
          · obtain rfl : n0 = i := by omega
            have i6 := Lib.hid ((i5.out.below hBw).more hBw.size)
            have b6 := Lib.hid (b5.out.trans (hBw.mono h10))
            have h6z := b6.out.size
            clear hBw kB l5 i5 b5
            go_wp2_with fail
            refine (cS.out _ l6.out).mono ?_
            rw [hsum.out]
            rintro e w12 ⟨rfl, hb⟩
            have l8 := Lib.hid ((l6.out.below hb).more hb.size)
            have i8 := Lib.hid ((i6.out.below hb).more hb.size)
            have b8 := Lib.hid (b6.out.trans (hb.mono h6z))
            have h8z := b8.out.size
            clear hb
            go_wp2_with fail
            refine (cT.out _ i8.out).mono ?_
            rintro e w13 ⟨rfl, hb⟩
            have l9 := Lib.hid ((l8.out.below hb).more hb.size)
            have b9 := Lib.hid (b8.out.trans (hb.mono h8z))
            have h9z := b9.out.size
            clear hb
            go_wp2_with fail
            refine (cA.out 81 _ l9.out).mono ?_
            rw [do_far]
            rintro e w14 ⟨rfl, hb⟩
            have b10 := Lib.hid (b9.out.trans (hb.mono h9z))
            clear hb
            go_wp2_with fail
            go_ret
            exact ⟨rfl, b10.out⟩
end Go.Proofs.Ytghkpmafocacoaa
