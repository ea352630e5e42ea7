/- Parts of the proof: Fw. -/
import Derived.ProofKit
import Derived.OpenShut
import Derived.ShutString
import Derived.ChangeOld
import Derived.Below
import Derived.Test.YtghkpmafocacoaaZBA
import Derived.Test.YtghkpmafocacoaaZBC
import Derived.Test.YtghkpmafocacoaaZBD
import Derived.Test.YtghkpmafocacoaaZAW
import Derived.Test.YtghkpmafocacoaaZBE
import Derived.Test.YtghkpmafocacoaaZAM
import Derived.Test.YtghkpmafocacoaaZAI
import Derived.Test.YtghkpmafocacoaaZAH
namespace Go.Proofs.Ytghkpmafocacoaa
set_option maxRecDepth 100000
set_option linter.unusedVariables false
open Go.ChangeShapes Go.WideShapes Go.ChangeAt Go.RowKit
theorem nine_small {Fs : List Fac} (h : ∀ F ∈ Fs, facOk 9 F = true) : smallF Fs := fun F hF => by
  have q := fac_parts (h F hF)
  have q3 : 3 ^ F.vs.length ≤ 81 := Nat.le_trans (Nat.pow_le_pow_right (by decide) q.2.2.2.1) (by decide)
  unfold maxLen
  exact ⟨by omega, by omega⟩
set_option maxHeartbeats 4000000 in
theorem walkFa {H : Type} (enc : TypeId × Value → H) (W : World) (base : Nat) (v0 : Value) (d0 : DataW H) (p0 : List MemPlace) (hv0 : Value.okWide Try.prog W .any base 43 v0)
    (h0 : DataW.Trod enc Try.prog W 0 (fun _ => true) true 43 v0 d0 p0) (_ : ∀ x ∈ p0, x.block < W.heap.size) :
    Calls Try.prog 14 #[v0] W fun e w' => e = .returned (.bool true) ∧ Below W.heap.size W w' := by
  obtain ⟨A, n, c, rfl, hn, hc, hb⟩ := open_bytes hv0 h0
  clear hv0 h0
  have hcM := Lib.hid hc
  have hnn : n ≤ 9223372036854775807 := by unfold maxLen at hc; omega
  clear hc
  by_cases h1 : 1048576 < n
  · go_enter Try.func14, Try.ntmps14
    go_wp2_with fail
    go_ret
    exact ⟨rfl, Below.refl _ _⟩
  go_enter Try.func14, Try.ntmps14
  go_wp2_with fail
  refine (DrawFactorsOf_any A n c _ hb hn hcM.out).mono ?_
  rintro e w1 ⟨v, ps, rfl, hO, hl11, hB⟩
  obtain ⟨AP, cP, hv, hlcP, hcmP⟩ := hO.form
  subst hv
  have hP1 := Lib.hid hO.lst
  have hB1 := Lib.hid hB
  have hlc := Lib.hid hlcP
  have hcm := Lib.hid hcmP
  obtain ⟨Fs, hFs⟩ : ∃ F, facsOf ps = F := ⟨_, rfl⟩
  obtain ⟨ok, hok⟩ : ∃ b, single ps = b := ⟨_, rfl⟩
  obtain ⟨m, hm⟩ : ∃ m, Fs.length = m := ⟨_, rfl⟩
  have hmh := Lib.hid hm
  obtain ⟨pl, hpl⟩ : ∃ l, ps.length = l := ⟨_, rfl⟩
  rw [hpl] at hP1 hlc hl11 ⊢
  have c1 := Lib.hid (fun wx (hx : Lst wx wx.heap.size AP pl ps) => (show Calls Try.prog 60 #[.slice AP pl cP] wx (Fgd wx Fs ok) from by rw [← hFs, ← hok]; exact FactorsOf_any AP pl cP ps wx hx hlc.out hcm.out))
  have c2 := Lib.hid (fun wx (hx : Lst wx wx.heap.size AP pl ps) => (show Calls Try.prog 61 #[.slice AP pl cP] wx (Fgd wx Fs ok) from by rw [← hFs, ← hok]; exact specFactorsOf_any AP pl cP ps wx hx hlc.out hcm.out (by omega)))
  have c3 := Lib.hid (fun wx (hx : Lst wx wx.heap.size AP pl ps) => (show Calls Try.prog 62 #[.slice AP pl cP] wx (fun e w' => e = .returned (.bool ok) ∧ Below wx.heap.size wx w') from by rw [← hok]; exact SingleOk_any AP pl cP ps wx hx hlc.out hcm.out))
  have c4 := Lib.hid (fun wx (hx : Lst wx wx.heap.size AP pl ps) => WeightsOf_any AP pl cP ps wx hx hlc.out hcm.out)
  have hfact := Lib.hid (show (ok = false → Fs = []) ∧ (ok = true → listOk Fs = true ∧ lofTo Fs = weightsFrom ps 0) from by
    rw [← hFs, ← hok]
    refine ⟨fun h => by unfold facsOf; rw [if_neg (by rw [h]; decide)], fun h => ⟨facs_ok h, facs_list h⟩⟩)
  clear hO hB hb hFs hok hm hpl hlcP hcmP
  unfold Fgd at c1 c2
  go_wp2_with fail
  refine (c1.out _ hP1.out).mono ?_
  rintro e w2 ⟨v, vs, rfl, hR, _, hb⟩
  obtain ⟨AF, cF, rfl, _, _⟩ := hR.form
  have hF2 := Lib.hid (hR.flst rfl)
  have hP2 := Lib.hid ((hP1.out.below hb).more hb.size)
  have hB2 := Lib.hid (hB1.out.trans (hb.mono hB1.out.size))
  rw [hmh.out] at hF2 ⊢
  clear hR hb hP1 hB1 c1
  go_wp2_with fail
  refine (c2.out _ hP2.out).mono ?_
  rintro e w3 ⟨v, vs3, rfl, hR, _, hb⟩
  obtain ⟨AG, cG, rfl, _, _⟩ := hR.form
  have hG3 := Lib.hid (hR.flst rfl)
  have hF3 := Lib.hid ((hF2.out.below hb).more hb.size)
  have hP3 := Lib.hid ((hP2.out.below hb).more hb.size)
  have hB3 := Lib.hid (hB2.out.trans (hb.mono hB2.out.size))
  rw [hmh.out] at hG3 ⊢
  clear hR hb hP2 hB2 hF2 c2
  have hm8 : m ≤ 8 := by
    rw [← hmh.out]
    cases ok
    · rw [hfact.out.1 rfl]; decide
    · exact (list_parts (hfact.out.2 rfl).1).1
  have hsm := Lib.hid (show smallF Fs from by
    cases ok
    · rw [hfact.out.1 rfl]; exact fun F hF => by cases hF
    · exact nine_small (list_parts (hfact.out.2 rfl).1).2)
  have hmM : m ≤ maxLen := by unfold maxLen; omega
  cases ok
  · obtain rfl : m = 0 := by rw [← hmh.out, hfact.out.1 rfl]; rfl
    go_wp2_with fail
    refine (c3.out _ hP3.out).mono ?_
    rintro e w4 ⟨rfl, hb⟩
    have hB4 := Lib.hid (hB3.out.trans (hb.mono hB3.out.size))
    clear hb
    go_wp2_with fail
    go_loopg [45] 0 (fun gq y wr => y = .int .i64 0 ∧ Below w4.heap.size w4 wr)
    case atStart => exact ⟨rfl, Below.refl _ _⟩
    case round =>
      obtain ⟨rfl, hBw⟩ := hrel
      have nB := Lib.hid (hB4.out.trans (hBw.mono hB4.out.size))
      clear hBw
      go_wp2_with fail
      go_ret
      exact ⟨rfl, nB.out⟩
  · obtain ⟨hlo, hlf⟩ := hfact.out.2 rfl
    have hc5 := Lib.hid (fun wx (hx : FLst wx wx.heap.size AF m Fs) => ListOfFactors_any AF m cF Fs wx hx hmM hsm.out)
    rw [hlo, hlf] at hc5
    have hwl := weightsFrom_len ps 0
    unfold Lbd at hc5
    unfold Wtsd at c4
    generalize weightsFrom ps 0 = ws at *
    clear hfact hlo hlf
    go_wp2_with fail
    refine (c3.out _ hP3.out).mono ?_
    rintro e w4 ⟨rfl, hb⟩
    have hB4 := Lib.hid (hB3.out.trans (hb.mono hB3.out.size))
    have hG4 := Lib.hid ((hG3.out.below hb).more hb.size)
    have hF4 := Lib.hid ((hF3.out.below hb).more hb.size)
    have hP4 := Lib.hid ((hP3.out.below hb).more hb.size)
    clear hb hB3 hG3 hF3 hP3
    go_wp2_with fail
    go_loopg [45] m (fun gq y wr => ∃ k : Nat, k ≤ m ∧ gq = m - k ∧ y = .int .i64 k ∧ Below w4.heap.size w4 wr)
    case atStart => exact ⟨0, Nat.zero_le _, rfl, rfl, Below.refl _ _⟩
    case round =>
      obtain ⟨k, hk, hgn, rfl, hBw⟩ := hrel
      have hgk : gk = m - k := hgn
      have kB := Lib.hid hBw
      have hzw := hBw.size
      clear hgn
      by_cases hlt : k < m
      · obtain ⟨g, off, F, D1, m1, d1, D2, m2, d2, rfl, hg, hFk, cl1, cl2, hFW⟩ := (hF4.out.below hBw).at_ hlt
        obtain ⟨g2, off2, F2, H1, l1, t1, H2, l2, t2, rfl, hg2, hFk2, ck1, ck2, hFW2⟩ := (hG4.out.below hBw).at_ hlt
        obtain rfl : F = F2 := Option.some.inj (hFk.symm.trans hFk2)
        have hk0 : (0 : Int) ≤ (k : Int) := by omega
        have hk1 : (k : Int) < (m : Int) := by omega
        have hgw2 : g2 < wr.heap.size := by omega
        have hal : Below wr.heap.size wr (wr.alloc (.cells #[.slice D1 m1 d1, .slice D2 m2 d2] 56)) := (Below.refl _ _).alloc (Nat.le_refl _) _
        have hX5 := Lib.hid ((hFW.keep_ (hal.mono hzw)).more (Nat.le_trans hzw hal.size))
        have hY5 := Lib.hid ((hFW2.keep_ (hal.mono hzw)).more (Nat.le_trans hzw hal.size))
        have hcn5 := Lib.hid (Has.new wr 56 #[.slice D1 m1 d1, .slice D2 m2 d2])
        have ck1h := Lib.hid ((hal.cell (p := ⟨g2, off2 + k * 2, none⟩) hgw2).trans ck1)
        have ck2h := Lib.hid ((hal.cell (p := ⟨g2, off2 + k * 2 + 1, none⟩) hgw2).trans ck2)
        have hB5 := Lib.hid (kB.out.trans (hal.mono hzw))
        have hsF := hsm.out F (List.mem_of_getElem? hFk)
        have hsl := Lib.hid (show (m1 ≤ maxLen ∧ m2 ≤ maxLen) ∧ l1 ≤ maxLen ∧ l2 ≤ maxLen from ⟨⟨by rw [← hFW.1.1]; exact hsF.1, by rw [← hFW.2.1]; exact hsF.2⟩, by rw [← hFW2.1.1]; exact hsF.1, by rw [← hFW2.2.1]; exact hsF.2⟩)
        clear hFk hFk2 hFW hFW2 ck1 ck2 hal hsF hBw
        go_wp2_with fail
        generalize hWe : wr.alloc (.cells #[.slice D1 m1 d1, .slice D2 m2 d2] 56) = Wn at hX5 hY5 hcn5 ck1h ck2h hB5 ⊢
        have hWz : Wn.heap.size = wr.heap.size + 1 := by rw [← hWe]; simp
        have hgw5 : g2 < Wn.heap.size := by omega
        clear hWe hWz
        refine wp_region_any (by kernel_rfl) ?_
        change wpAny _ _ _ _ _ _ _ (World.drew _)
        refine wpAny_last (n := 6) (I := fun listed aq wx => listed.size = 7 ∧ ∃ v50 v51 v52 v53 v54 v55 : Value, aq = { tmps := #[.slice A n c, undef, u2, .slice AP pl cP, .slice (some ⟨g, off, none⟩) m cF, .bool true, .slice (some ⟨g2, off2, none⟩) m cG, .bool true, .int .i64 ((k : Nat) : Int), .pointer (some ⟨wr.heap.size, 0, none⟩), undef, undef, .slice A n c, .int .i64 ((n : Nat) : Int), .bool (decide (1048576 < ((n : Nat) : Int))), .slice A n c, .slice AP pl cP, .tuple #[.slice (some ⟨g, off, none⟩) m cF, .bool true], .slice AP pl cP, .tuple #[.slice (some ⟨g, off, none⟩) m cF, .bool true], .slice (some ⟨g, off, none⟩) m cF, .bool true, .tuple #[.slice (some ⟨g2, off2, none⟩) m cG, .bool true], .slice AP pl cP, .tuple #[.slice (some ⟨g2, off2, none⟩) m cG, .bool true], .slice (some ⟨g2, off2, none⟩) m cG, .bool true, .bool true, .bool true, .bool false, .bool false, .slice (some ⟨g, off, none⟩) m cF, .int .i64 ((m : Nat) : Int), .slice (some ⟨g2, off2, none⟩) m cG, .int .i64 ((m : Nat) : Int), .bool false, .bool false, .bool false, .bool true, .slice AP pl cP, .bool true, .bool false, .bool false, .slice (some ⟨g, off, none⟩) m cF, .int .i64 ((m : Nat) : Int), .int .i64 ((k : Nat) : Int), .bool true, .int .i64 ((k : Nat) : Int), .pointer (some ⟨g, off + k * 2, none⟩), .agg #[.slice D1 m1 d1, .slice D2 m2 d2], v50, v51, v52, v53, v54, v55, u56, u57, undef, undef, undef, undef, undef, undef, undef, undef, undef, undef, undef, undef, undef, undef, undef, undef, undef], defers := [] } ∧ (listed.getD 0 false = true → v50 = .agg #[.slice D1 m1 d1, .slice D2 m2 d2]) ∧ (listed.getD 1 false = true → v51 = .slice (some ⟨g2, off2, none⟩) m cG) ∧ (listed.getD 2 false = true → v52 = .int .i64 ((k : Nat) : Int)) ∧ (listed.getD 3 false = true → v53 = .pointer (some ⟨g2, off2 + k * 2, none⟩)) ∧ (listed.getD 4 false = true → v54 = .agg #[.slice H1 l1 t1, .slice H2 l2 t2]) ∧ (listed.getD 5 false = true → v55 = .bool true) ∧ Below Wn.heap.size Wn wx) rfl (by kernel_rfl) (by kernel_rfl) ?hs ?hl _ _ _ ?st rfl (by decide) _ (by decide)
        case st =>
          refine ⟨rfl, u50, u51, u52, u53, u54, u55, rfl, ?_, ?_, ?_, ?_, ?_, ?_, (Below.refl _ _).drew⟩ <;> (intro e; exact absurd e (by decide))
        case hs =>
          rintro listed aq wx ⟨hz, v50, v51, v52, v53, v54, v55, rfl, hII⟩ i hin hi
          obtain ⟨h0, o, ho, hd⟩ := mem_ready.1 hi
          have K0 := Lib.hid hII.1
          have K1 := Lib.hid hII.2.1
          have K2 := Lib.hid hII.2.2.1
          have K3 := Lib.hid hII.2.2.2.1
          have K4 := Lib.hid hII.2.2.2.2.1
          have K5 := Lib.hid hII.2.2.2.2.2.1
          have hB : Below Wn.heap.size Wn wx := hII.2.2.2.2.2.2
          have hne := Lib.hid (fun k (hk : i ≠ k) => @listed_ne listed i k hk)
          have hxn := Has.kept (by exact hcn5.out) hB
          have h0f : listed.getD i false = false := by rw [Array.getD_eq_getD_getElem?, getD_false h0]; rfl
          clear hII hi h0
          rcases (by omega : i = 0 ∨ i = 1 ∨ i = 2 ∨ i = 3 ∨ i = 4 ∨ i = 5) with rfl | rfl | rfl | rfl | rfl | rfl
          · cases ho
            have hcnc := hxn.cell
            refine wpOp_step rfl (fun K hK => ?_)
            go_simp
            refine hK _ _ ⟨by simpa using hz, .agg #[.slice D1 m1 d1, .slice D2 m2 d2], v51, v52, v53, v54, v55, rfl, ?_⟩
            exact ⟨fun _ => rfl, fun e => K1.out (hne.out 1 (by decide) e), fun e => K2.out (hne.out 2 (by decide) e), fun e => K3.out (hne.out 3 (by decide) e), fun e => K4.out (hne.out 4 (by decide) e), fun e => K5.out (hne.out 5 (by decide) e), hB⟩
          · cases ho
            refine wpOp_step rfl (fun K hK => ?_)
            go_simp
            refine hK _ _ ⟨by simpa using hz, v50, .slice (some ⟨g2, off2, none⟩) m cG, v52, v53, v54, v55, rfl, ?_⟩
            exact ⟨fun e => K0.out (hne.out 0 (by decide) e), fun _ => rfl, fun e => K2.out (hne.out 2 (by decide) e), fun e => K3.out (hne.out 3 (by decide) e), fun e => K4.out (hne.out 4 (by decide) e), fun e => K5.out (hne.out 5 (by decide) e), hB⟩
          · cases ho
            refine wpOp_step rfl (fun K hK => ?_)
            go_simp
            refine hK _ _ ⟨by simpa using hz, v50, v51, .int .i64 ((k : Nat) : Int), v53, v54, v55, rfl, ?_⟩
            exact ⟨fun e => K0.out (hne.out 0 (by decide) e), fun e => K1.out (hne.out 1 (by decide) e), fun _ => rfl, fun e => K3.out (hne.out 3 (by decide) e), fun e => K4.out (hne.out 4 (by decide) e), fun e => K5.out (hne.out 5 (by decide) e), hB⟩
          · cases ho
            have d1 := hd ⟨1, .data⟩ (by simp) rfl
            have d2 := hd ⟨2, .data⟩ (by simp) rfl
            obtain rfl := K1.out d1
            obtain rfl := K2.out d2
            refine wpOp_step rfl (fun K hK => ?_)
            go_simp
            refine hK _ _ ⟨by simpa using hz, v50, .slice (some ⟨g2, off2, none⟩) m cG, .int .i64 ((k : Nat) : Int), .pointer (some ⟨g2, off2 + k * 2, none⟩), v54, v55, rfl, ?_⟩
            exact ⟨fun e => K0.out (hne.out 0 (by decide) e), fun e => K1.out (hne.out 1 (by decide) e), fun e => K2.out (hne.out 2 (by decide) e), fun _ => rfl, fun e => K4.out (hne.out 4 (by decide) e), fun e => K5.out (hne.out 5 (by decide) e), hB⟩
          · cases ho
            have d3 := hd ⟨3, .data⟩ (by simp) rfl
            obtain rfl := K3.out d3
            have hca := (hB.cell (p := ⟨g2, off2 + k * 2, none⟩) hgw5).trans ck1h.out
            have hcb := (hB.cell (p := ⟨g2, off2 + k * 2 + 1, none⟩) hgw5).trans ck2h.out
            refine wpOp_step rfl (fun K hK => ?_)
            go_simp
            refine hK _ _ ⟨by simpa using hz, v50, v51, v52, .pointer (some ⟨g2, off2 + k * 2, none⟩), .agg #[.slice H1 l1 t1, .slice H2 l2 t2], v55, rfl, ?_⟩
            exact ⟨fun e => K0.out (hne.out 0 (by decide) e), fun e => K1.out (hne.out 1 (by decide) e), fun e => K2.out (hne.out 2 (by decide) e), fun e => K3.out (hne.out 3 (by decide) e), fun _ => rfl, fun e => K5.out (hne.out 5 (by decide) e), hB⟩
          · cases ho
            have d0 := hd ⟨0, .data⟩ (by simp) rfl
            have d4 := hd ⟨4, .data⟩ (by simp) rfl
            obtain rfl := K0.out d0
            obtain rfl := K4.out d4
            refine wpOp_step rfl (fun K hK => ?_)
            go_simp
            go_at_call 63
            refine (wcFactor_any D1 D2 H1 H2 m1 d1 m2 d2 l1 t1 l2 t2 F _ ((hX5.out.keep_ hB).more hB.size) ((hY5.out.keep_ hB).more hB.size) hsl.out.1.1 hsl.out.1.2 hsl.out.2.1 hsl.out.2.2).mono ?_
            rintro e w3 ⟨rfl, hb3⟩
            refine hK _ _ ⟨by simpa using hz, .agg #[.slice D1 m1 d1, .slice D2 m2 d2], v51, v52, v53, .agg #[.slice H1 l1 t1, .slice H2 l2 t2], .bool true, rfl, ?_⟩
            exact ⟨fun e => K0.out (hne.out 0 (by decide) e), fun e => K1.out (hne.out 1 (by decide) e), fun e => K2.out (hne.out 2 (by decide) e), fun e => K3.out (hne.out 3 (by decide) e), fun e => K4.out (hne.out 4 (by decide) e), fun _ => rfl, hB.trans (hb3.mono hB.size)⟩
        case hl =>
          rintro listed aq wx ⟨hz, v50, v51, v52, v53, v54, v55, rfl, hII⟩ hall
          have K0 := Lib.hid hII.1
          have K1 := Lib.hid hII.2.1
          have K2 := Lib.hid hII.2.2.1
          have K3 := Lib.hid hII.2.2.2.1
          have K4 := Lib.hid hII.2.2.2.2.1
          have K5 := Lib.hid hII.2.2.2.2.2.1
          have hB : Below Wn.heap.size Wn wx := hII.2.2.2.2.2.2
          have hxn := Has.kept (by exact hcn5.out) hB
          clear hII
          obtain rfl := K0.out (hall 0 (by decide))
          obtain rfl := K1.out (hall 1 (by decide))
          obtain rfl := K2.out (hall 2 (by decide))
          obtain rfl := K3.out (hall 3 (by decide))
          obtain rfl := K4.out (hall 4 (by decide))
          obtain rfl := K5.out (hall 5 (by decide))
          clear hall K0 K1 K2 K3 K4 K5
          refine wpOp_step rfl (fun K0 hK0 => ?_)
          go_simp
          refine hK0 _ _ ?_
          clear hK0
          have hB9z := Lib.hid (hB5.out.trans (hB.mono hB5.out.size))
          clear hB
          go_wp2_with fail
          go_roundg (m - (k + 1))
          case measure => omega
          case rel => exact ⟨k + 1, by omega, rfl, by go_num, hB9z.out⟩
      · obtain rfl : m = k := by omega
        have hB5 := Lib.hid (hB4.out.trans (hBw.mono hB4.out.size))
        have hF5 := Lib.hid ((hF4.out.below hBw).more hzw)
        have hP5 := Lib.hid ((hP4.out.below hBw).more hzw)
        clear hBw kB
        go_wp2_with fail
        refine (hc5.out _ hF5.out).mono ?_
        rintro e w6 ⟨v, rfl, hI, hb⟩
        obtain ⟨AI, cI, rfl, _, _⟩ := hI.form
        have hI6 := Lib.hid hI.lst
        have hP6 := Lib.hid ((hP5.out.below hb).more hb.size)
        have hB6 := Lib.hid (hB5.out.trans (hb.mono hB5.out.size))
        clear hI hb hF5 hP5 hB5
        go_wp2_with fail
        refine (c4.out _ hP6.out).mono ?_
        rintro e w7 ⟨v, rfl, hJ, hb⟩
        obtain ⟨AJ, cJ, rfl, _, _⟩ := hJ.form
        have hJ7 := Lib.hid hJ.lst
        have hI7 := Lib.hid ((hI6.out.below hb).more hb.size)
        have hB7 := Lib.hid (hB6.out.trans (hb.mono hB6.out.size))
        clear hJ hb hI6 hB6
        go_wp2_with fail
        refine (wcInts_eq AI AJ ws.length ws.length cI cJ ws ws _ hI7.out hJ7.out (by unfold maxLen; omega) (by unfold maxLen; omega) rfl).mono ?_
        rintro e w8 ⟨rfl, hb⟩
        have hB8 := Lib.hid (hB7.out.trans (hb.mono hB7.out.size))
        clear hb
        go_wp2_with fail
        go_ret
        exact ⟨rfl, hB8.out⟩
end Go.Proofs.Ytghkpmafocacoaa
