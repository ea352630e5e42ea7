/- Parts of the proof: KA, K9, Dr. -/
import Derived.BigQuiet
import Derived.Test.YtaipdkfbkcknkaaZAM
import Derived.Test.YtaipdkfbkcknkaaZAH
import Derived.Test.YtaipdkfbkcknkaaZAL
import Derived.Test.YtaipdkfbkcknkaaZAP
import Derived.Test.YtaipdkfbkcknkaaZAC
import Derived.Test.YtaipdkfbkcknkaaZAA
namespace Go.Proofs.Ytaipdkfbkcknkaa
set_option maxRecDepth 100000
set_option linter.unusedVariables false
open Go.RowKit
theorem oOk_has : ∀ (os : List Int) (L : Int), oOkF os L = true ↔ ∀ k v, os[k]? = some v → inB v 0 3 = true ∧ tb L v.toNat = false ∧ v ∉ os.take k
  | [], L => ⟨fun _ k v h => by simp at h, fun _ => rfl⟩
  | u :: r, L => by
    have e : oOkF (u :: r) L = ((inB u 0 3 && !tb L u.toNat) && oOkF r (bor L (bitN u))) := rfl
    rw [e, Bool.and_eq_true, Bool.and_eq_true, oOk_has r]
    have hb : inB u 0 3 = true → ∀ v : Int, inB v 0 3 = true → tb (bor L (bitN u)) v.toNat = (tb L v.toNat || decide (u = v)) := fun hu v hv => by
      have h1 := inB_iff.1 hu
      have h2 := inB_iff.1 hv
      rw [tb_bor, tb_bit h1.1 h1.2 (show v.toNat ≤ 3 by omega)]
      congr 1
      rw [decide_eq_decide]
      omega
    constructor
    · rintro ⟨⟨h1, h2⟩, h3⟩ k v hk
      cases k with
      | zero =>
        have : u = v := by simpa using hk
        subst this
        exact ⟨h1, by simpa using h2, by simp⟩
      | succ k =>
        have hk' : r[k]? = some v := by simpa using hk
        obtain ⟨g1, g2, g3⟩ := h3 k v hk'
        rw [hb h1 v g1, Bool.or_eq_false_iff] at g2
        refine ⟨g1, g2.1, ?_⟩
        rw [List.take_succ_cons, List.mem_cons]
        rintro (q | q)
        · exact of_decide_eq_false g2.2 q.symm
        · exact g3 q
    · intro h
      obtain ⟨g1, g2, _⟩ := h 0 u rfl
      refine ⟨⟨g1, by rw [g2]; rfl⟩, fun k v hk => ?_⟩
      obtain ⟨f1, f2, f3⟩ := h (k + 1) v (by simpa using hk)
      rw [List.take_succ_cons, List.mem_cons] at f3
      refine ⟨f1, ?_, fun q => f3 (.inr q)⟩
      rw [hb g1 v f1, f2, Bool.false_or]
      exact decide_eq_false fun q => f3 (.inl q.symm)
theorem orderOk_iff (os : List Int) : orderOk os = true ↔ ∀ k v, os[k]? = some v → inB v 0 3 = true ∧ v ∉ os.take k := by
  unfold orderOk
  rw [oOk_has]
  have h0 : ∀ v : Int, tb 0 v.toNat = false := fun v => by unfold tb; exact Nat.zero_testBit _
  exact ⟨fun h k v hk => ⟨(h k v hk).1, (h k v hk).2.2⟩, fun h k v hk => ⟨(h k v hk).1, h0 v, (h k v hk).2⟩⟩
theorem ils_take {w : World} {B n k : Nat} {A : Option Addr} {ds : List Int} (h : Ils w B A n ds) (hk : k ≤ n) : Ils w B A k (ds.take k) := ⟨by rw [List.length_take, h.1]; omega, fun h0 => by
  obtain ⟨g, off, e, hg, hc⟩ := h.2 (by omega)
  refine ⟨g, off, e, hg, fun i d hi => hc i d ?_⟩
  rw [List.getElem?_take] at hi
  split at hi
  · exact hi
  · cases hi⟩
theorem specOrderOk_any (A : Option Addr) (n c : Nat) (os : List Int) (w : World) (h : Ils w w.heap.size A n os) (hn : n ≤ c) (hc : c ≤ maxLen) :
    Calls Try.prog 15 #[.slice A n c] w fun e w' => e = .returned (.bool (orderOk os)) ∧ ∃ m, w' = w.drewN m := by
  have hI := Lib.hid h
  have hl := h.1
  have hn9 : n ≤ 9223372036854775807 := by unfold maxLen at hc; omega
  have hm := Lib.hid (show n ≤ maxLen from Nat.le_trans hn hc)
  clear h hc
  go_enter Try.func15, Try.ntmps15
  go_wp2_with fail
  go_loopg [3] n (fun gn r wr => ∃ (k m : Nat), k ≤ n ∧ gn = n - k ∧ r = .int .i64 k ∧ (∀ i v, i < k → os[i]? = some v → inB v 0 3 = true ∧ v ∉ os.take i) ∧ wr = w.drewN m)
  case atStart => exact ⟨0, 0, Nat.zero_le _, rfl, rfl, fun i v hi => by omega, rfl⟩
  case round =>
    obtain ⟨k, m, hk, hgn, rfl, hO, rfl⟩ := hrel
    have hgk : gk = n - k := hgn
    have hOh := Lib.hid hO
    clear hgn hO
    by_cases hlt : k < n
    · obtain ⟨g, off, d, rfl, hg, hd, cd⟩ := hI.out.at_ hlt
      have hk0 : (0 : Int) ≤ (k : Int) := by omega
      have hk1 : (k : Int) < (n : Int) := by omega
      have hk2 : (k : Int) ≤ (c : Int) := by omega
      have cd' : (w.drewN m).cell? ⟨g, off + k, none⟩ = some (.int .i64 d) := cd
      have cV := Lib.hid (fun wx => (l1Var_any d wx).mono fun _ _ q => (show _ ∧ _ = wx from ⟨q.1, q.2.symm⟩))
      have cH := Lib.hid (fun wx hx => (l8Has_any (some ⟨g, off, none⟩) k c (os.take k) d wx hx (by have := hm.out; omega)).mono fun _ _ q => (show _ ∧ _ = wx from ⟨q.1, q.2.symm⟩))
      have hIt := Lib.hid (fun q => show Ils ((w.drewN m).drewN q) ((w.drewN m).drewN q).heap.size _ k (os.take k) from ils_take ((hI.out.below (below_drewN (Below.refl _ _) m)).below (below_drewN (Below.refl _ _) q)) hk)
      have hWm := Lib.hid (fun q => World.drewN_drewN w m q)
      have hdh := Lib.hid hd
      clear hd cd
      cases hin : inB d 0 3
      · rw [hin] at cV
        have hR := Lib.hid (show orderOk os = false from by
          cases ho : orderOk os
          · rfl
          · have := ((orderOk_iff os).1 ho k d hdh.out).1
            rw [hin] at this
            cases this)
        clear hin cH hIt
        obtain ⟨Wq, hWq⟩ : ∃ Wq, w.drewN m = Wq := ⟨_, rfl⟩
        rw [hWq] at cd' hWm ⊢
        go_wp2_with fail
        go_quiet (first | (go_at_call 61; exact Calls.quiet_of_same (cV.out _)))
        go_wp2_with fail
        go_ret
        exact ⟨ret_bool hR.out, _, by rw [hWm.out]⟩
      · rw [hin] at cV
        have hvin := Lib.hid hin
        clear hin
        cases hin2 : decide (d ∈ os.take k)
        · rw [hin2] at cH
          have hno := Lib.hid (of_decide_eq_false hin2)
          obtain ⟨Wq, hWq⟩ : ∃ Wq, w.drewN m = Wq := ⟨_, rfl⟩
          rw [hWq] at cd' hWm hIt ⊢
          have cHq := Lib.hid (fun q => cH.out (Wq.drewN q) (hIt.out q))
          clear hin2 cH hIt
          go_wp2_with fail
          go_quiet (first | (go_at_call 61; exact Calls.quiet_of_same (cV.out _)) | (go_at_call 62; exact Calls.quiet_of_same (cHq.out _)))
          go_wp2_with fail
          go_roundg (n - (k + 1))
          case measure => omega
          case rel => exact ⟨k + 1, m + nq, by omega, rfl, by go_num, fun i v hi hv => by
            by_cases he : i = k
            · subst he
              obtain rfl := Option.some.inj (hv.symm.trans hdh.out)
              exact ⟨hvin.out, hno.out⟩
            · exact hOh.out i v (by omega) hv, by rw [hWm.out]⟩
        · rw [hin2] at cH
          have hR := Lib.hid (show orderOk os = false from by
            cases ho : orderOk os
            · rfl
            · exact absurd (of_decide_eq_true hin2) ((orderOk_iff os).1 ho k d hdh.out).2)
          obtain ⟨Wq, hWq⟩ : ∃ Wq, w.drewN m = Wq := ⟨_, rfl⟩
          rw [hWq] at cd' hWm hIt ⊢
          have cHq := Lib.hid (fun q => cH.out (Wq.drewN q) (hIt.out q))
          clear hin2 cH hIt
          go_wp2_with fail
          go_quiet (first | (go_at_call 61; exact Calls.quiet_of_same (cV.out _)) | (go_at_call 62; exact Calls.quiet_of_same (cHq.out _)))
          go_wp2_with fail
          go_ret
          exact ⟨ret_bool hR.out, _, by rw [hWm.out]⟩
    · obtain rfl : k = n := by omega
      have hR := Lib.hid (show orderOk os = true from (orderOk_iff os).2 fun i v hv => hOh.out i v (by have := (List.getElem?_eq_some_iff.1 hv).1; omega) hv)
      go_wp2_with fail
      go_ret
      exact ⟨ret_bool hR.out, m, rfl⟩
end Go.Proofs.Ytaipdkfbkcknkaa

namespace Go.Proofs.Ytaipdkfbkcknkaa
set_option maxRecDepth 100000
set_option linter.unusedVariables false
open Go.RowKit
def FLst0 (w : World) (B : Nat) (A : Option Addr) (n : Nat) (Fs : List Fac) : Prop := FLst w B A n Fs ∧ Nilf w A n
theorem RowsF.flst0 {w : World} {base : Nat} {A : Option Addr} {n c : Nat} {Fs : List Fac} {vs : List Value} (h : RowsF w base (.slice A n c) Fs vs) (hn : Fs.length = n) : FLst0 w w.heap.size A n Fs := ⟨h.flst hn, h.nilf hn⟩
theorem FLst0.below {w w' : World} {B n : Nat} {A : Option Addr} {Fs : List Fac} (h : FLst0 w B A n Fs) (hb : Below B w w') : FLst0 w' B A n Fs := ⟨h.1.below hb, h.2.below h.1 hb⟩
theorem FLst0.more {w : World} {B B' n : Nat} {A : Option Addr} {Fs : List Fac} (h : FLst0 w B A n Fs) (hb : B ≤ B') : FLst0 w B' A n Fs := ⟨h.1.more hb, h.2⟩
theorem elimA_take {Fs : List Fac} {os : List Int} {k : Nat} {v : Int} (h : os[k]? = some v) : elimA Fs (os.take (k + 1)) = elim1 (elimA Fs (os.take k)) v := by
  obtain ⟨hl, he⟩ := List.getElem?_eq_some_iff.1 h
  unfold elimA
  rw [List.take_succ_eq_append_getElem hl, List.foldl_append, he]
  rfl
theorem elimA_all {Fs : List Fac} (hf : Fine Fs) {os : List Int} (ho : ∀ v ∈ os, 0 ≤ v ∧ v ≤ 3) : ∀ k, k ≤ os.length → Fine (elimA Fs (os.take k)) ∧ pb (elimA Fs (os.take k)) ≤ 3 ^ k * pb Fs ∧ (elimA Fs (os.take k)).length ≤ Fs.length + k ∧ grS (setsF (elimA Fs (os.take k))) = (grS (setsF Fs)).elS ((natsOf os).take k)
  | 0, _ => by
    rw [List.take_zero, List.take_zero]
    refine ⟨hf, by show pb Fs ≤ 3 ^ 0 * pb Fs; omega, by show Fs.length ≤ Fs.length + 0; omega, rfl⟩
  | k + 1, hk => by
    obtain ⟨h1, h2, h3, h4⟩ := elimA_all hf ho k (by omega)
    have hd : os[k]? = some os[k] := List.getElem?_eq_getElem (by omega)
    obtain ⟨V, hV, hVt⟩ := nat_three (ho os[k] (List.getElem_mem _))
    have hnk : (natsOf os)[k]? = some V.val := by unfold natsOf; rw [List.getElem?_map, hd, hVt]; rfl
    rw [elimA_take hd, hV]
    refine ⟨elim1_fine h1 V, ?_, ?_, ?_⟩
    · have := elim1_pb h1 V
      have e : (3 : Int) ^ (k + 1) * pb Fs = 3 * (3 ^ k * pb Fs) := by rw [Int.pow_succ, Int.mul_comm (3 ^ k) 3, Int.mul_assoc]
      rw [e]
      omega
    · have := elim1_len (elimA Fs (os.take k)) (V.val : Int)
      omega
    · rw [elim1_gr h1 V, h4]
      obtain ⟨hl9, he⟩ := List.getElem?_eq_some_iff.1 hnk
      rw [List.take_succ_eq_append_getElem hl9, he]
      unfold Gr.elS
      rw [List.foldl_append]
      rfl
theorem pow_bd {Fs : List Fac} (h8 : Fs.length ≤ 8) (hf : ∀ F ∈ Fs, facOk 9 F = true) {k : Nat} (hk : k ≤ 4) : (3 : Int) ^ k * pb Fs ≤ 10000000000 := by
  have h1 := pb_nine hf
  have g9 : ∀ k : Fin 9, (9 : Int) ^ k.val ≤ 9 ^ 8 := by decide +kernel
  have g3 : ∀ k : Fin 5, (3 : Int) ^ k.val ≤ 3 ^ 4 := by decide +kernel
  have h2 : (9 : Int) ^ Fs.length ≤ 9 ^ 8 := g9 ⟨Fs.length, by omega⟩
  have h3 : (3 : Int) ^ k ≤ 3 ^ 4 := g3 ⟨k, by omega⟩
  have h4 := Int.mul_le_mul h3 (Int.le_trans h1 h2) (by have := pb_pos Fs; omega) (by decide)
  have h5 : (3 : Int) ^ 4 * 9 ^ 8 ≤ 10000000000 := by decide
  omega
set_option maxHeartbeats 1000000 in
theorem specWidthOf_any (A Ad : Option Addr) (n c nd cd : Nat) (Fs : List Fac) (os : List Int) (w : World) (h : FLst0 w w.heap.size A n Fs) (hn : n ≤ maxLen) (hsm : smallF Fs) (hd : Ils w w.heap.size Ad nd os) (hnd : nd ≤ cd) (hcd : cd ≤ maxLen) :
    Calls Try.prog 32 #[.slice A n c, .slice Ad nd cd] w fun e w' => e = .returned (.int .i64 (widthTo Fs os)) ∧ Below w.heap.size w w' := by
  have hI := Lib.hid h
  have hD := Lib.hid hd
  have hl := h.1.1
  have hld := hd.1
  have cK := Lib.hid (l8List_any A n c Fs w h.1 hn hsm)
  have cO := Lib.hid (fun wx hx => specOrderOk_any Ad nd cd os wx hx hnd hcd)
  have hnm : nd ≤ maxLen := Nat.le_trans hnd hcd
  clear h hn hsm hd hnd hcd
  cases hk : listOk Fs
  · have hR := Lib.hid (show widthTo Fs os = -1 by unfold widthTo; rw [hk]; simp)
    rw [hk] at cK
    clear hk
    go_enter Try.func32, Try.ntmps32
    go_wp2_with fail
    refine cK.out.mono ?_
    rintro e w1 ⟨rfl, hb⟩
    go_wp2_with fail
    go_ret
    exact ⟨ret_int hR.out, hb⟩
  · rw [hk] at cK
    cases ho : orderOk os
    · have hR := Lib.hid (show widthTo Fs os = -1 by unfold widthTo; rw [ho]; simp)
      rw [ho] at cO
      clear hk ho
      go_enter Try.func32, Try.ntmps32
      go_wp2_with fail
      refine cK.out.mono ?_
      rintro e w1 ⟨rfl, hb⟩
      go_wp2_with fail
      refine (cO.out _ ((hD.out.below hb).more hb.size)).mono ?_
      rintro e w' ⟨rfl, m, rfl⟩
      have hb2 := below_drewN hb m
      go_wp2_with fail
      go_ret
      exact ⟨ret_int hR.out, hb2⟩
    · obtain ⟨h8, hf, hfine⟩ := list_fine hk
      obtain ⟨hom, hon, hoi, hol⟩ := oOk_mem ho
      have hR := Lib.hid (show widthTo Fs os = (((grS (setsF Fs)).wid (natsOf os) : Nat) : Int) by unfold widthTo; rw [hk, ho]; rfl)
      have hnl : (natsOf os).length = nd := by unfold natsOf; rw [List.length_map, hld]
      rw [widM_eq (grS (setsF Fs)) (natsOf os) hom, hnl] at hR
      have hAll := Lib.hid (fun k (hk : k ≤ os.length) => elimA_all hfine hoi k hk)
      have hPw := Lib.hid (fun (k : Nat) (hk : k ≤ 4) => pow_bd h8 hf hk)
      have hng := Lib.hid (fun (k : Nat) (d : Int) (hq : os[k]? = some d) => show (natsOf os)[k]? = some d.toNat from by unfold natsOf; rw [List.getElem?_map, hq]; rfl)
      have hoi' := Lib.hid hoi
      rw [ho] at cO
      have hnd4 : nd ≤ 4 := by omega
      have hldh := Lib.hid hld
      have hlh := Lib.hid hl
      generalize natsOf os = ns at *
      generalize grS (setsF Fs) = gr at *
      clear hk ho hf hom hon hoi hnl hfine hld hl
      go_enter Try.func32, Try.ntmps32
      go_wp2_with fail
      refine cK.out.mono ?_
      rintro e w1 ⟨rfl, hb⟩
      have hb1 := Lib.hid hb
      have hD1 := Lib.hid ((hD.out.below hb).more hb.size)
      clear hb
      go_wp2_with fail
      refine (cO.out _ hD1.out).mono ?_
      rintro e w' ⟨rfl, m0, rfl⟩
      have hB2 := Lib.hid (below_drewN hb1.out m0)
      have hI2 := Lib.hid ((hI.out.below hB2.out).more hB2.out.size)
      have hD2 := Lib.hid ((hD.out.below hB2.out).more hB2.out.size)
      generalize w1.drewN m0 = w2 at *
      go_wp2_with fail
      go_loopg [0, 5, 6] nd (fun gq l y x wr => ∃ (k : Nat) (A' : Option Addr) (n' c' : Nat), k ≤ nd ∧ gq = nd - k ∧ x = .int .i64 k ∧ y = .int .i64 ((gr.mwidTo ns k : Nat) : Int) ∧ l = .slice A' n' c' ∧ FLst0 wr wr.heap.size A' n' (elimA Fs (os.take k)) ∧ Below w.heap.size w wr)
      case atStart => exact ⟨0, A, n, c, Nat.zero_le _, rfl, rfl, rfl, rfl, hI2.out, hB2.out⟩
      case round =>
        obtain ⟨k, A', n', c', hkn, hgn, rfl, rfl, rfl, hL, hB⟩ := hrel
        have hgk : gk = nd - k := hgn
        have hLh := Lib.hid hL
        have hBh := Lib.hid hB
        clear hgn hL
        by_cases hlt : k < nd
        · obtain ⟨g, off, d, rfl, hg, hd, cd0⟩ := (hD.out.below hB).at_ hlt
          have hdb := hoi'.out d (List.mem_of_getElem? hd)
          obtain ⟨u, rfl, hu⟩ := nat4 hdb.1 hdb.2
          have hnk := hng.out k _ hd
          rw [Int.toNat_natCast] at hnk
          have hk0 : (0 : Int) ≤ (k : Int) := by omega
          have hk1 : (k : Int) < (nd : Int) := by omega
          have hlk := hldh.out
          obtain ⟨a1, a2, a3, a4⟩ := hAll.out k (by omega)
          have hpk := hPw.out k (by omega)
          have hl8 := hlh.out
          have hln : n' ≤ 20 := by have := hLh.out.1.1; omega
          have hnx := Lib.hid (elimA_take (Fs := Fs) hd)
          have hw1 := prodV_wid a1 ⟨u, by omega⟩
          rw [a4] at hw1
          have hwn := Lib.hid (show gr.mwidTo ns (k + 1) = max (gr.mwidTo ns k) ((prodV (elimA Fs (os.take k)) (u : Int)).vs.length) from by
            show max (gr.mwidTo ns k) ((gr.elS (ns.take k)).w1 (ns.getD k 0)) = _
            rw [List.getD_eq_getElem?_getD, hnk, hw1]
            rfl)
          have cL := Lib.hid (show Calls Try.prog 67 #[.slice A' n' c', .int .i64 (u : Int)] wr (OneD wr (elim1 (elimA Fs (os.take k)) (u : Int)) ((prodV (elimA Fs (os.take k)) (u : Int)).vs.length : Int)) from l9One_any A' n' c' _ ⟨u, by omega⟩ wr hLh.out.1 hLh.out.2 hln a1 (by omega))
          rw [← hnx.out] at cL
          generalize (prodV (elimA Fs (os.take k)) (u : Int)).vs.length = b at *
          generalize gr.mwidTo ns k = a at *
          clear hd hdb hnk hnx hw1 a1 a2 a3 a4 hB hlk hl8 hpk
          go_wp2_with fail
          refine cL.out.mono ?_
          rintro e w3 ⟨v3, vs3, rfl, hR3, _, hb3⟩
          obtain ⟨A3, c3, rfl, _, _⟩ := hR3.form
          have hL3 := Lib.hid (hR3.flst0 rfl)
          have hB3 := Lib.hid (hBh.out.trans (hb3.mono hBh.out.size))
          clear hR3 hb3
          by_cases hab : a < b
          · have hab' : (a : Int) < (b : Int) := by omega
            have hmx := Lib.hid (show gr.mwidTo ns (k + 1) = b from by rw [hwn.out]; omega)
            go_wp2_with fail
            go_roundg (nd - (k + 1))
            case measure => omega
            case rel => exact ⟨k + 1, _, _, _, by omega, rfl, by go_num, by rw [hmx.out], rfl, hL3.out, hB3.out⟩
          · have hab' : ¬ ((a : Int) < (b : Int)) := by omega
            have hmx := Lib.hid (show gr.mwidTo ns (k + 1) = a from by rw [hwn.out]; omega)
            go_wp2_with fail
            go_roundg (nd - (k + 1))
            case measure => omega
            case rel => exact ⟨k + 1, _, _, _, by omega, rfl, by go_num, by rw [hmx.out], rfl, hL3.out, hB3.out⟩
        · obtain rfl : k = nd := by omega
          have hR' := hR.out
          clear hR hB
          go_wp2_with fail
          go_ret
          exact ⟨ret_int hR', hBh.out⟩
end Go.Proofs.Ytaipdkfbkcknkaa

namespace Go.Proofs.Ytaipdkfbkcknkaa
set_option maxRecDepth 100000
open Go.RowKit
theorem Byt.more {w : World} {B B' : Nat} {A : Option Addr} {n : Nat} (h : Byt w B A n) (hB : B ≤ B') : Byt w B' A n := fun hn => by
  obtain ⟨g, off, e, hg, hc⟩ := h hn
  exact ⟨g, off, e, by omega, hc⟩
end Go.Proofs.Ytaipdkfbkcknkaa
namespace Go.Proofs.Ytaipdkfbkcknkaa
set_option maxRecDepth 100000
open Go.RowKit
theorem Chg.grown {a b c : World} {R : Nat} {row : Option Nat} (h : Chg a b R) (hg : b.grownBy c row) (hr : ∀ k, row = some k → a.heap.size ≤ k) : Chg a c R :=
  ⟨hg.os.trans h.os, hg.tape.trans h.tape, hg.output.trans h.output, Nat.le_trans h.size hg.size,
    fun i hi hne => (hg.block i (Nat.lt_of_lt_of_le hi h.size) (fun e => by have := hr i e.symm; omega)).trans (h.block i hi hne)⟩
theorem Rdr.grown {w w' : World} {B R : Nat} {A : Option Addr} {n c p : Nat} {row : Option Nat} (h : Rdr w B R A n c p) (hg : w.grownBy w' row) (hr : ∀ k, row = some k → B ≤ k ∧ k ≠ R) (hB : B ≤ w.heap.size) : Rdr w' B R A n c p :=
  ⟨(hg.block R h.lt (fun e => (hr R e.symm).2 rfl)).trans h.1, h.2.1, h.2.2.keep ((Below.refl B w).grown hg hB (fun k hk => (hr k hk).1))⟩
theorem Own.chg {w w' : World} {base R : Nat} {v : Value} {os : List St} (h : Own w base v os) (hc : Chg w w' R) (hR : R < base) : Own w' base v os := by
  refine World.ownsRow.kept h hc ?_
  cases hv : v.ownBlock with
  | none => exact .inl rfl
  | some k =>
    refine .inr fun e => ?_
    have h1 := (World.ownsRow.lt h k hv).1
    injection e with e
    omega
def St.put (s : St) : Nat → Int → St
  | 0, x => { s with k := x }
  | 1, x => { s with a := x }
  | 2, x => { s with b := x }
  | 3, x => { s with c := x }
  | 4, x => { s with u := x }
  | 5, x => { s with v := x }
  | _, x => { s with x := x }
end Go.Proofs.Ytaipdkfbkcknkaa
namespace Go.Proofs.Ytaipdkfbkcknkaa
set_option maxRecDepth 100000
open Go.RowKit
end Go.Proofs.Ytaipdkfbkcknkaa
