/- Values backward: the model's ValuesBack, WorthOf, EventOf, StepBack and ChanceOf. -/
import Derived.Test.YtcphclkaddhfmaaBl
import Derived.Test.YtcphclkaddhfmaaBj
import Derived.Test.YtcphclkaddhfmaaAf
import Derived.Test.YtcphclkaddhfmaaAm
import Derived.Test.YtcphclkaddhfmaaMdf
namespace Go.Proofs.Ytcphclkaddhfmaa
set_option maxRecDepth 100000
set_option linter.unusedVariables false
open Go.RowKit

theorem val_small {ds : List Int} {os : List St} {j : Nat} {st : Int} (h : lstOk 9 ds = true) (hm : os.length ≤ 12) (hok : ∀ s ∈ os, s.ok = true) (hst : 0 ≤ st ∧ st ≤ 80) (hj : 0 < j) : 0 ≤ valAt (hOf ds) os j st ∧ valAt (hOf ds) os j st ≤ 100000000000000000 := by
  have h1 := valAt_bd (i := j) (h := hOf ds) (H := 9) (os := os) (fun st _ _ => hOf_bd (by decide) h st) (by decide) hok hst
  have h2 := pow27_le (show os.length - j ≤ 11 by omega)
  have h3 : (27 : Int) ^ 11 = 5559060566555523 := by decide
  omega

set_option maxHeartbeats 2000000 in
theorem specValuesBack_any (A Ad : Option Addr) (n c nd cd : Nat) (ps : List St) (ds : List Int) (w : World) (h : Lst w w.heap.size A n ps) (hn : n ≤ c) (hc : c ≤ maxLen) (hbig : n ≤ 1048576) (hd : Ils w w.heap.size Ad nd ds) (hnd : nd ≤ maxLen) :
    Calls Try.prog 20 #[.slice A n c, .slice Ad nd cd] w (Lbd w (vbOf ps ds) (vbOk ps ds)) := by
  have hC := Lib.hid (l1Unrolled_any A n c ps w h hn hc hbig)
  have hDs := Lib.hid hd
  have cL := Lib.hid (fun wx (hx : Ils wx wx.heap.size Ad nd ds) => l3List_any Ad nd cd ds 9 wx hx hnd)
  clear h hc hd
  cases hu : unrolled ps with
  | none =>
    have hU := Lib.hid hu
    have hR := Lib.hid (show vbOf ps ds = [] by unfold vbOf; rw [hu])
    have hR2 := Lib.hid (show vbOk ps ds = false by unfold vbOk; rw [hu]; rfl)
    clear hu
    go_enter Try.func20, Try.ntmps20
    go_wp2_with fail
    refine (hC.out).mono ?_
    rw [hU.out]
    rintro e w1 ⟨v, rfl, hown, hb⟩
    clear hown
    go_wp2_with fail
    go_ret2
    exact ⟨_, by rw [hR2.out]; rfl, by rw [hR.out]; exact IOwn.nil _ _, hb⟩
  | some os =>
    obtain ⟨_, hlen, _, hNL, hOK⟩ := unrolled_parts hu
    have hU := Lib.hid hu
    cases hk : lstOk 9 ds
    · have hR := Lib.hid (show vbOf ps ds = [] by unfold vbOf; rw [hu, hk]; simp)
      have hR2 := Lib.hid (show vbOk ps ds = false by unfold vbOk; rw [hu, hk]; simp)
      rw [hk] at cL
      clear hu hNL hOK hk
      go_enter Try.func20, Try.ntmps20
      go_wp2_with fail
      refine (hC.out).mono ?_
      rw [hU.out]
      rintro e w1 ⟨v, rfl, hown', hb⟩
      have hown : Own w1 w.heap.size v os := hown' os rfl
      obtain ⟨A3, c3, hv, hlc, hcm⟩ := hown.form
      subst hv
      have hD1 := Lib.hid ((hDs.out.below hb).more hb.size)
      have hB1 := Lib.hid hb
      clear hown hown' hb
      go_wp2_with (first | (go_at_call 58; refine (cL.out _ hD1.out).mono ?_; rintro e w2 ⟨rfl, hb2⟩))
      go_ret2
      exact ⟨_, by rw [hR2.out]; rfl, by rw [hR.out]; exact IOwn.nil _ _, hB1.out.trans (hb2.mono hB1.out.size)⟩
    · have hR := Lib.hid (show vbOf ps ds = rowL (valAt (hOf ds) os 0) by unfold vbOf; rw [hu, hk]; simp)
      have hR2 := Lib.hid (show vbOk ps ds = true by unfold vbOk; rw [hu, hk]; simp)
      have hOkN := Lib.hid (show ∀ s ∈ os, s.ok = true ∧ s.notLoop = true from fun s hs => ⟨List.all_eq_true.1 hOK s hs, hNL s hs⟩)
      have hLB := Lib.hid (lstOk_bd hk)
      have hKk := Lib.hid hk
      obtain rfl : nd = 81 := by rw [← hDs.out.1]; exact hLB.out.1
      obtain ⟨i0, hi0, hz0, hz1', hz2'⟩ := info_parts info_int
      obtain ⟨ga, off, rfl, _, _⟩ := hDs.out.2 (by decide)
      have hl81 : (ints ds).length = 81 * 1 := by rw [ints_length, hLB.out.1]
      rw [hk] at cL
      clear hu hNL hOK hk
      go_enter Try.func20, Try.ntmps20
      go_wp2_with fail
      refine (hC.out).mono ?_
      rw [hU.out]
      rintro e w1 ⟨v, rfl, hown', hb⟩
      have hown : Own w1 w.heap.size v os := hown' os rfl
      obtain ⟨A3, c3, hv, hlc, hcm⟩ := hown.form
      subst hv
      generalize hm : os.length = m at hlen hlc ⊢
      have hM := Lib.hid hm
      have hO := Lib.hid (show Lst w1 w1.heap.size A3 m os from by
        have := hown.lst
        rwa [hm] at this)
      have hD1 := Lib.hid ((hDs.out.below hb).more hb.size)
      have hB1 := Lib.hid hb
      clear hown hown' hm hb
      go_wp2_with (first | (go_at_call 58; refine (cL.out _ hD1.out).mono ?_; rintro e w1b ⟨rfl, hb2⟩; have hzb := hb2.size; have hPR := Lib.hid (push_row (base := w1.heap.size) hzb (hD1.out.below hb2 |>.more hzb)); have hz1b : w.heap.size ≤ w1b.heap.size := (Nat.le_trans hB1.out.size hzb)) | (at_builtin; refine wpList_append_own_at _ rfl (.tmp 23) (.tmp 24) 29 rfl w1.heap.size 3 i0 _ 1 8 Try.underlying29 hi0 hz0 hz1' hz2' rfl (by decide) (.slice (some ⟨w1b.heap.size, 0, none⟩) 0 0) 0 (ints []) rfl (by exact hPR.out.1) ⟨ga, off, none⟩ 81 cd (ints ds) rfl hl81 (by exact hPR.out.2) (ints_one ds) (by decide) (by decide) (by simp; omega) ?_; intro v' w4 hown4 hgrow4 _ hblk; obtain ⟨A5, c5, hv5, _, _⟩ := owns_form hown4; subst hv5))
      have hBb := Lib.hid (((hB1.out.trans (hb2.mono hB1.out.size)).alloc hz1b (.cells #[] 3)).grown hgrow4 (by simp; omega) (fun k hk => by
        have h1 : w1b.heap.size = k := by simpa [Value.ownBlock] using hk
        omega))
      have hI5 := Lib.hid (show IOwn w4 w1.heap.size (.slice A5 81 c5) ds from by
        unfold IOwn
        rw [hLB.out.1]
        exact hown4)
      have hb14 : Below w1.heap.size w1 w4 := (hb2.alloc hzb (.cells #[] 3)).grown hgrow4 (by simp; omega) (fun k hk => by
        have h1 : w1b.heap.size = k := by simpa [Value.ownBlock] using hk
        omega)
      have hL4 := Lib.hid (show Lst w4 w4.heap.size A3 m os from (hO.out.below hb14).more hb14.size)
      have hz4 : w1.heap.size ≤ w4.heap.size := hb14.size
      have hz1w := hB1.out.size
      clear hb2 hown4 hgrow4 hblk hb14
      have cP := Lib.hid (l5Back_any A3 A5 m c3 c5 os ds w1.heap.size w4 hL4.out hlen hM.out hOkN.out hI5.out hz4 hLB.out.1 (fun j st hst hj => val_small hKk.out (by rw [hM.out]; exact hlen) (fun s hs => (hOkN.out s hs).1) hst hj))
      refine (cP.out).mono ?_
      rintro e w5 ⟨v5, rfl, hO5, hb5⟩
      have hF := Lib.hid (show Lbd w (vbOf ps ds) (vbOk ps ds) (.returned (.tuple #[v5, .bool true])) w5 from ⟨_, by rw [hR2.out], by rw [hR.out]; exact owns_le hO5 hz1w, hBb.out.trans (hb5.mono (Nat.le_trans hz1w hz4))⟩)
      clear hO5 hb5
      go_wp2_with fail
      go_ret2
      exact hF.out

theorem vbOf_len (ps : List St) (ds : List Int) : (vbOf ps ds).length ≤ 81 := by
  unfold vbOf
  cases unrolled ps with
  | none => simp
  | some os =>
    dsimp only
    split
    · rw [rowL_length]; exact Nat.le_refl _
    · simp
theorem wo_vb (ps : List St) (ds : List Int) (h : vbOk ps ds = true) : (vbOf ps ds).getD 0 0 = woOf ps ds ∧ (vbOf ps ds).length = 81 := by
  unfold vbOk at h
  unfold vbOf woOf
  cases hu : unrolled ps with
  | none => rw [hu] at h; cases h
  | some os =>
    rw [hu] at h
    have hk : lstOk 9 ds = true := by simpa using h
    dsimp only
    rw [if_pos hk, if_pos hk]
    exact ⟨rowL_getD (g := valAt (hOf ds) os 0) (st := 0) (by decide), rowL_length _⟩
theorem wo_no (ps : List St) (ds : List Int) (h : vbOk ps ds = false) : woOf ps ds = 0 := by
  unfold vbOk at h
  unfold woOf
  cases hu : unrolled ps with
  | none => rfl
  | some os =>
    rw [hu] at h
    have hk : lstOk 9 ds = false := by simpa using h
    dsimp only
    rw [hk]; simp

theorem specWorthOf_any (A Ad : Option Addr) (n c nd cd : Nat) (ps : List St) (ds : List Int) (w : World) (h : Lst w w.heap.size A n ps) (hn : n ≤ c) (hc : c ≤ maxLen) (hbig : n ≤ 1048576) (hd : Ils w w.heap.size Ad nd ds) (hnd : nd ≤ maxLen) :
    Calls Try.prog 32 #[.slice A n c, .slice Ad nd cd] w (fun e w' => e = .returned (.tuple #[.int .i64 (woOf ps ds), .bool (vbOk ps ds)]) ∧ Below w.heap.size w w') := by
  have cV := Lib.hid (specValuesBack_any A Ad n c nd cd ps ds w h hn hc hbig hd hnd)
  clear h hd
  cases hk : vbOk ps ds
  · have hR := Lib.hid (wo_no ps ds hk)
    unfold Lbd at cV
    rw [hk] at cV
    clear hk
    go_enter Try.func32, Try.ntmps32
    go_wp2_with (first | (go_at_call 20; refine cV.out.mono ?_; rintro e w1 ⟨v, rfl, ho, hb⟩))
    go_ret2
    exact ⟨by rw [hR.out]; rfl, hb⟩
  · obtain ⟨h0, h81⟩ := wo_vb ps ds hk
    unfold Lbd at cV
    rw [hk] at cV
    clear hk
    generalize vbOf ps ds = os at cV h0 h81
    generalize woOf ps ds = z at h0 ⊢
    go_enter Try.func32, Try.ntmps32
    go_wp2_with (first | (go_at_call 20; refine cV.out.mono ?_; rintro e w1 ⟨v, rfl, ho, hb⟩; obtain ⟨A1, c1, hv1, _, _⟩ := ho.form; rw [h81] at hv1; subst hv1; obtain ⟨g, off, d, rfl, hg, hd0, c0⟩ := ho.lst.at_ (show 0 < 81 by decide); have hzd : z = d := (by rw [← h0, List.getD_eq_getElem?_getD, hd0]; rfl); subst hzd; have c00 : w1.cell? ⟨g, off, none⟩ = some (.int .i64 z) := c0))
    go_ret2
    exact ⟨rfl, hb⟩

theorem specEventOf_any (v x : Int) (w : World) : Calls Try.prog 16 #[.int .i64 v, .int .i64 x] w (Wtsd w (evOf v x)) := by
  have cV := Lib.hid (fun wx => l1Var_any v wx)
  have cX := Lib.hid (fun wx => l1In_any x 0 2 wx)
  cases hv : inB v 0 3
  · have hR := Lib.hid (show evOf v x = [] by unfold evOf; rw [hv]; simp)
    rw [hv] at cV
    clear hv
    go_enter Try.func16, Try.ntmps16
    go_wp2_with (first | (go_at_call 47; refine (cV.out _).mono ?_; rintro e w' ⟨rfl, rfl⟩))
    go_ret
    exact ⟨_, rfl, by rw [hR.out]; exact IOwn.nil _ _, Below.refl _ _⟩
  · have hv3 := inB_iff.1 hv
    cases hx : inB x 0 2
    · have hR := Lib.hid (show evOf v x = [] by unfold evOf; rw [hv, hx]; simp)
      rw [hv] at cV
      rw [hx] at cX
      clear hv hx
      go_enter Try.func16, Try.ntmps16
      go_wp2_with (first
        | (go_at_call 47; refine (cV.out _).mono ?_; rintro e w' ⟨rfl, rfl⟩)
        | (go_at_call 48; refine (cX.out _).mono ?_; rintro e w' ⟨rfl, rfl⟩))
      go_ret
      exact ⟨_, rfl, by rw [hR.out]; exact IOwn.nil _ _, Below.refl _ _⟩
    · have hR := Lib.hid (show evOf v x = evRow v x by unfold evOf; rw [hv, hx]; rfl)
      rw [hv] at cV
      rw [hx] at cX
      clear hv hx
      obtain ⟨i0, hi0, hz0, hz1', hz2'⟩ := info_parts info_int
      have hN := Lib.hid (show IOwn (w.alloc (.cells #[] 3)) w.heap.size (.slice (some ⟨w.heap.size, 0, none⟩) 0 0) (rowP (fun st => if valueAt st v = x then 1 else 0) 0) from
        ⟨rfl, .inr ⟨w.heap.size, 0, #[], rfl, Nat.le_refl _, Has.new w _ _, Nat.le_refl _, Nat.zero_le _, rfl, rfl⟩⟩)
      have hB0 := Lib.hid ((Below.refl w.heap.size w).alloc (Nat.le_refl _) (.cells #[] 3))
      go_enter Try.func16, Try.ntmps16
      go_wp2_with (first
        | (go_at_call 47; refine (cV.out _).mono ?_; rintro e w' ⟨rfl, rfl⟩)
        | (go_at_call 48; refine (cX.out _).mono ?_; rintro e w' ⟨rfl, rfl⟩))
      go_loopg [5, 6] 81 (fun gn o u wr => ∃ q : Nat, q ≤ 81 ∧ gn = 81 - q ∧ u = .int .i64 q ∧ IOwn wr _ o (rowP (fun st => if valueAt st v = x then 1 else 0) q) ∧ Below _ _ wr)
      case atStart => exact ⟨0, by omega, rfl, rfl, hN.out, hB0.out⟩
      case round =>
        obtain ⟨q, hq, hgn, rfl, hO, hB⟩ := hrel
        have hgk : gk = 81 - q := hgn
        clear hgn
        obtain ⟨Ao, co, hvo, hco1, hco2⟩ := hO.form
        have hlq : (rowP (fun st => if valueAt st v = x then 1 else 0) q).length = q := rowP_len hq
        rw [hlq] at hvo
        subst hvo
        have hO' := Lib.hid hO
        have hB' := Lib.hid hB
        have hBz := hB.size
        clear hO hB
        by_cases hlt : q < 81
        · have hqs : (0 : Int) ≤ (q : Int) ∧ (q : Int) ≤ 80 := by omega
          have hq0 : (0 : Int) ≤ (q : Int) := by omega
          have hq1 : (q : Int) < 81 := by omega
          have cA := Lib.hid (fun wx => l1At_v q v wx hqs hv3)
          by_cases hvx : valueAt q v = x
          · have hSn := Lib.hid (show rowP (fun st => if valueAt st v = x then 1 else 0) (q + 1) = rowP (fun st => if valueAt st v = x then 1 else 0) q ++ [1] from by rw [rowP_succ hlt]; rw [if_pos hvx])
            rw [hvx] at cA
            clear hvx
            have hO3 := Lib.hid (hO'.out.alloc (.cells #[.int .i64 1] 3))
            have hnw := Lib.hid (new_one wr (.int .i64 1) 3)
            have hB3 := Lib.hid (hB'.out.alloc hB'.out.size (.cells #[.int .i64 1] 3))
            go_wp2_with (first
              | (go_at_call 49; refine (cA.out _).mono ?_; rintro e w' ⟨rfl, hw'⟩; obtain rfl := hw'.symm)
              | (at_builtin; refine wpList_append_lies _ rfl (.tmp 26) (.tmp 28) 29 rfl w.heap.size 3 i0 _ 1 8 Try.underlying29 hi0 hz0 hz1' hz2' rfl (by decide) (.slice Ao q co) q (ints (rowP (fun st => if valueAt st v = x then 1 else 0) q)) rfl (by have := hO3.out; unfold IOwn at this; rwa [hlq] at this) ⟨wr.heap.size, 0, none⟩ 1 1 [.int .i64 1] rfl rfl (by exact hnw.out) (by simp [Value.oneCell']) (by omega) (by unfold maxLen; omega) (by omega) (by simp; omega) (wr.heap.size + 1) (by simp) ?_; intro gr cr2 w8 hown8 hgrow8 hat8 hlt8))
            have hF := Lib.hid (IOwn.append_ (news := [(1 : Int)]) hO3.out (by rw [hlq]; exact hown8) hgrow8 hB3.out (by simp; omega))
            clear hown8 hgrow8 hat8
            go_wp2_with fail
            go_roundg (81 - (q + 1))
            case measure => omega
            case rel => exact ⟨q + 1, by omega, rfl, by go_num, by rw [hSn.out]; exact hF.out.1, hF.out.2⟩
          · have hvb : (valueAt q v == x) = false := by simpa using hvx
            have hSn := Lib.hid (show rowP (fun st => if valueAt st v = x then 1 else 0) (q + 1) = rowP (fun st => if valueAt st v = x then 1 else 0) q ++ [0] from by rw [rowP_succ hlt]; rw [if_neg hvx])
            clear hvx
            generalize valueAt q v = vv at cA hvb
            have hO3 := Lib.hid (hO'.out.alloc (.cells #[.int .i64 0] 3))
            have hnw := Lib.hid (new_one wr (.int .i64 0) 3)
            have hB3 := Lib.hid (hB'.out.alloc hB'.out.size (.cells #[.int .i64 0] 3))
            go_wp2_with (first
              | (go_at_call 49; refine (cA.out _).mono ?_; rintro e w' ⟨rfl, hw'⟩; obtain rfl := hw'.symm)
              | (at_builtin; refine wpList_append_lies _ rfl (.tmp 26) (.tmp 28) 29 rfl w.heap.size 3 i0 _ 1 8 Try.underlying29 hi0 hz0 hz1' hz2' rfl (by decide) (.slice Ao q co) q (ints (rowP (fun st => if valueAt st v = x then 1 else 0) q)) rfl (by have := hO3.out; unfold IOwn at this; rwa [hlq] at this) ⟨wr.heap.size, 0, none⟩ 1 1 [.int .i64 0] rfl rfl (by exact hnw.out) (by simp [Value.oneCell']) (by omega) (by unfold maxLen; omega) (by omega) (by simp; omega) (wr.heap.size + 1) (by simp) ?_; intro gr cr2 w8 hown8 hgrow8 hat8 hlt8))
            have hF := Lib.hid (IOwn.append_ (news := [(0 : Int)]) hO3.out (by rw [hlq]; exact hown8) hgrow8 hB3.out (by simp; omega))
            clear hown8 hgrow8 hat8
            go_wp2_with fail
            go_roundg (81 - (q + 1))
            case measure => omega
            case rel => exact ⟨q + 1, by omega, rfl, by go_num, by rw [hSn.out]; exact hF.out.1, hF.out.2⟩
        · obtain rfl : q = 81 := by omega
          clear hlq
          go_wp2_with fail
          go_ret
          refine ⟨_, rfl, ?_, hB'.out⟩
          rw [hR.out]
          unfold evRow
          rw [← rowP_all]
          exact hO'.out

theorem specStepBack_any (s : St) (Ad : Option Addr) (nd cd : Nat) (ds : List Int) (w : World) (hd : Ils w w.heap.size Ad nd ds) (hnd : nd ≤ maxLen) :
    Calls Try.prog 29 #[.agg #[.int .i64 s.k, .int .i64 s.a, .int .i64 s.b, .int .i64 s.c, .int .i64 s.u, .int .i64 s.v, .int .i64 s.x], .slice Ad nd cd] w (Lbd w (sbOf s ds) (sbOk s ds)) := by
  have cS := Lib.hid (fun wx => specStmtOk_st s wx)
  have hDs := Lib.hid hd
  have cL := Lib.hid (fun wx (hx : Ils wx wx.heap.size Ad nd ds) => l4List_any Ad nd cd ds wx hx hnd)
  have hlen0 := hd.1
  have hS0 := Lib.hid (Has.new w 49 #[.int .i64 s.k, .int .i64 s.a, .int .i64 s.b, .int .i64 s.c, .int .i64 s.u, .int .i64 s.v, .int .i64 s.x])
  have hB0 := Lib.hid ((Below.refl w.heap.size w).alloc (Nat.le_refl _) (.cells #[.int .i64 s.k, .int .i64 s.a, .int .i64 s.b, .int .i64 s.c, .int .i64 s.u, .int .i64 s.v, .int .i64 s.x] 49))
  clear hd
  cases hok : s.ok
  · have hR2 := Lib.hid (show sbOk s ds = false by unfold sbOk; rw [hok]; simp)
    have hR := Lib.hid (show sbOf s ds = [] by unfold sbOf; rw [hR2.out]; simp)
    rw [hok] at cS
    clear hok
    go_enter Try.func29, Try.ntmps29
    go_wp2_with (first | (go_at_call 62; refine (cS.out _).mono ?_; rintro e w1 ⟨rfl, hb1⟩))
    go_ret2
    exact ⟨_, by rw [hR2.out]; rfl, by rw [hR.out]; exact IOwn.nil _ _, hB0.out.trans (hb1.mono hB0.out.size)⟩
  · have hrg := ok_rng (k := s.k) (a := s.a) (b := s.b) (c := s.c) (u := s.u) (v := s.v) (x := s.x) hok
    have hkr : 0 ≤ s.k ∧ s.k ≤ 7 := by omega
    clear hrg
    rw [hok] at cS
    by_cases h67 : 6 ≤ s.k
    · have hR2 := Lib.hid (show sbOk s ds = false by
        unfold sbOk
        have : s.k = 6 ∨ s.k = 7 := by omega
        rcases this with e | e <;> rw [e] <;> simp)
      have hR := Lib.hid (show sbOf s ds = [] by unfold sbOf; rw [hR2.out]; simp)
      clear hok
      go_enter Try.func29, Try.ntmps29
      go_wp2_with (first | (go_at_call 62; refine (cS.out _).mono ?_; rintro e w1 ⟨rfl, hb1⟩; have hb1' := hB0.out.trans (hb1.mono hB0.out.size); have hc1 := (Has.kept (by exact hS0.out) hb1).cell))
      go_ret2
      exact ⟨_, by rw [hR2.out]; rfl, by rw [hR.out]; exact IOwn.nil _ _, hb1'⟩
    · have h6 : (s.k == 6) = false := by simp; omega
      have h7 : (s.k == 7) = false := by simp; omega
      cases hk : lstOk 1000000000 ds
      · have hR2 := Lib.hid (show sbOk s ds = false by unfold sbOk; rw [hok, h6, h7, hk]; rfl)
        have hR := Lib.hid (show sbOf s ds = [] by unfold sbOf; rw [hR2.out]; simp)
        rw [hk] at cL
        clear hok hk h6 h7
        go_enter Try.func29, Try.ntmps29
        go_wp2_with (first
          | (go_at_call 62; refine (cS.out _).mono ?_; rintro e w1 ⟨rfl, hb1⟩; have hb1' := hB0.out.trans (hb1.mono hB0.out.size); have hc1 := (Has.kept (by exact hS0.out) hb1).cell)
          | (go_at_call 63; refine (cL.out _ ((hDs.out.below hb1').more hb1'.size)).mono ?_; rintro e w2 ⟨rfl, hb2⟩))
        go_ret2
        exact ⟨_, by rw [hR2.out]; rfl, by rw [hR.out]; exact IOwn.nil _ _, hb1'.trans (hb2.mono hb1'.size)⟩
      · have hR2 := Lib.hid (show sbOk s ds = true by unfold sbOk; rw [hok, h6, h7, hk]; rfl)
        have hR := Lib.hid (show sbOf s ds = rowL (valAt (hOf ds) [s] 0) by unfold sbOf; rw [hR2.out]; simp)
        have hl81 := (lstOk_bd hk).1
        obtain rfl : 81 = nd := by omega
        have hsl : s.notLoop = true := by
          unfold St.notLoop
          simpa using h7
        have hKk := Lib.hid hk
        have cO := Lib.hid (fun wx (hx : Ils wx wx.heap.size Ad 81 ds) => l5One_any s Ad cd ds wx hx hok hsl (fun st hst => by have := hOf_bd (by decide) hKk.out st; omega))
        rw [hk] at cL
        clear hok hk h6 h7 hsl
        go_enter Try.func29, Try.ntmps29
        go_wp2_with (first
          | (go_at_call 62; refine (cS.out _).mono ?_; rintro e w1 ⟨rfl, hb1⟩; have hb1' := hB0.out.trans (hb1.mono hB0.out.size); have hc1 := (Has.kept (by exact hS0.out) hb1).cell)
          | (go_at_call 63; refine (cL.out _ ((hDs.out.below hb1').more hb1'.size)).mono ?_; rintro e w2 ⟨rfl, hb2⟩; have hc2 := (Has.kept (Has.kept (by exact hS0.out) hb1) hb2).cell; have hb2' := hb1'.trans (hb2.mono hb1'.size))
          | (go_at_call 64; refine (cO.out _ ((hDs.out.below hb2').more hb2'.size)).mono ?_; rintro e w3 ⟨v3, rfl, ho3, hb3⟩))
        go_ret2
        exact ⟨_, by rw [hR2.out]; rfl, by rw [hR.out]; exact owns_le ho3 hb2'.size, hb2'.trans (hb3.mono hb2'.size)⟩

theorem specChanceOf_any (A : Option Addr) (n c : Nat) (ps : List St) (v x : Int) (w : World) (h : Lst w w.heap.size A n ps) (hn : n ≤ c) (hc : c ≤ maxLen) (hbig : n ≤ 1048576) :
    Calls Try.prog 13 #[.slice A n c, .int .i64 v, .int .i64 x] w fun e w' => e = .returned (.tuple #[.int .i64 (ch1 ps v x), .int .i64 (ch2 ps v x), .bool (chOk ps v x)]) ∧ Below w.heap.size w w' := by
  have hH := Lib.hid h
  have cE := Lib.hid (fun wx => specEventOf_any v x wx)
  have cW := Lib.hid (fun Ad nd cd wx (hbx : Below w.heap.size w wx) (hd : Ils wx wx.heap.size Ad nd (evOf v x)) (hnd : nd ≤ maxLen) => specWorthOf_any A Ad n c nd cd ps (evOf v x) wx ((h.below hbx).more hbx.size) hn hc hbig hd hnd)
  have cT := Lib.hid (fun wx (hbx : Below w.heap.size w wx) => specTotalOf_any A n c ps wx ((h.below hbx).more hbx.size) hn hc hbig)
  have hWb := woOf_bd ps (evOf v x)
  have hEl := evOf_len v x
  clear h
  cases hk : vbOk ps (evOf v x)
  · have hR := Lib.hid (show chOk ps v x = false by unfold chOk; rw [hk]; rfl)
    have hR1 := Lib.hid (show ch1 ps v x = 0 by unfold ch1; rw [hR.out]; rfl)
    have hR2 := Lib.hid (show ch2 ps v x = 0 by unfold ch2; rw [hR.out]; rfl)
    rw [hk] at cW
    clear hk
    generalize woOf ps (evOf v x) = wo at cW hWb
    go_enter Try.func13, Try.ntmps13
    go_wp2_with (first
      | (go_at_call 16; refine (cE.out _).mono ?_; rintro e w1 ⟨v1, rfl, ho1, hb1⟩; obtain ⟨A1, c1, rfl, hc1a, hc1b⟩ := ho1.form)
      | (go_at_call 32; refine (cW.out _ _ _ _ hb1 ho1.lst (by unfold maxLen; omega)).mono ?_; rintro e w2 ⟨rfl, hb2⟩))
    go_ret3
    exact ⟨by rw [hR.out, hR1.out, hR2.out]; rfl, hb1.trans (hb2.mono hb1.size)⟩
  · have hsome : (unrolled ps).isSome = true := by
      unfold vbOk at hk
      rw [Bool.and_eq_true] at hk
      exact hk.1
    have hTb := totalOf_bd hsome
    by_cases h0 : totalOf ps = 0
    · have hR := Lib.hid (show chOk ps v x = false by unfold chOk; rw [hk, h0]; rfl)
      have hR1 := Lib.hid (show ch1 ps v x = 0 by unfold ch1; rw [hR.out]; rfl)
      have hR2 := Lib.hid (show ch2 ps v x = 0 by unfold ch2; rw [hR.out]; rfl)
      rw [hk] at cW
      rw [h0] at cT
      clear hk hsome hTb h0
      generalize woOf ps (evOf v x) = wo at cW hWb
      go_enter Try.func13, Try.ntmps13
      go_wp2_with (first
        | (go_at_call 16; refine (cE.out _).mono ?_; rintro e w1 ⟨v1, rfl, ho1, hb1⟩; obtain ⟨A1, c1, rfl, hc1a, hc1b⟩ := ho1.form)
        | (go_at_call 32; refine (cW.out _ _ _ _ hb1 ho1.lst (by unfold maxLen; omega)).mono ?_; rintro e w2 ⟨rfl, hb2⟩; have hb2' := hb1.trans (hb2.mono hb1.size))
        | (go_at_call 42; refine (cT.out _ hb2').mono ?_; rintro e w3 ⟨rfl, hb3⟩; have hb3' := hb2'.trans (hb3.mono hb2'.size)))
      go_ret3
      exact ⟨by rw [hR.out, hR1.out, hR2.out]; rfl, hb3'⟩
    · have hR := Lib.hid (show chOk ps v x = true by unfold chOk; rw [hk]; simpa using h0)
      have hR1 := Lib.hid (show ch1 ps v x = low1 (woOf ps (evOf v x)) (totalOf ps) from by unfold ch1 chW; rw [hR.out]; rfl)
      have hR2 := Lib.hid (show ch2 ps v x = low2 (woOf ps (evOf v x)) (totalOf ps) from by unfold ch2 chW; rw [hR.out]; rfl)
      have h0b : (totalOf ps == 0) = false := by simpa using h0
      rw [hk] at cW
      clear hk hsome
      generalize woOf ps (evOf v x) = wo at cW hWb hR1 hR2
      generalize totalOf ps = tt at cT hTb hR1 hR2 h0 h0b
      have cLo := Lib.hid (fun wx => l4Fraction_any wo tt wx ⟨hWb.1, by omega⟩ ⟨by omega, by omega⟩)
      clear h0
      go_enter Try.func13, Try.ntmps13
      go_wp2_with (first
        | (go_at_call 16; refine (cE.out _).mono ?_; rintro e w1 ⟨v1, rfl, ho1, hb1⟩; obtain ⟨A1, c1, rfl, hc1a, hc1b⟩ := ho1.form)
        | (go_at_call 32; refine (cW.out _ _ _ _ hb1 ho1.lst (by unfold maxLen; omega)).mono ?_; rintro e w2 ⟨rfl, hb2⟩; have hb2' := hb1.trans (hb2.mono hb1.size))
        | (go_at_call 42; first | (refine (cT.out _ hb3').mono ?_; rintro e w4 ⟨rfl, hb4⟩; have hb4' := hb3'.trans (hb4.mono hb3'.size)) | (refine (cT.out _ hb2').mono ?_; rintro e w3 ⟨rfl, hb3⟩; have hb3' := hb2'.trans (hb3.mono hb2'.size)))
        | (go_at_call 43; refine (cLo.out _).mono ?_; rintro e w5 ⟨rfl, k5, rfl⟩))
      go_ret3
      exact ⟨by rw [hR.out, hR1.out, hR2.out]; rfl, below_drewN hb4' _⟩
end Go.Proofs.Ytcphclkaddhfmaa
