/- For every list of bytes: of the drawn factor and number the program's SumOut and SetIn return what the model's return; the sum over a variable is the sum of what is set, and all the numbers together stay the same. No condition. -/
import Derived.Test.YtaipdkfbkcknkaaRows
import Derived.ProofKit
import Derived.OpenShut
import Derived.ShutString
import Derived.ChangeOld
import Derived.Below
import Derived.Test.YtaipdkfbkcknkaaZAL
import Derived.Test.YtaipdkfbkcknkaaZAM
import Derived.Test.YtaipdkfbkcknkaaZAO
import Derived.Test.YtaipdkfbkcknkaaZAG
import Derived.Test.YtaipdkfbkcknkaaZAE
import Derived.Test.YtaipdkfbkcknkaaZAC
import Derived.Test.YtaipdkfbkcknkaaZAB
import Derived.Test.YtaipdkfbkcknkaaZAP
import Derived.Test.YtaipdkfbkcknkaaZAA
import Derived.Test.YtaipdkfbkcknkaaZAH
namespace Go.Proofs.Ytaipdkfbkcknkaa.fnSumOut
open Go.ChangeShapes Go.WideShapes Go.ChangeAt Go.RowKit
set_option linter.unusedVariables false
set_option maxRecDepth 100000
theorem own : ownKnob Try.prog.godebug = none := by kernel_rfl
theorem laidOut : laidOutB Try.prog = true := by kernel_rfl
theorem oc_bd {F : Fac} (hF : facOk 1000000000 F = true) {v : Int} (hv : v ∈ F.vs) {x : Int} (hx : 0 ≤ x) (i : Nat) : 0 ≤ oc F v x i ∧ oc F v x i ≤ 3000000000 := by
  unfold oc
  rw [List.getD_eq_getElem?_getD]
  cases h : (fOut F v x).ns[i]? with
  | none => exact ⟨by decide, by decide⟩
  | some y =>
    unfold fOut facBy_ at h
    dsimp only at h
    rw [List.getElem?_map] at h
    obtain ⟨q, hq, rfl⟩ := Option.map_eq_some_iff.1 h
    have b0 := fAt_bd hF (by decide) (withValue (stOf (over (bdf (setOf F.vs) (bitN v))) (q : Int)) v 0)
    have b1 := fAt_bd hF (by decide) (withValue (stOf (over (bdf (setOf F.vs) (bitN v))) (q : Int)) v 1)
    have b2 := fAt_bd hF (by decide) (withValue (stOf (over (bdf (setOf F.vs) (bitN v))) (q : Int)) v 2)
    rw [Option.getD_some]
    split <;> split <;> split <;> omega
theorem osum_bd {F : Fac} (hF : facOk 1000000000 F = true) {v : Int} (hv : v ∈ F.vs) (k i : Nat) : 0 ≤ osum F v k i ∧ osum F v k i ≤ 9000000000 := by
  have h0 := oc_bd hF hv (x := 0) (by decide) i
  have h1 := oc_bd hF hv (x := 1) (by decide) i
  have h2 := oc_bd hF hv (x := 2) (by decide) i
  unfold osum
  split <;> split <;> split <;> omega
theorem row_put {ds : List Int} {j : Nat} {y : Int} : (ints ds).toArray.setIfInBounds j (.int .i64 y) = (ints (ds.set j y)).toArray := by
  unfold ints
  rw [List.setIfInBounds_toArray, List.map_set]
theorem FacW.vs9 {w : World} {B n1 n2 : Nat} {A1 A2 : Option Addr} {F : Fac} (h : FacW w B A1 n1 A2 n2 F) : Ils w B A1 n1 F.vs := h.1
theorem FacW.ns9 {w : World} {B n1 n2 : Nat} {A1 A2 : Option Addr} {F : Fac} (h : FacW w B A1 n1 A2 n2 F) : Ils w B A2 n2 F.ns := h.2
theorem wcInts_b (A A2 : Option Addr) (n n2 c c2 : Nat) (ds es : List Int) (w : World) (h : Ils w w.heap.size A n ds) (h2 : Ils w w.heap.size A2 n2 es) (hn : n ≤ maxLen) (hn2 : n2 ≤ maxLen) (he : ds = es) :
    Calls Try.prog 43 #[.slice A n c, .slice A2 n2 c2] w fun e w' => e = .returned (.bool true) ∧ Below w.heap.size w w' :=
  (wcInts_any A A2 n n2 c c2 ds es w h h2 hn hn2).mono fun e w' ⟨h1, q, h3⟩ => ⟨by rw [h1, decide_eq_true he], by rw [h3]; exact below_drewN (Below.refl _ _) q⟩
theorem made_row (n : Nat) : madeCells #[Value.int .i64 0] n = (ints (List.replicate n 0)).toArray := by
  have h := made_zs n
  apply Array.ext'
  rw [h]
  rfl
set_option maxHeartbeats 4000000 in
theorem walk {H : Type} (enc : TypeId × Value → H) (W : World) (base : Nat) (v0 : Value) (d0 : DataW H) (p0 : List MemPlace) (hv0 : Value.okWide Try.prog W .any base 47 v0)
    (h0 : DataW.Trod enc Try.prog W 0 (fun _ => true) true 47 v0 d0 p0) (_ : ∀ x ∈ p0, x.block < W.heap.size) :
    Calls Try.prog 12 #[v0] W fun e w' => e = .returned (.bool true) ∧ Below W.heap.size W w' := by
  obtain ⟨A, n, c, rfl, hn, hc, hb⟩ := open_bytes hv0 h0
  clear hv0 h0
  have hcM := Lib.hid hc
  have hnn : n ≤ 9223372036854775807 := by unfold maxLen at hc; omega
  clear hc
  by_cases h1 : 1048576 < n
  · go_enter Try.func12, Try.ntmps12
    go_wp2_with fail
    go_ret
    exact ⟨rfl, Below.refl _ _⟩
  go_enter Try.func12, Try.ntmps12
  go_wp2_with fail
  refine (DrawSumOut_any A n c _ hb hn hcM.out).mono ?_
  rintro e w1 ⟨a1, a2, F, x, rfl, hV, hl1, hl2, hB⟩
  have hB1 := Lib.hid hB
  clear hB hb
  obtain ⟨AX1, cX1, hv, _, _⟩ := hV.1.form
  subst hv
  obtain ⟨AX2, cX2, hv, _, _⟩ := hV.2.1.form
  subst hv
  have hX1 := Lib.hid hV.fac
  clear hV
  have hbn : Below w1.heap.size w1 (w1.alloc (.cells #[.slice AX1 F.vs.length cX1, .slice AX2 F.ns.length cX2] 36)) := (Below.refl _ _).alloc (Nat.le_refl _) _
  have hcnX := Lib.hid (Has.new w1 36 #[.slice AX1 F.vs.length cX1, .slice AX2 F.ns.length cX2])
  have hX2 := Lib.hid (hX1.out.below hbn)
  clear hX1
  have hB2 := Lib.hid (hB1.out.trans (hbn.mono hB1.out.size))
  clear hB1
  clear hbn
  have hc_X := hcnX.out.cell
  obtain ⟨T, hT⟩ : ∃ T, T = outTo F x := ⟨_, rfl⟩
  obtain ⟨ok, hok⟩ : ∃ b, b = okOut F x := ⟨_, rfl⟩
  have hTl : T.vs.length ≤ 4 ∧ T.ns.length ≤ 81 := by rw [hT]; exact outTo_len F x
  obtain ⟨hT1, hT2⟩ := hTl
  have hTh := Lib.hid hT
  have hokh := Lib.hid hok
  clear hT hok
  go_wp2_with fail
  refine (SumOut_any AX1 AX2 F.vs.length cX1 F.ns.length cX2 F x _ hX2.out (by unfold maxLen; omega) (by unfold maxLen; omega)).mono ?_
  rw [← hTh.out, ← hokh.out]
  rintro e w3 ⟨p1, p2, rfl, hP, hb⟩
  clear hc_X
  have hX3 := Lib.hid (hX2.out.below hb)
  clear hX2
  have hcX3 := Lib.hid (Has.kept (by exact hcnX.out) hb)
  clear hcnX
  have hB3 := Lib.hid (hB2.out.trans (hb.mono hB2.out.size))
  clear hB2
  have hc_X := hcX3.out.cell
  clear hb
  obtain ⟨AP1, cP1, hv, _, _⟩ := hP.1.form
  subst hv
  obtain ⟨AP2, cP2, hv, _, _⟩ := hP.2.1.form
  subst hv
  have hP3 := Lib.hid hP.fac
  clear hP
  have hbn : Below w3.heap.size w3 (w3.alloc (.cells #[.slice AP1 T.vs.length cP1, .slice AP2 T.ns.length cP2] 36)) := (Below.refl _ _).alloc (Nat.le_refl _) _
  have hcnP := Lib.hid (Has.new w3 36 #[.slice AP1 T.vs.length cP1, .slice AP2 T.ns.length cP2])
  clear hc_X
  have hX4 := Lib.hid (hX3.out.below hbn)
  clear hX3
  have hP4 := Lib.hid (hP3.out.below hbn)
  clear hP3
  have hcX4 := Lib.hid (Has.kept (by exact hcX3.out) hbn)
  clear hcX3
  have hB4 := Lib.hid (hB3.out.trans (hbn.mono hB3.out.size))
  clear hB3
  have hc_X := hcX4.out.cell
  clear hbn
  clear hc_X
  have hc_X := hcX4.out.cell
  have hc_P := hcnP.out.cell
  go_wp2_with fail
  refine (specSumOut_any AX1 AX2 F.vs.length cX1 F.ns.length cX2 F x _ hX4.out (by unfold maxLen; omega) (by unfold maxLen; omega)).mono ?_
  rw [← hTh.out, ← hokh.out]
  rintro e w5 ⟨q1, q2, rfl, hQ, hb⟩
  clear hc_X hc_P
  have hX5 := Lib.hid (hX4.out.below hb)
  clear hX4
  have hP5 := Lib.hid (hP4.out.below hb)
  clear hP4
  have hcX5 := Lib.hid (Has.kept (by exact hcX4.out) hb)
  clear hcX4
  have hcP5 := Lib.hid (Has.kept (by exact hcnP.out) hb)
  clear hcnP
  have hB5 := Lib.hid (hB4.out.trans (hb.mono hB4.out.size))
  clear hB4
  have hc_X := hcX5.out.cell
  have hc_P := hcP5.out.cell
  clear hb
  obtain ⟨AQ1, cQ1, hv, _, _⟩ := hQ.1.form
  subst hv
  obtain ⟨AQ2, cQ2, hv, _, _⟩ := hQ.2.1.form
  subst hv
  have hQ5 := Lib.hid hQ.fac
  clear hQ
  have hbn : Below w5.heap.size w5 (w5.alloc (.cells #[.slice AQ1 T.vs.length cQ1, .slice AQ2 T.ns.length cQ2] 36)) := (Below.refl _ _).alloc (Nat.le_refl _) _
  have hcnQ := Lib.hid (Has.new w5 36 #[.slice AQ1 T.vs.length cQ1, .slice AQ2 T.ns.length cQ2])
  clear hc_X hc_P
  have hX6 := Lib.hid (hX5.out.below hbn)
  clear hX5
  have hP6 := Lib.hid (hP5.out.below hbn)
  clear hP5
  have hQ6 := Lib.hid (hQ5.out.below hbn)
  clear hQ5
  have hcX6 := Lib.hid (Has.kept (by exact hcX5.out) hbn)
  clear hcX5
  have hcP6 := Lib.hid (Has.kept (by exact hcP5.out) hbn)
  clear hcP5
  have hB6 := Lib.hid (hB5.out.trans (hbn.mono hB5.out.size))
  clear hB5
  have hc_X := hcX6.out.cell
  have hc_P := hcP6.out.cell
  clear hbn
  clear hc_X hc_P
  have hc_X := hcX6.out.cell
  have hc_P := hcP6.out.cell
  have hc_Q := hcnQ.out.cell
  go_wp2_with fail
  refine (wcFactor_any AP1 AP2 AQ1 AQ2 T.vs.length cP1 T.ns.length cP2 T.vs.length cQ1 T.ns.length cQ2 T _ hP6.out hQ6.out (by unfold maxLen; omega) (by unfold maxLen; omega) (by unfold maxLen; omega) (by unfold maxLen; omega)).mono ?_
  rintro e w7 ⟨rfl, hb⟩
  clear hc_X hc_P hc_Q
  have hX7 := Lib.hid (hX6.out.below hb)
  clear hX6
  have hP7 := Lib.hid (hP6.out.below hb)
  clear hP6
  have hQ7 := Lib.hid (hQ6.out.below hb)
  clear hQ6
  have hcX7 := Lib.hid (Has.kept (by exact hcX6.out) hb)
  clear hcX6
  have hcP7 := Lib.hid (Has.kept (by exact hcP6.out) hb)
  clear hcP6
  have hcQ7 := Lib.hid (Has.kept (by exact hcnQ.out) hb)
  clear hcnQ
  have hB7 := Lib.hid (hB6.out.trans (hb.mono hB6.out.size))
  clear hB6
  have hc_X := hcX7.out.cell
  have hc_P := hcP7.out.cell
  have hc_Q := hcQ7.out.cell
  clear hb
  cases ok
  · have hn0 : T.ns.length = 0 := by rw [hTh.out]; unfold outTo; rw [← hokh.out]; rfl
    go_wp2_with fail
    go_ret
    exact ⟨rfl, hB7.out⟩
  · have hoT := hokh.out.symm
    have hTe : T = fOut F x (-1) := by rw [hTh.out]; unfold outTo; rw [if_pos hoT]
    unfold okOut at hoT
    rw [Bool.and_eq_true, Bool.and_eq_true] at hoT
    obtain ⟨⟨hF, hv⟩, hFT⟩ := hoT
    have hv := of_decide_eq_true hv
    have hFh := Lib.hid hF
    have hvh := Lib.hid hv
    have hTeh := Lib.hid hTe
    have hTok := Lib.hid (show facOk 1000000000 T = true by rw [hTe]; exact hFT)
    obtain ⟨i0, hi0, hz0, hz1', hz2'⟩ := info_parts info_int
    obtain ⟨N, hN⟩ : ∃ N, T.ns.length = N := ⟨_, rfl⟩
    have hNh := Lib.hid hN
    have hN81 : N ≤ 81 := by omega
    have hmk : ∀ wx : World, (Instr.makeSlice 22 (.int .i64 (N : Int)) (.int .i64 (N : Int))).run Try.prog wx = .ok (.slice (some ⟨wx.heap.size, 0, none⟩) N N) (wx.alloc (.cells (ints (List.replicate N 0)).toArray 3)) := by
      intro wx
      have hr := run_make (P := Try.prog) wx 22 3 i0 _ Try.underlying22 hi0 hz0 .i64 .i64 (N : Int) (N : Int) (by omega) (by omega) (by rw [hz2']; omega) (by omega)
      rw [hz1', Int.toNat_natCast, Nat.mul_one] at hr
      rw [← made_row N]
      exact hr
    clear hTe hF hv hFT hN hi0 hz0 hz1' hz2'
    clear hc_X hc_P hc_Q
    rw [hNh.out] at hP7 hQ7
    have hcNP := hcP7.out
    rw [hNh.out] at hcNP
    clear hcP7
    have hcMP := Lib.hid hcNP
    clear hcNP
    have hcNQ := hcQ7.out
    rw [hNh.out] at hcNQ
    clear hcQ7
    have hcMQ := Lib.hid hcNQ
    clear hcNQ
    rw [hNh.out]
    have hc_X := hcX7.out.cell
    have hc_P := hcMP.out.cell
    have hc_Q := hcMQ.out.cell
    have hbn : Below w7.heap.size w7 (w7.alloc (.cells (ints (List.replicate N 0)).toArray 3)) := (Below.refl _ _).alloc (Nat.le_refl _) _
    have hcnR := Lib.hid (show Has (w7.alloc (.cells (ints (List.replicate N 0)).toArray 3)) w7.heap.size 3 (ints (oacc F x N 0 0)).toArray from by rw [oacc_zero]; exact Has.new _ _ _)
    have hGw := Lib.hid (show w7.heap.size ≤ w7.heap.size from Nat.le_refl _)
    clear hc_X hc_P hc_Q
    have hXG := Lib.hid (hX7.out.keep_ hbn)
    have hltX := Lib.hid hcX7.out.lt
    have hcXG := Lib.hid (Has.kept (by exact hcX7.out) hbn)
    have hPG := Lib.hid (hP7.out.keep_ hbn)
    have hltP := Lib.hid hcMP.out.lt
    have hcPG := Lib.hid (Has.kept (by exact hcMP.out) hbn)
    have hWG := Lib.hid hB7.out.size
    have hGa := Lib.hid hbn.size
    have hold := hcMP.out.cell
    have hX8 := Lib.hid (hX7.out.below hbn)
    clear hX7
    have hP8 := Lib.hid (hP7.out.below hbn)
    clear hP7
    have hQ8 := Lib.hid (hQ7.out.below hbn)
    clear hQ7
    have hcX8 := Lib.hid (Has.kept (by exact hcX7.out) hbn)
    clear hcX7
    have hcP8 := Lib.hid (Has.kept (by exact hcMP.out) hbn)
    clear hcMP
    have hcQ8 := Lib.hid (Has.kept (by exact hcMQ.out) hbn)
    clear hcMQ
    have hB8 := Lib.hid (hB7.out.trans (hbn.mono hB7.out.size))
    clear hB7
    have hc_X := hcX8.out.cell
    have hc_P := hcP8.out.cell
    have hc_Q := hcQ8.out.cell
    clear hbn
    clear hc_X hc_P hc_Q
    go_wp2_with fail
    clear hold
    generalize (w7.alloc (.cells (ints (List.replicate N 0)).toArray 3)) = Wa at hXG hPG hcXG hcPG hGa hX8 hP8 hQ8 hcX8 hcP8 hcQ8 hcnR hB8 ⊢
    obtain ⟨G, hG⟩ : ∃ G, w7.heap.size = G := ⟨_, rfl⟩
    rw [hG] at hcnR hXG hPG hltX hltP hWG hGa ⊢
    clear hGw hG hmk
    clear hX8 hP8 hQ8 hcX8 hcP8 hcQ8
    have hBa := hB8
    clear hB8
    go_loopg [10] 3 (fun gn y wr => ∃ k : Nat, k ≤ 3 ∧ gn = 3 - k ∧ y = .int .i64 k ∧ Has wr G 3 (ints (oacc F x N k 0)).toArray ∧ Below G Wa wr)
    case atStart => exact ⟨0, Nat.zero_le _, rfl, rfl, hcnR.out, Below.refl _ _⟩
    case round =>
      obtain ⟨k, hk, hgn, rfl, hR, hbr⟩ := hrel
      have hgk : gk = 3 - k := hgn
      have hGl := Lib.hid hR.lt
      have hcR9 := Lib.hid hR
      have hT9 := Lib.hid hbr
      have hX9 := Lib.hid ((hXG.out.keep_ hbr).more (Nat.le_of_lt hR.lt))
      have hP9 := Lib.hid ((hPG.out.keep_ hbr).more (Nat.le_of_lt hR.lt))
      have hcX9 := Lib.hid (Has.below (by exact hcXG.out) hbr hltX.out)
      have hcP9 := Lib.hid (Has.below (by exact hcPG.out) hbr hltP.out)
      have hB9 := Lib.hid (hBa.out.trans (hbr.mono hWG.out))
      clear hgn hR hbr
      have hc_X := hcX9.out.cell
      have hc_P := hcP9.out.cell
      have hc_R := hcR9.out.cell
      by_cases hk3 : k < 3
      · have hk0 : (0 : Int) ≤ (k : Int) := by omega
        have hk1 : (k : Int) < 3 := by omega
        obtain ⟨Y, hYe⟩ : ∃ Y, Y = fOut F x (k : Int) := ⟨_, rfl⟩
        have hYo9 := Lib.hid (show okIn F x (k : Int) = true from by unfold okIn; rw [hFh.out, decide_eq_true hvh.out, inB_iff.2 ⟨by omega, by omega⟩]; rfl)
        have hYi := Lib.hid (show inTo F x (k : Int) = Y from by unfold inTo; rw [if_pos hYo9.out, hYe])
        have hYl := fOut_len hFh.out x (k : Int)
        rw [← hYe] at hYl
        obtain ⟨hY1, hY2⟩ := hYl
        have hYT := Lib.hid (show Y.vs = T.vs from by rw [hYe, hTeh.out]; rfl)
        have hYN := Lib.hid (show Y.ns.length = N from by rw [hYe, ← hNh.out, hTeh.out]; exact fOut_nlen F x _ _)
        have hYd := Lib.hid (fun (j : Nat) (d : Int) (hd : Y.ns[j]? = some d) => show d = oc F x (k : Int) j from by unfold oc; rw [← hYe, List.getD_eq_getElem?_getD, hd]; rfl)
        clear hYe
        go_wp2_with fail
        refine (SetIn_any AX1 AX2 F.vs.length cX1 F.ns.length cX2 F x (k : Int) _ hX9.out (by unfold maxLen; omega) (by unfold maxLen; omega)).mono ?_
        rw [hYi.out, hYo9.out]
        rintro e w10 ⟨y1, y2, rfl, hY, hb⟩
        have hT10 := Lib.hid (hT9.out.trans (hb.mono (Nat.le_trans hGa.out hT9.out.size)))
        clear hT9
        clear hc_X hc_P hc_R
        have hX10 := Lib.hid (hX9.out.below hb)
        clear hX9
        have hP10 := Lib.hid (hP9.out.below hb)
        clear hP9
        have hcX10 := Lib.hid (Has.kept (by exact hcX9.out) hb)
        clear hcX9
        have hcP10 := Lib.hid (Has.kept (by exact hcP9.out) hb)
        clear hcP9
        have hcR10 := Lib.hid (Has.kept (by exact hcR9.out) hb)
        clear hcR9
        have hB10 := Lib.hid (hB9.out.trans (hb.mono hB9.out.size))
        clear hB9
        have hc_X := hcX10.out.cell
        have hc_P := hcP10.out.cell
        have hc_R := hcR10.out.cell
        clear hb
        obtain ⟨AY1, cY1, hv, _, _⟩ := hY.1.form
        subst hv
        obtain ⟨AY2, cY2, hv, _, _⟩ := hY.2.1.form
        subst hv
        obtain ⟨wb, hwb⟩ : ∃ q, wr.heap.size = q := ⟨_, rfl⟩
        have hYw10 := Lib.hid hY.2.1
        have hY10 := Lib.hid hY.fac
        clear hY
        rw [hwb] at hYw10 hGl
        clear hwb
        have hbn : Below w10.heap.size w10 (w10.alloc (.cells #[.slice AY1 Y.vs.length cY1, .slice AY2 Y.ns.length cY2] 36)) := (Below.refl _ _).alloc (Nat.le_refl _) _
        have hcnY := Lib.hid (Has.new w10 36 #[.slice AY1 Y.vs.length cY1, .slice AY2 Y.ns.length cY2])
        have hT11 := Lib.hid (hT10.out.trans (hbn.mono (Nat.le_trans hGa.out hT10.out.size)))
        clear hT10
        clear hc_X hc_P hc_R
        have hX11 := Lib.hid (hX10.out.below hbn)
        clear hX10
        have hP11 := Lib.hid (hP10.out.below hbn)
        clear hP10
        have hY11 := Lib.hid (hY10.out.below hbn)
        clear hY10
        have hYw11 := Lib.hid (hYw10.out.below hbn)
        clear hYw10
        have hcX11 := Lib.hid (Has.kept (by exact hcX10.out) hbn)
        clear hcX10
        have hcP11 := Lib.hid (Has.kept (by exact hcP10.out) hbn)
        clear hcP10
        have hcR11 := Lib.hid (Has.kept (by exact hcR10.out) hbn)
        clear hcR10
        have hB11 := Lib.hid (hB10.out.trans (hbn.mono hB10.out.size))
        clear hB10
        have hc_X := hcX11.out.cell
        have hc_P := hcP11.out.cell
        have hc_R := hcR11.out.cell
        clear hbn
        clear hc_X hc_P hc_R
        have hc_X := hcX11.out.cell
        have hc_P := hcP11.out.cell
        have hc_R := hcR11.out.cell
        have hc_Y := hcnY.out.cell
        go_wp2_with fail
        refine (specSetIn_any AX1 AX2 F.vs.length cX1 F.ns.length cX2 F x (k : Int) _ hX11.out (by unfold maxLen; omega) (by unfold maxLen; omega)).mono ?_
        rw [hYi.out, hYo9.out]
        rintro e w12 ⟨z1, z2, rfl, hZ, hb⟩
        have hT12 := Lib.hid (hT11.out.trans (hb.mono (Nat.le_trans hGa.out hT11.out.size)))
        clear hT11
        clear hc_X hc_P hc_R hc_Y
        have hX12 := Lib.hid (hX11.out.below hb)
        clear hX11
        have hP12 := Lib.hid (hP11.out.below hb)
        clear hP11
        have hY12 := Lib.hid (hY11.out.below hb)
        clear hY11
        have hYw12 := Lib.hid (hYw11.out.below hb)
        clear hYw11
        have hcX12 := Lib.hid (Has.kept (by exact hcX11.out) hb)
        clear hcX11
        have hcP12 := Lib.hid (Has.kept (by exact hcP11.out) hb)
        clear hcP11
        have hcR12 := Lib.hid (Has.kept (by exact hcR11.out) hb)
        clear hcR11
        have hcY12 := Lib.hid (Has.kept (by exact hcnY.out) hb)
        clear hcnY
        have hB12 := Lib.hid (hB11.out.trans (hb.mono hB11.out.size))
        clear hB11
        have hc_X := hcX12.out.cell
        have hc_P := hcP12.out.cell
        have hc_R := hcR12.out.cell
        have hc_Y := hcY12.out.cell
        clear hb
        obtain ⟨AZ1, cZ1, hv, _, _⟩ := hZ.1.form
        subst hv
        obtain ⟨AZ2, cZ2, hv, _, _⟩ := hZ.2.1.form
        subst hv
        have hZ12 := Lib.hid hZ.fac
        clear hZ
        have hbn : Below w12.heap.size w12 (w12.alloc (.cells #[.slice AZ1 Y.vs.length cZ1, .slice AZ2 Y.ns.length cZ2] 36)) := (Below.refl _ _).alloc (Nat.le_refl _) _
        have hcnZ := Lib.hid (Has.new w12 36 #[.slice AZ1 Y.vs.length cZ1, .slice AZ2 Y.ns.length cZ2])
        have hT13 := Lib.hid (hT12.out.trans (hbn.mono (Nat.le_trans hGa.out hT12.out.size)))
        clear hT12
        clear hc_X hc_P hc_R hc_Y
        have hX13 := Lib.hid (hX12.out.below hbn)
        clear hX12
        have hP13 := Lib.hid (hP12.out.below hbn)
        clear hP12
        have hY13 := Lib.hid (hY12.out.below hbn)
        clear hY12
        have hYw13 := Lib.hid (hYw12.out.below hbn)
        clear hYw12
        have hZ13 := Lib.hid (hZ12.out.below hbn)
        clear hZ12
        have hcX13 := Lib.hid (Has.kept (by exact hcX12.out) hbn)
        clear hcX12
        have hcP13 := Lib.hid (Has.kept (by exact hcP12.out) hbn)
        clear hcP12
        have hcR13 := Lib.hid (Has.kept (by exact hcR12.out) hbn)
        clear hcR12
        have hcY13 := Lib.hid (Has.kept (by exact hcY12.out) hbn)
        clear hcY12
        have hB13 := Lib.hid (hB12.out.trans (hbn.mono hB12.out.size))
        clear hB12
        have hc_X := hcX13.out.cell
        have hc_P := hcP13.out.cell
        have hc_R := hcR13.out.cell
        have hc_Y := hcY13.out.cell
        clear hbn
        clear hc_X hc_P hc_R hc_Y
        have hc_X := hcX13.out.cell
        have hc_P := hcP13.out.cell
        have hc_R := hcR13.out.cell
        have hc_Y := hcY13.out.cell
        have hc_Z := hcnZ.out.cell
        go_wp2_with fail
        refine (wcFactor_any AY1 AY2 AZ1 AZ2 Y.vs.length cY1 Y.ns.length cY2 Y.vs.length cZ1 Y.ns.length cZ2 Y _ hY13.out hZ13.out (by unfold maxLen; omega) (by unfold maxLen; omega) (by unfold maxLen; omega) (by unfold maxLen; omega)).mono ?_
        rintro e w14 ⟨rfl, hb⟩
        have hT14 := Lib.hid (hT13.out.trans (hb.mono (Nat.le_trans hGa.out hT13.out.size)))
        clear hT13
        clear hc_X hc_P hc_R hc_Y hc_Z
        have hX14 := Lib.hid (hX13.out.below hb)
        clear hX13
        have hP14 := Lib.hid (hP13.out.below hb)
        clear hP13
        have hY14 := Lib.hid (hY13.out.below hb)
        clear hY13
        have hYw14 := Lib.hid (hYw13.out.below hb)
        clear hYw13
        have hZ14 := Lib.hid (hZ13.out.below hb)
        clear hZ13
        have hcX14 := Lib.hid (Has.kept (by exact hcX13.out) hb)
        clear hcX13
        have hcP14 := Lib.hid (Has.kept (by exact hcP13.out) hb)
        clear hcP13
        have hcR14 := Lib.hid (Has.kept (by exact hcR13.out) hb)
        clear hcR13
        have hcY14 := Lib.hid (Has.kept (by exact hcY13.out) hb)
        clear hcY13
        have hcZ14 := Lib.hid (Has.kept (by exact hcnZ.out) hb)
        clear hcnZ
        have hB14 := Lib.hid (hB13.out.trans (hb.mono hB13.out.size))
        clear hB13
        have hc_X := hcX14.out.cell
        have hc_P := hcP14.out.cell
        have hc_R := hcR14.out.cell
        have hc_Y := hcY14.out.cell
        have hc_Z := hcZ14.out.cell
        clear hb
        go_wp2_with fail
        refine (wcInts_b AY1 AP1 Y.vs.length T.vs.length cY1 cP1 Y.vs T.vs _ (FacW.vs9 hY14.out) (FacW.vs9 hP14.out) (by unfold maxLen; omega) (by unfold maxLen; omega) hYT.out).mono ?_
        rintro e w15 ⟨rfl, hb⟩
        have hT15 := Lib.hid (hT14.out.trans (hb.mono (Nat.le_trans hGa.out hT14.out.size)))
        clear hT14
        clear hc_X hc_P hc_R hc_Y hc_Z
        have hX15 := Lib.hid (hX14.out.below hb)
        clear hX14
        have hP15 := Lib.hid (hP14.out.below hb)
        clear hP14
        have hY15 := Lib.hid (hY14.out.below hb)
        clear hY14
        have hYw15 := Lib.hid (hYw14.out.below hb)
        clear hYw14
        have hZ15 := Lib.hid (hZ14.out.below hb)
        clear hZ14
        have hcX15 := Lib.hid (Has.kept (by exact hcX14.out) hb)
        clear hcX14
        have hcP15 := Lib.hid (Has.kept (by exact hcP14.out) hb)
        clear hcP14
        have hcR15 := Lib.hid (Has.kept (by exact hcR14.out) hb)
        clear hcR14
        have hcY15 := Lib.hid (Has.kept (by exact hcY14.out) hb)
        clear hcY14
        have hcZ15 := Lib.hid (Has.kept (by exact hcZ14.out) hb)
        clear hcZ14
        have hB15 := Lib.hid (hB14.out.trans (hb.mono hB14.out.size))
        clear hB14
        have hc_X := hcX15.out.cell
        have hc_P := hcP15.out.cell
        have hc_R := hcR15.out.cell
        have hc_Y := hcY15.out.cell
        have hc_Z := hcZ15.out.cell
        clear hb
        go_wp2_with fail
        clear hc_X hc_P hc_R hc_Y hc_Z
        obtain ⟨w80, rfl⟩ : ∃ x : World, x = wr := ⟨_, rfl⟩
        obtain ⟨g80, rfl⟩ : ∃ x : Nat, x = gk := ⟨_, rfl⟩
        go_loopg [93] Y.ns.length (fun gn y wr => ∃ j : Nat, j ≤ Y.ns.length ∧ gn = Y.ns.length - j ∧ y = .int .i64 j ∧ Has wr G 3 (ints (oacc F x N k j)).toArray ∧ IOwn wr wb (.slice AY2 Y.ns.length cY2) Y.ns ∧ Below G Wa wr)
        case atStart => exact ⟨0, Nat.zero_le _, rfl, rfl, hcR15.out, hYw15.out, hT15.out⟩
        case round =>
          obtain ⟨j, hj, hgn, rfl, hR, hYv, hbr⟩ := hrel
          have hgj : gk = Y.ns.length - j := hgn
          have kR := Lib.hid hR
          have kY := Lib.hid hYv
          have kT := Lib.hid hbr
          clear hgn hbr
          by_cases hlt : j < Y.ns.length
          · obtain ⟨g, off, d, rfl, hg, hd, cd0⟩ := hYv.lst.at_ hlt
            have hj0 : (0 : Int) ≤ (j : Int) := by omega
            have hj1 : (j : Int) < (Y.ns.length : Int) := by omega
            have hjN : j < N := by have := hYN.out; omega
            have hj2 : (j : Int) < (N : Int) := by omega
            have hrc : wr.cell? ⟨G, j, none⟩ = some (.int .i64 (osum F x k j)) := by
              rw [hR.cell]
              show ((ints _).toArray)[j]? = _
              rw [List.getElem?_toArray]
              refine ints_get ?_
              have := oacc_at F x k j hjN
              rwa [if_neg (by omega)] at this
            have hrf := hR.frozen
            have hde := hYd.out j d hd
            have hb1 := osum_bd hFh.out hvh.out k j
            have hb2 := oc_bd hFh.out hvh.out hk0 j
            rw [← hde] at hb2
            have hst := oacc_step F x (k := k) hk3 hjN
            rw [← hde] at hst
            have hst9 := Lib.hid hst
            generalize osum F x k j = s0 at *
            have hwm : IntKind.i64.wrap (s0 + d) = s0 + d := by rw [IntKind.wrap_i64]; omega
            have nR := Lib.hid (show Has (wr.setCell ⟨G, j, none⟩ (.int .i64 (s0 + d))) G 3 (ints (oacc F x N k (j + 1))).toArray from by rw [← hst9.out, ← row_put]; exact kR.out.put j _)
            have nY := Lib.hid (show IOwn (wr.setCell ⟨G, j, none⟩ (.int .i64 (s0 + d))) wb (.slice (some ⟨g, off, none⟩) Y.ns.length cY2) Y.ns from owns_put kY.out hGl.out)
            have nT := Lib.hid (kT.out.setCell (p := ⟨G, j, none⟩) (Nat.le_refl _) (.int .i64 (s0 + d)))
            clear hR hYv hd hde hst hb1 hb2
            go_wp2_with fail
            go_roundg (Y.ns.length - (j + 1))
            case measure => omega
            case rel => exact ⟨j + 1, by omega, rfl, by go_num, nR.out, nY.out, nT.out⟩
          · have hjN : j = N := by have := hYN.out; omega
            have nR := Lib.hid (show Has wr G 3 (ints (oacc F x N (k + 1) 0)).toArray from by rw [← oacc_next]; rw [hjN] at hR; exact hR)
            clear hR hYv hjN
            go_wp2_with fail
            go_roundg (3 - (k + 1))
            case measure => omega
            case rel => exact ⟨k + 1, by omega, rfl, by go_num, nR.out, kT.out⟩
      · obtain rfl : k = 3 := by omega
        have hall : oacc F x N 3 0 = T.ns := by rw [← hNh.out, hTeh.out]; exact oacc_all F x
        have hr := hcR9.out
        rw [hall] at hr
        have hI := Lib.hid (IOwn.of_has (base := 0) (ds := T.ns) hr rfl hNh.out (Nat.zero_le _) (by unfold maxLen; omega)).lst
        have hfT := fac_parts hTok.out
        have hfF := fac_parts hFh.out
        have hbT : ∀ y ∈ T.ns, 0 ≤ y ∧ y ≤ 1000000000 := fun y hy => inB_iff.1 (List.all_eq_true.1 hfT.2.1 y hy)
        have hbF : ∀ y ∈ F.ns, 0 ≤ y ∧ y ≤ 1000000000 := fun y hy => inB_iff.1 (List.all_eq_true.1 hfF.2.1 y hy)
        have hFl : F.ns.length ≤ 82 := by rw [hfF.2.2.1]; have := pow_four hfF.2.2.2.1; omega
        have hsT := isum_top (M := 1000000000) (by decide) (ds := T.ns) hbT
        have hsF := isum_top (M := 1000000000) (by decide) (ds := F.ns) hbF
        have hsum : isum T.ns = isum F.ns := by rw [hTeh.out]; exact fOut_sum hFh.out hvh.out
        have hTN := hNh.out
        have hsTb : isum T.ns ≤ 1000000000000000000 := by have := hsT.2; rw [hTN] at this; omega
        have hsFb : isum F.ns ≤ 1000000000000000000 := by have := hsF.2; omega
        obtain ⟨S, hS⟩ : ∃ S, isum F.ns = S := ⟨_, rfl⟩
        rw [hS] at hsum
        have hST := Lib.hid hsum
        have hSF := Lib.hid hS
        have pT := Lib.hid (fun y hy => (hbT y hy).1)
        have pF := Lib.hid (fun y hy => (hbF y hy).1)
        have qT := Lib.hid hsTb
        have qF := Lib.hid hsFb
        have hN6 : N ≤ 1048576 := by omega
        have hFl6 := Lib.hid (show F.ns.length ≤ 1048576 by omega)
        clear hall hr hfT hfF hbT hbF hsT hsF hsum hTN hsTb hsFb hS hFl
        go_wp2_with fail
        clear hc_X hc_P hc_R
        refine wp_region_any (by kernel_rfl) ?_
        change wpAny _ _ _ _ _ _ _ (World.drew _)
        refine wpAny_last (n := 13) (I := fun listed aq wx => listed.size = 14 ∧ ∃ v108 v109 v110 v111 v112 v113 v114 v115 v116 v117 v118 v119 v120 : Value, aq = { tmps := #[.slice A n c, undef, u2, .pointer (some ⟨w1.heap.size, 0, none⟩), .int .i64 x, .pointer (some ⟨w3.heap.size, 0, none⟩), .bool true, .pointer (some ⟨w5.heap.size, 0, none⟩), .bool true, .slice (some ⟨G, 0, none⟩) N N, .int .i64 ((3 : Nat) : Int), u11, u12, u13, u14, u15, u16, .slice A n c, .int .i64 ((n : Nat) : Int), .bool (decide (1048576 < ((n : Nat) : Int))), .tuple #[.agg #[.slice AX1 F.vs.length cX1, .slice AX2 F.ns.length cX2], .int .i64 x], .slice A n c, .tuple #[.agg #[.slice AX1 F.vs.length cX1, .slice AX2 F.ns.length cX2], .int .i64 x], .agg #[.slice AX1 F.vs.length cX1, .slice AX2 F.ns.length cX2], .int .i64 x, .tuple #[.agg #[.slice AP1 T.vs.length cP1, .slice AP2 N cP2], .bool true], .agg #[.slice AX1 F.vs.length cX1, .slice AX2 F.ns.length cX2], .int .i64 x, .tuple #[.agg #[.slice AP1 T.vs.length cP1, .slice AP2 N cP2], .bool true], .agg #[.slice AP1 T.vs.length cP1, .slice AP2 N cP2], .bool true, .tuple #[.agg #[.slice AQ1 T.vs.length cQ1, .slice AQ2 N cQ2], .bool true], .agg #[.slice AX1 F.vs.length cX1, .slice AX2 F.ns.length cX2], .int .i64 x, .tuple #[.agg #[.slice AQ1 T.vs.length cQ1, .slice AQ2 N cQ2], .bool true], .agg #[.slice AQ1 T.vs.length cQ1, .slice AQ2 N cQ2], .bool true, .bool true, .bool true, .bool false, .bool false, .agg #[.slice AP1 T.vs.length cP1, .slice AP2 N cP2], .agg #[.slice AQ1 T.vs.length cQ1, .slice AQ2 N cQ2], .bool true, .bool false, .bool false, .bool true, .bool false, undef, undef, undef, undef, .pointer (some ⟨w3.heap.size, 1, none⟩), .slice AP2 N cP2, .int .i64 ((N : Nat) : Int), .slice (some ⟨G, 0, none⟩) N N, .int .i64 ((3 : Nat) : Int), .bool false, u58, u59, u60, u61, u62, u63, u64, u65, u66, u67, u68, u69, u70, u71, u72, u73, u74, u75, u76, u77, u78, u79, u80, u81, u82, u83, u84, u85, u86, u87, u88, u89, u90, u91, u92, u93, u94, u95, u96, u97, u98, u99, u100, u101, u102, u103, u104, u105, u106, u107, v108, v109, v110, v111, v112, v113, v114, v115, v116, v117, v118, v119, v120], defers := [] } ∧ (listed.getD 0 false = true → v108 = .slice (some ⟨G, 0, none⟩) N N) ∧ (listed.getD 1 false = true → v109 = .pointer (some ⟨w3.heap.size, 1, none⟩)) ∧ (listed.getD 2 false = true → v110 = .slice AP2 N cP2) ∧ (listed.getD 3 false = true → v111 = .bool true) ∧ (listed.getD 4 false = true → v112 = .bool true) ∧ (listed.getD 5 false = true → v113 = .pointer (some ⟨w3.heap.size, 1, none⟩)) ∧ (listed.getD 6 false = true → v114 = .slice AP2 N cP2) ∧ (listed.getD 7 false = true → v115 = .int .i64 S) ∧ (listed.getD 8 false = true → v116 = .pointer (some ⟨w1.heap.size, 1, none⟩)) ∧ (listed.getD 9 false = true → v117 = .slice AX2 F.ns.length cX2) ∧ (listed.getD 10 false = true → v118 = .int .i64 S) ∧ (listed.getD 11 false = true → v119 = .bool true) ∧ (listed.getD 12 false = true → v120 = .bool true) ∧ Below wr.heap.size wr wx) rfl (by kernel_rfl) (by kernel_rfl) ?hs ?hl _ _ _ ?st rfl (by decide) _ (by decide)
        case st =>
          refine ⟨rfl, undef, undef, undef, undef, undef, undef, undef, undef, undef, undef, undef, undef, undef, rfl, ?_, ?_, ?_, ?_, ?_, ?_, ?_, ?_, ?_, ?_, ?_, ?_, ?_, (Below.refl _ _).drew⟩ <;> (intro e; exact absurd e (by decide))
        case hs =>
          rintro listed aq wx ⟨hz, v108, v109, v110, v111, v112, v113, v114, v115, v116, v117, v118, v119, v120, rfl, hII⟩ i hin hi
          obtain ⟨h0, o, ho, hd⟩ := mem_ready.1 hi
          have K0 := Lib.hid hII.1
          have K1 := Lib.hid hII.2.1
          have K2 := Lib.hid hII.2.2.1
          have K3 := Lib.hid hII.2.2.2.1
          have K4 := Lib.hid hII.2.2.2.2.1
          have K5 := Lib.hid hII.2.2.2.2.2.1
          have K6 := Lib.hid hII.2.2.2.2.2.2.1
          have K7 := Lib.hid hII.2.2.2.2.2.2.2.1
          have K8 := Lib.hid hII.2.2.2.2.2.2.2.2.1
          have K9 := Lib.hid hII.2.2.2.2.2.2.2.2.2.1
          have K10 := Lib.hid hII.2.2.2.2.2.2.2.2.2.2.1
          have K11 := Lib.hid hII.2.2.2.2.2.2.2.2.2.2.2.1
          have K12 := Lib.hid hII.2.2.2.2.2.2.2.2.2.2.2.2.1
          have hB : Below wr.heap.size wr wx := hII.2.2.2.2.2.2.2.2.2.2.2.2.2
          have hne := Lib.hid (fun k (hk : i ≠ k) => @listed_ne listed i k hk)
          have hxX := Has.kept (by exact hcX9.out) hB
          have hxP := Has.kept (by exact hcP9.out) hB
          have h0f : listed.getD i false = false := by rw [Array.getD_eq_getD_getElem?, getD_false h0]; rfl
          clear hII hi h0
          rcases (by omega : i = 0 ∨ i = 1 ∨ i = 2 ∨ i = 3 ∨ i = 4 ∨ i = 5 ∨ i = 6 ∨ i = 7 ∨ i = 8 ∨ i = 9 ∨ i = 10 ∨ i = 11 ∨ i = 12) with rfl | rfl | rfl | rfl | rfl | rfl | rfl | rfl | rfl | rfl | rfl | rfl | rfl
          · cases ho
            refine wpOp_step rfl (fun K hK => ?_)
            go_simp
            refine hK _ _ ⟨by simpa using hz, .slice (some ⟨G, 0, none⟩) N N, v109, v110, v111, v112, v113, v114, v115, v116, v117, v118, v119, v120, rfl, ?_⟩
            exact ⟨fun _ => rfl, fun e => K1.out (hne.out 1 (by decide) e), fun e => K2.out (hne.out 2 (by decide) e), fun e => K3.out (hne.out 3 (by decide) e), fun e => K4.out (hne.out 4 (by decide) e), fun e => K5.out (hne.out 5 (by decide) e), fun e => K6.out (hne.out 6 (by decide) e), fun e => K7.out (hne.out 7 (by decide) e), fun e => K8.out (hne.out 8 (by decide) e), fun e => K9.out (hne.out 9 (by decide) e), fun e => K10.out (hne.out 10 (by decide) e), fun e => K11.out (hne.out 11 (by decide) e), fun e => K12.out (hne.out 12 (by decide) e), hB⟩
          · cases ho
            refine wpOp_step rfl (fun K hK => ?_)
            go_simp
            refine hK _ _ ⟨by simpa using hz, v108, .pointer (some ⟨w3.heap.size, 1, none⟩), v110, v111, v112, v113, v114, v115, v116, v117, v118, v119, v120, rfl, ?_⟩
            exact ⟨fun e => K0.out (hne.out 0 (by decide) e), fun _ => rfl, fun e => K2.out (hne.out 2 (by decide) e), fun e => K3.out (hne.out 3 (by decide) e), fun e => K4.out (hne.out 4 (by decide) e), fun e => K5.out (hne.out 5 (by decide) e), fun e => K6.out (hne.out 6 (by decide) e), fun e => K7.out (hne.out 7 (by decide) e), fun e => K8.out (hne.out 8 (by decide) e), fun e => K9.out (hne.out 9 (by decide) e), fun e => K10.out (hne.out 10 (by decide) e), fun e => K11.out (hne.out 11 (by decide) e), fun e => K12.out (hne.out 12 (by decide) e), hB⟩
          · cases ho
            have d1 := hd ⟨1, .data⟩ (by simp) rfl
            obtain rfl := K1.out d1
            have hxPc := hxP.cell
            refine wpOp_step rfl (fun K hK => ?_)
            go_simp
            refine hK _ _ ⟨by simpa using hz, v108, .pointer (some ⟨w3.heap.size, 1, none⟩), .slice AP2 N cP2, v111, v112, v113, v114, v115, v116, v117, v118, v119, v120, rfl, ?_⟩
            exact ⟨fun e => K0.out (hne.out 0 (by decide) e), fun e => K1.out (hne.out 1 (by decide) e), fun _ => rfl, fun e => K3.out (hne.out 3 (by decide) e), fun e => K4.out (hne.out 4 (by decide) e), fun e => K5.out (hne.out 5 (by decide) e), fun e => K6.out (hne.out 6 (by decide) e), fun e => K7.out (hne.out 7 (by decide) e), fun e => K8.out (hne.out 8 (by decide) e), fun e => K9.out (hne.out 9 (by decide) e), fun e => K10.out (hne.out 10 (by decide) e), fun e => K11.out (hne.out 11 (by decide) e), fun e => K12.out (hne.out 12 (by decide) e), hB⟩
          · cases ho
            have d0 := hd ⟨0, .data⟩ (by simp) rfl
            have d2 := hd ⟨2, .data⟩ (by simp) rfl
            obtain rfl := K0.out d0
            obtain rfl := K2.out d2
            refine wpOp_step rfl (fun K hK => ?_)
            go_simp
            go_at_call 43
            refine (wcInts_b (some ⟨G, 0, none⟩) AP2 N N N cP2 T.ns T.ns _ ((hI.out.below hB).more hB.size) (FacW.ns9 (hP9.out.below hB)) (by unfold maxLen; omega) (by unfold maxLen; omega) rfl).mono ?_
            rintro e w3 ⟨rfl, hb3⟩
            refine hK _ _ ⟨by simpa using hz, .slice (some ⟨G, 0, none⟩) N N, v109, .slice AP2 N cP2, .bool true, v112, v113, v114, v115, v116, v117, v118, v119, v120, rfl, ?_⟩
            exact ⟨fun e => K0.out (hne.out 0 (by decide) e), fun e => K1.out (hne.out 1 (by decide) e), fun e => K2.out (hne.out 2 (by decide) e), fun _ => rfl, fun e => K4.out (hne.out 4 (by decide) e), fun e => K5.out (hne.out 5 (by decide) e), fun e => K6.out (hne.out 6 (by decide) e), fun e => K7.out (hne.out 7 (by decide) e), fun e => K8.out (hne.out 8 (by decide) e), fun e => K9.out (hne.out 9 (by decide) e), fun e => K10.out (hne.out 10 (by decide) e), fun e => K11.out (hne.out 11 (by decide) e), fun e => K12.out (hne.out 12 (by decide) e), hB.trans (hb3.mono hB.size)⟩
          · cases ho
            have d3 := hd ⟨3, .data⟩ (by simp) rfl
            obtain rfl := K3.out d3
            refine wpOp_step rfl (fun K hK => ?_)
            go_simp
            refine hK _ _ ⟨by simpa using hz, v108, v109, v110, .bool true, .bool true, v113, v114, v115, v116, v117, v118, v119, v120, rfl, ?_⟩
            exact ⟨fun e => K0.out (hne.out 0 (by decide) e), fun e => K1.out (hne.out 1 (by decide) e), fun e => K2.out (hne.out 2 (by decide) e), fun e => K3.out (hne.out 3 (by decide) e), fun _ => rfl, fun e => K5.out (hne.out 5 (by decide) e), fun e => K6.out (hne.out 6 (by decide) e), fun e => K7.out (hne.out 7 (by decide) e), fun e => K8.out (hne.out 8 (by decide) e), fun e => K9.out (hne.out 9 (by decide) e), fun e => K10.out (hne.out 10 (by decide) e), fun e => K11.out (hne.out 11 (by decide) e), fun e => K12.out (hne.out 12 (by decide) e), hB⟩
          · cases ho
            have d4 := hd ⟨4, .guard⟩ (by simp) rfl
            obtain rfl := K4.out d4
            refine wpOp_step rfl (fun K hK => ?_)
            go_simp
            refine hK _ _ ⟨by simpa using hz, v108, v109, v110, v111, .bool true, .pointer (some ⟨w3.heap.size, 1, none⟩), v114, v115, v116, v117, v118, v119, v120, rfl, ?_⟩
            exact ⟨fun e => K0.out (hne.out 0 (by decide) e), fun e => K1.out (hne.out 1 (by decide) e), fun e => K2.out (hne.out 2 (by decide) e), fun e => K3.out (hne.out 3 (by decide) e), fun e => K4.out (hne.out 4 (by decide) e), fun _ => rfl, fun e => K6.out (hne.out 6 (by decide) e), fun e => K7.out (hne.out 7 (by decide) e), fun e => K8.out (hne.out 8 (by decide) e), fun e => K9.out (hne.out 9 (by decide) e), fun e => K10.out (hne.out 10 (by decide) e), fun e => K11.out (hne.out 11 (by decide) e), fun e => K12.out (hne.out 12 (by decide) e), hB⟩
          · cases ho
            have d5 := hd ⟨5, .data⟩ (by simp) rfl
            have d4 := hd ⟨4, .guard⟩ (by simp) rfl
            obtain rfl := K5.out d5
            obtain rfl := K4.out d4
            have hxPc := hxP.cell
            refine wpOp_step rfl (fun K hK => ?_)
            go_simp
            refine hK _ _ ⟨by simpa using hz, v108, v109, v110, v111, .bool true, .pointer (some ⟨w3.heap.size, 1, none⟩), .slice AP2 N cP2, v115, v116, v117, v118, v119, v120, rfl, ?_⟩
            exact ⟨fun e => K0.out (hne.out 0 (by decide) e), fun e => K1.out (hne.out 1 (by decide) e), fun e => K2.out (hne.out 2 (by decide) e), fun e => K3.out (hne.out 3 (by decide) e), fun e => K4.out (hne.out 4 (by decide) e), fun e => K5.out (hne.out 5 (by decide) e), fun _ => rfl, fun e => K7.out (hne.out 7 (by decide) e), fun e => K8.out (hne.out 8 (by decide) e), fun e => K9.out (hne.out 9 (by decide) e), fun e => K10.out (hne.out 10 (by decide) e), fun e => K11.out (hne.out 11 (by decide) e), fun e => K12.out (hne.out 12 (by decide) e), hB⟩
          · cases ho
            have d6 := hd ⟨6, .data⟩ (by simp) rfl
            have d4 := hd ⟨4, .guard⟩ (by simp) rfl
            obtain rfl := K6.out d6
            obtain rfl := K4.out d4
            refine wpOp_step rfl (fun K hK => ?_)
            go_simp
            go_at_call 53
            refine (wcSum_any AP2 N cP2 T.ns _ (FacW.ns9 (hP9.out.below hB)) hN6 pT.out qT.out).mono ?_
            rw [hST.out]
            rintro e w3 ⟨rfl, hb3⟩
            refine hK _ _ ⟨by simpa using hz, v108, v109, v110, v111, .bool true, v113, .slice AP2 N cP2, .int .i64 S, v116, v117, v118, v119, v120, rfl, ?_⟩
            exact ⟨fun e => K0.out (hne.out 0 (by decide) e), fun e => K1.out (hne.out 1 (by decide) e), fun e => K2.out (hne.out 2 (by decide) e), fun e => K3.out (hne.out 3 (by decide) e), fun e => K4.out (hne.out 4 (by decide) e), fun e => K5.out (hne.out 5 (by decide) e), fun e => K6.out (hne.out 6 (by decide) e), fun _ => rfl, fun e => K8.out (hne.out 8 (by decide) e), fun e => K9.out (hne.out 9 (by decide) e), fun e => K10.out (hne.out 10 (by decide) e), fun e => K11.out (hne.out 11 (by decide) e), fun e => K12.out (hne.out 12 (by decide) e), hB.trans (hb3.mono hB.size)⟩
          · cases ho
            have d4 := hd ⟨4, .guard⟩ (by simp) rfl
            obtain rfl := K4.out d4
            refine wpOp_step rfl (fun K hK => ?_)
            go_simp
            refine hK _ _ ⟨by simpa using hz, v108, v109, v110, v111, .bool true, v113, v114, v115, .pointer (some ⟨w1.heap.size, 1, none⟩), v117, v118, v119, v120, rfl, ?_⟩
            exact ⟨fun e => K0.out (hne.out 0 (by decide) e), fun e => K1.out (hne.out 1 (by decide) e), fun e => K2.out (hne.out 2 (by decide) e), fun e => K3.out (hne.out 3 (by decide) e), fun e => K4.out (hne.out 4 (by decide) e), fun e => K5.out (hne.out 5 (by decide) e), fun e => K6.out (hne.out 6 (by decide) e), fun e => K7.out (hne.out 7 (by decide) e), fun _ => rfl, fun e => K9.out (hne.out 9 (by decide) e), fun e => K10.out (hne.out 10 (by decide) e), fun e => K11.out (hne.out 11 (by decide) e), fun e => K12.out (hne.out 12 (by decide) e), hB⟩
          · cases ho
            have d8 := hd ⟨8, .data⟩ (by simp) rfl
            have d4 := hd ⟨4, .guard⟩ (by simp) rfl
            obtain rfl := K8.out d8
            obtain rfl := K4.out d4
            have hxXc := hxX.cell
            refine wpOp_step rfl (fun K hK => ?_)
            go_simp
            refine hK _ _ ⟨by simpa using hz, v108, v109, v110, v111, .bool true, v113, v114, v115, .pointer (some ⟨w1.heap.size, 1, none⟩), .slice AX2 F.ns.length cX2, v118, v119, v120, rfl, ?_⟩
            exact ⟨fun e => K0.out (hne.out 0 (by decide) e), fun e => K1.out (hne.out 1 (by decide) e), fun e => K2.out (hne.out 2 (by decide) e), fun e => K3.out (hne.out 3 (by decide) e), fun e => K4.out (hne.out 4 (by decide) e), fun e => K5.out (hne.out 5 (by decide) e), fun e => K6.out (hne.out 6 (by decide) e), fun e => K7.out (hne.out 7 (by decide) e), fun e => K8.out (hne.out 8 (by decide) e), fun _ => rfl, fun e => K10.out (hne.out 10 (by decide) e), fun e => K11.out (hne.out 11 (by decide) e), fun e => K12.out (hne.out 12 (by decide) e), hB⟩
          · cases ho
            have d9 := hd ⟨9, .data⟩ (by simp) rfl
            have d4 := hd ⟨4, .guard⟩ (by simp) rfl
            obtain rfl := K9.out d9
            obtain rfl := K4.out d4
            refine wpOp_step rfl (fun K hK => ?_)
            go_simp
            go_at_call 53
            refine (wcSum_any AX2 F.ns.length cX2 F.ns _ (FacW.ns9 (hX9.out.below hB)) hFl6.out pF.out qF.out).mono ?_
            rw [hSF.out]
            rintro e w3 ⟨rfl, hb3⟩
            refine hK _ _ ⟨by simpa using hz, v108, v109, v110, v111, .bool true, v113, v114, v115, v116, .slice AX2 F.ns.length cX2, .int .i64 S, v119, v120, rfl, ?_⟩
            exact ⟨fun e => K0.out (hne.out 0 (by decide) e), fun e => K1.out (hne.out 1 (by decide) e), fun e => K2.out (hne.out 2 (by decide) e), fun e => K3.out (hne.out 3 (by decide) e), fun e => K4.out (hne.out 4 (by decide) e), fun e => K5.out (hne.out 5 (by decide) e), fun e => K6.out (hne.out 6 (by decide) e), fun e => K7.out (hne.out 7 (by decide) e), fun e => K8.out (hne.out 8 (by decide) e), fun e => K9.out (hne.out 9 (by decide) e), fun _ => rfl, fun e => K11.out (hne.out 11 (by decide) e), fun e => K12.out (hne.out 12 (by decide) e), hB.trans (hb3.mono hB.size)⟩
          · cases ho
            have d7 := hd ⟨7, .data⟩ (by simp) rfl
            have d10 := hd ⟨10, .data⟩ (by simp) rfl
            have d4 := hd ⟨4, .guard⟩ (by simp) rfl
            obtain rfl := K7.out d7
            obtain rfl := K10.out d10
            obtain rfl := K4.out d4
            refine wpOp_step rfl (fun K hK => ?_)
            go_simp
            refine hK _ _ ⟨by simpa using hz, v108, v109, v110, v111, .bool true, v113, v114, .int .i64 S, v116, v117, .int .i64 S, .bool true, v120, rfl, ?_⟩
            exact ⟨fun e => K0.out (hne.out 0 (by decide) e), fun e => K1.out (hne.out 1 (by decide) e), fun e => K2.out (hne.out 2 (by decide) e), fun e => K3.out (hne.out 3 (by decide) e), fun e => K4.out (hne.out 4 (by decide) e), fun e => K5.out (hne.out 5 (by decide) e), fun e => K6.out (hne.out 6 (by decide) e), fun e => K7.out (hne.out 7 (by decide) e), fun e => K8.out (hne.out 8 (by decide) e), fun e => K9.out (hne.out 9 (by decide) e), fun e => K10.out (hne.out 10 (by decide) e), fun _ => rfl, fun e => K12.out (hne.out 12 (by decide) e), hB⟩
          · cases ho
            have d4 := hd ⟨4, .data⟩ (by simp) rfl
            have d11 := hd ⟨11, .data⟩ (by simp) rfl
            obtain rfl := K4.out d4
            obtain rfl := K11.out d11
            refine wpOp_step rfl (fun K hK => ?_)
            go_simp
            refine hK _ _ ⟨by simpa using hz, v108, v109, v110, v111, .bool true, v113, v114, v115, v116, v117, v118, .bool true, .bool true, rfl, ?_⟩
            exact ⟨fun e => K0.out (hne.out 0 (by decide) e), fun e => K1.out (hne.out 1 (by decide) e), fun e => K2.out (hne.out 2 (by decide) e), fun e => K3.out (hne.out 3 (by decide) e), fun e => K4.out (hne.out 4 (by decide) e), fun e => K5.out (hne.out 5 (by decide) e), fun e => K6.out (hne.out 6 (by decide) e), fun e => K7.out (hne.out 7 (by decide) e), fun e => K8.out (hne.out 8 (by decide) e), fun e => K9.out (hne.out 9 (by decide) e), fun e => K10.out (hne.out 10 (by decide) e), fun e => K11.out (hne.out 11 (by decide) e), fun _ => rfl, hB⟩
        case hl =>
          rintro listed aq wx ⟨hz, v108, v109, v110, v111, v112, v113, v114, v115, v116, v117, v118, v119, v120, rfl, hII⟩ hall
          have K0 := Lib.hid hII.1
          have K1 := Lib.hid hII.2.1
          have K2 := Lib.hid hII.2.2.1
          have K3 := Lib.hid hII.2.2.2.1
          have K4 := Lib.hid hII.2.2.2.2.1
          have K5 := Lib.hid hII.2.2.2.2.2.1
          have K6 := Lib.hid hII.2.2.2.2.2.2.1
          have K7 := Lib.hid hII.2.2.2.2.2.2.2.1
          have K8 := Lib.hid hII.2.2.2.2.2.2.2.2.1
          have K9 := Lib.hid hII.2.2.2.2.2.2.2.2.2.1
          have K10 := Lib.hid hII.2.2.2.2.2.2.2.2.2.2.1
          have K11 := Lib.hid hII.2.2.2.2.2.2.2.2.2.2.2.1
          have K12 := Lib.hid hII.2.2.2.2.2.2.2.2.2.2.2.2.1
          have hB : Below wr.heap.size wr wx := hII.2.2.2.2.2.2.2.2.2.2.2.2.2
          have hxX := Has.kept (by exact hcX9.out) hB
          have hxP := Has.kept (by exact hcP9.out) hB
          clear hII
          obtain rfl := K0.out (hall 0 (by decide))
          obtain rfl := K1.out (hall 1 (by decide))
          obtain rfl := K2.out (hall 2 (by decide))
          obtain rfl := K3.out (hall 3 (by decide))
          obtain rfl := K4.out (hall 4 (by decide))
          obtain rfl := K5.out (hall 5 (by decide))
          obtain rfl := K6.out (hall 6 (by decide))
          obtain rfl := K7.out (hall 7 (by decide))
          obtain rfl := K8.out (hall 8 (by decide))
          obtain rfl := K9.out (hall 9 (by decide))
          obtain rfl := K10.out (hall 10 (by decide))
          obtain rfl := K11.out (hall 11 (by decide))
          obtain rfl := K12.out (hall 12 (by decide))
          clear hall K0 K1 K2 K3 K4 K5 K6 K7 K8 K9 K10 K11 K12
          refine wpOp_step rfl (fun K0 hK0 => ?_)
          go_simp
          refine hK0 _ _ ?_
          clear hK0
          have hB9z := Lib.hid (hB9.out.trans (hB.mono hB9.out.size))
          go_wp2_with fail
          go_ret
          exact ⟨rfl, hB9z.out⟩
set_option maxRecDepth 100000 in
theorem lifted (os : Os) (started : os.Started) (H : Type) (enc : TypeId × Value → H) :
    ReturnsInHanded {} Try.checked os 12 .any (Rows.fnSumOutSpec.pre6 enc Try.prog Try.f12 Rows.fnSumOutRow.domain false) (Rows.fnSumOutSpec.post enc Try.prog Try.f12 false true false false) := by
  refine returnsInHanded_of_change (C := Try.checked) own started (by kernel_rfl) Try.func12
    (ChangeSpec.witness6 (enc := enc) (C := Try.checked) false ⟨#[], #[.slice none 0 0], []⟩ 8 (by kernel_rfl) (by kernel_rfl) (by kernel_rfl) (by kernel_rfl)) ?_
  intro W base args ds gs before hval0 hW hcnd _
  have hval : ∀ (j : Nat) t v, Try.f12.params[j]? = some t → args[j]? = some v → Value.okWide Try.prog W .any base t v := hval0
  have hW' := hW
  obtain ⟨p, q, hA0, hV, rfl, hfz, hnd⟩ := hW
  have hA : DataW.TrodAll enc Try.prog W 0 (fun _ => true) true Try.f12.params.toList args.toList ds p := hA0
  rw [Try.params12] at hA hval
  obtain ⟨v0, vs0, d0, ds0, p0, q0, hargs, rfl, rfl, h0, r0⟩ := trodAll_cons hA
  obtain ⟨rfl, rfl, rfl⟩ := trodAll_nil r0
  obtain rfl : args = #[v0] := by cases args; simp_all
  obtain ⟨rfl, rfl⟩ := trodVars_none hV
  have lt0 : ∀ x ∈ p0, x.block < W.heap.size := by
    obtain ⟨m, hm⟩ := h0
    exact DataW.trod_lt m _ _ _ hm
  clear hA0 hval0
  refine (walk enc W base v0 d0 p0 (hval 0 47 v0 rfl rfl) h0 lt0).mono fun e W' ⟨he, bel⟩ => ?_
  subst he
  exact ⟨_, rfl, _, _, _, [], _, [], hW', trodAll_mk1 (shut_bool Try.underlying4 _), (trodAll_cons_mk (Below.trod laidOut (by kernel_rfl) (of_decide_eq_true (by kernel_rfl)) h0 bel lt0) trodAll_mk0), rfl, bel.frame _, fun h => by cases h⟩
theorem proved : Rows.FnSumOutSaid :=
  OpenClaim.holds_of_wide 12 Try.f12 rfl rfl rfl rfl rfl rfl rfl ⟨rfl, rfl, rfl, rfl, rfl⟩ rfl rfl rfl rfl rfl (by kernel_rfl) Try.func12 (by kernel_rfl)
    (of_decide_eq_true (by kernel_rfl)) (by unfold Func.isWrapper; first | (rw [if_pos (by decide +kernel)]; kernel_rfl) | (rw [if_neg (by decide +kernel)]; exact ⟨rfl, rfl⟩))
    (fun os started H enc _ => lifted os started H enc)
end Go.Proofs.Ytaipdkfbkcknkaa.fnSumOut
