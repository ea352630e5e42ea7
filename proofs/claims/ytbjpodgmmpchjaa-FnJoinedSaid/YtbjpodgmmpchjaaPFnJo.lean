/- For every list of bytes: of the drawn two programs the program's Joined returns what the model's returns; nothing where it is refused, and else a program whose weights are, for each state, the sum of the first one's weights times the second one's from their states on, and whose draws are both programs' draws. No condition. -/
import Derived.Test.YtbjpodgmmpchjaaRows
import Derived.Test.YtbjpodgmmpchjaaVp
import Derived.Test.YtbjpodgmmpchjaaDj
import Derived.Test.YtbjpodgmmpchjaaWcp
import Derived.Test.YtbjpodgmmpchjaaKt
import Derived.Test.YtbjpodgmmpchjaaOpB
import Derived.Test.YtbjpodgmmpchjaaAb
import Derived.ProofKit
import Derived.OpenShut
import Derived.ShutString
import Derived.ChangeOld
import Derived.Below
namespace Go.Proofs.Ytbjpodgmmpchjaa.fnJoined
open Go.ChangeShapes Go.WideShapes Go.ChangeAt Go.RowKit 
set_option linter.unusedVariables false
set_option maxRecDepth 100000

theorem own : ownKnob Try.prog.godebug = none := by kernel_rfl
theorem laidOut : laidOutB Try.prog = true := by kernel_rfl

theorem joined_some {ps qs os : List St} (h : joined ps qs = some os) : ∃ a b, unrolled ps = some a ∧ unrolled qs = some b ∧ past a = false ∧ os = a ++ b ∧ (unrolled (a ++ b)).isSome = true := by
  unfold joined at h
  obtain ⟨a, ha, h⟩ := Option.bind_eq_some_iff.1 h
  obtain ⟨b, hb, h⟩ := Option.bind_eq_some_iff.1 h
  by_cases hp : past a = true
  · rw [if_pos hp] at h; cases h
  · rw [if_neg hp] at h
    by_cases hs : (unrolled (a ++ b)).isSome = true
    · rw [if_pos hs] at h
      injection h with h
      exact ⟨a, b, ha, hb, by simpa using hp, h.symm, hs⟩
    · rw [if_neg hs] at h; cases h
theorem draws_bd {ps a : List St} (h : unrolled ps = some a) : 0 ≤ countDraws ps ∧ countDraws ps ≤ 12 := by
  obtain ⟨_, h12, _, _, _⟩ := unrolled_parts h
  unfold countDraws
  rw [h]
  have := List.length_filter_le St.draws a
  show 0 ≤ ((a.filter St.draws).length : Int) ∧ ((a.filter St.draws).length : Int) ≤ 12
  omega
theorem pushed_len (os : List St) (ds : List Int) : (pushed os ds).length = 81 := by simp [pushed]
/-- Sums, the first j weights added. -/
def addW (S ws : List Int) (d : Int) (j : Nat) : List Int := (List.range 81).map fun (q : Nat) => S.getD q 0 + if q < j then d * ws.getD q 0 else 0
theorem addW_len (S ws : List Int) (d : Int) (j : Nat) : (addW S ws d j).length = 81 := by simp [addW]
theorem addW_at (S ws : List Int) (d : Int) (j : Nat) {q : Nat} (h : q < 81) : (addW S ws d j)[q]? = some (S.getD q 0 + if q < j then d * ws.getD q 0 else 0) := by
  unfold addW
  rw [List.getElem?_map, List.getElem?_range h]; rfl
theorem addW_zero {S ws : List Int} {d : Int} (h : S.length = 81) : addW S ws d 0 = S := by
  apply List.ext_getElem?
  intro q
  by_cases hq : q < 81
  · rw [addW_at S ws d 0 hq, if_neg (by omega), Int.add_zero, List.getD_eq_getElem?_getD, List.getElem?_eq_getElem (by omega)]; rfl
  · rw [List.getElem?_eq_none (by rw [addW_len]; omega), List.getElem?_eq_none (by omega)]
theorem addW_step (S ws : List Int) (d : Int) {j : Nat} (h : j < 81) : (addW S ws d j).set j (S.getD j 0 + d * ws.getD j 0) = addW S ws d (j + 1) := by
  apply List.ext_getElem?
  intro q
  by_cases hq : q < 81
  · rw [addW_at S ws d (j + 1) hq]
    by_cases hqj : q = j
    · subst hqj
      rw [List.getElem?_set_self (by rw [addW_len]; exact hq), if_pos (by omega)]
    · rw [List.getElem?_set_ne (by omega), addW_at S ws d j hq]
      by_cases h1 : q < j
      · rw [if_pos h1, if_pos (by omega)]
      · rw [if_neg h1, if_neg (by omega)]
  · rw [List.getElem?_eq_none (by rw [List.length_set, addW_len]; omega), List.getElem?_eq_none (by rw [addW_len]; omega)]
theorem pushed_at (os : List St) (ds : List Int) {q : Nat} (h : q < 81) : (pushed os ds)[q]? = some (rsum (valAt (ind q) os 0) ds 0) := by
  unfold pushed
  rw [List.getElem?_map, List.getElem?_range h]; rfl
theorem pushed_getD (os : List St) (ds : List Int) {q : Nat} (h : q < 81) : (pushed os ds).getD q 0 = rsum (valAt (ind q) os 0) ds 0 := by
  rw [List.getD_eq_getElem?_getD, pushed_at os ds h]; rfl
theorem wts_getD (os : List St) (st : Int) {q : Nat} (h : q < 81) : (wts os st).getD q 0 = valAt (ind q) os 0 st := by
  unfold wts
  rw [List.getD_eq_getElem?_getD, List.getElem?_map, List.getElem?_range h]; rfl
theorem addW_all {os : List St} {ds : List Int} {k : Nat} {d : Int} (h : ds[k]? = some d) : addW (pushed os (ds.take k)) (wts os k) d 81 = pushed os (ds.take (k + 1)) := by
  apply List.ext_getElem?
  intro q
  by_cases hq : q < 81
  · rw [addW_at _ _ d 81 hq, pushed_at os _ hq, if_pos hq, pushed_getD os _ hq, wts_getD os k hq, rsum_take _ h]
  · rw [List.getElem?_eq_none (by rw [addW_len]; omega), List.getElem?_eq_none (by rw [pushed_len]; omega)]
theorem pushed_nil (os : List St) : pushed os [] = zs 81 := by
  unfold pushed zs
  rw [List.eq_replicate_iff]
  exact ⟨by simp, fun b hb => by
    obtain ⟨q, _, rfl⟩ := List.mem_map.1 hb
    rfl⟩
theorem pushed_same {os : List St} {ds : List Int} {k : Nat} (h : ds[k]? = some 0) : pushed os (ds.take (k + 1)) = pushed os (ds.take k) := by
  unfold pushed
  refine List.map_congr_left fun q _ => ?_
  rw [rsum_take _ h]
  omega
theorem entry_nn {os : List St} (hok : ∀ s ∈ os, s.ok = true) (q : Int) {st : Int} (hs : 0 ≤ st ∧ st ≤ 80) : 0 ≤ valAt (ind q) os 0 st :=
  (val_bd (ind q) 1 (fun y _ _ => by unfold ind; split <;> omega) (by decide) (os.drop 0) 0 st (fun s hx => hok s (List.mem_of_mem_drop hx)) hs).1
/-- Sums as they grow: each is at most the whole. -/
theorem grow_bd {b : List St} (hok : ∀ s ∈ b, s.ok = true) {ws : List Int} (hw : ∀ x ∈ ws, 0 ≤ x) (h81 : ws.length = 81) (q : Int) (k : Nat) : 0 ≤ rsum (valAt (ind q) b 0) (ws.take k) 0 ∧ rsum (valAt (ind q) b 0) (ws.take k) 0 ≤ rsum (valAt (ind q) b 0) ws 0 := by
  have e : ∀ es : List Int, es.length ≤ 81 → rsum (valAt (ind q) b 0) es 0 = rsum (fun st => max 0 (valAt (ind q) b 0 st)) es 0 := fun es he => rsum_congr es 0 fun i _ h2 => by
    have h := entry_nn hok q (st := i) (by omega)
    omega
  have h1 := rsum_nonneg (v := fun st => max 0 (valAt (ind q) b 0 st)) (fun st => by omega) (r := ws.take k) 0 (fun x hx => hw x (List.mem_of_mem_take hx))
  have h2 := rsum_nonneg (v := fun st => max 0 (valAt (ind q) b 0 st)) (fun st => by omega) (r := ws.drop k) (0 + (ws.take k).length) (fun x hx => hw x (List.mem_of_mem_drop hx))
  have h3 := rsum_append (fun st => max 0 (valAt (ind q) b 0 st)) (ws.take k) (ws.drop k) 0
  rw [List.take_append_drop] at h3
  rw [e (ws.take k) (by rw [List.length_take]; omega), e ws (by omega)]
  omega
theorem whole_bd {os : List St} (hok : ∀ s ∈ os, s.ok = true) (hl : os.length ≤ 12) (q : Int) : valAt (ind q) os 0 0 ≤ 150094635296999121 := by
  have h := val_bd (ind q) 1 (fun y _ _ => by unfold ind; split <;> omega) (by decide) (os.drop 0) 0 0 (fun s hx => hok s (List.mem_of_mem_drop hx)) (by decide)
  have h2 := V2_top hl 0
  unfold V2 at h2
  rw [Nat.sub_zero] at h2
  rw [Int.one_mul, List.drop_zero] at h
  exact Int.le_trans h.2 h2

set_option maxHeartbeats 2000000 in
theorem walk {H : Type} (enc : TypeId × Value → H) (W : World) (base : Nat) (v0 : Value) (d0 : DataW H) (p0 : List MemPlace) (hv0 : Value.okWide Try.prog W .any base 40 v0)
    (h0 : DataW.Trod enc Try.prog W 0 (fun _ => true) true 40 v0 d0 p0) (_ : ∀ x ∈ p0, x.block < W.heap.size) :
    Calls Try.prog 10 #[v0] W fun e w' => e = .returned (.bool true) ∧ Below W.heap.size W w' := by
  obtain ⟨A, n, c, rfl, hn, hc, hb⟩ := open_bytes hv0 h0
  clear hv0 h0
  have hcM := Lib.hid hc
  have hnn : n ≤ 9223372036854775807 := by unfold maxLen at hc; omega
  clear hc
  by_cases h1 : 1048576 < n
  · go_enter Try.func10, Try.ntmps10
    go_wp2_with fail
    go_ret
    exact ⟨rfl, Below.refl _ _⟩
  go_enter Try.func10, Try.ntmps10
  go_wp2_with fail
  refine (DrawJoined_any A n c _ hb hn hcM.out).mono ?_
  rintro e w1 ⟨A1, A2, c1, c2, ps, qs, rfl, hO, hl11, hlc, hcm, hQ, hl12, hlc2, hcm2, hB1⟩
  have hP := Lib.hid hO.lst
  have hQ1 := Lib.hid hQ.lst
  have hB1' := Lib.hid hB1
  have hbg : ps.length ≤ 1048576 := by omega
  have hbg2 : qs.length ≤ 1048576 := by omega
  have cI := Lib.hid (fun wx (hx : Lst wx wx.heap.size A1 ps.length ps) (hy : Lst wx wx.heap.size A2 qs.length qs) => Joined_any A1 A2 ps.length c1 qs.length c2 ps qs wx hx hy hlc hcm hlc2 hcm2)
  have cS := Lib.hid (fun wx (hx : Lst wx wx.heap.size A1 ps.length ps) (hy : Lst wx wx.heap.size A2 qs.length qs) => specJoined_any A1 A2 ps.length c1 qs.length c2 ps qs wx hx hy hlc hcm hlc2 hcm2 hbg hbg2)
  have cV := Lib.hid (fun wx (hx : Lst wx wx.heap.size A1 ps.length ps) => WeightsOf_any A1 ps.length c1 ps wx hx hlc hcm)
  have cW := Lib.hid (fun st wx (hx : Lst wx wx.heap.size A2 qs.length qs) => WeightsFrom_any A2 qs.length c2 qs st wx hx hlc2 hcm2)
  have cD := Lib.hid (fun wx (hx : Lst wx wx.heap.size A1 ps.length ps) => CountDraws_any A1 ps.length c1 ps wx hx hlc hcm)
  have cE := Lib.hid (fun wx (hx : Lst wx wx.heap.size A2 qs.length qs) => CountDraws_any A2 qs.length c2 qs wx hx hlc2 hcm2)
  unfold Unrd at cI cS
  unfold Wtsd at cV cW
  clear hO hQ hB1 hb hlc hcm hlc2 hcm2
  cases hj : joined ps qs with
  | none =>
    rw [hj] at cI cS
    clear hj
    go_wp2_with fail
    refine (cI.out _ hP.out hQ1.out).mono ?_
    rintro e w2 ⟨v2, rfl, hI2, hb2⟩
    obtain ⟨A3, c3, hv, _, _⟩ := Own.form hI2
    subst hv
    have hB2 := Lib.hid (hB1'.out.trans (hb2.mono hB1'.out.size))
    have hP2 := Lib.hid ((hP.out.below hb2).more hb2.size)
    have hQ2 := Lib.hid ((hQ1.out.below hb2).more hb2.size)
    have hI2' := Lib.hid (Own.lst hI2)
    clear hI2 hb2
    go_wp2_with fail
    refine (cS.out _ hP2.out hQ2.out).mono ?_
    rintro e w3 ⟨v3, rfl, hI3, hb3⟩
    obtain ⟨A4, c4, hv, _, _⟩ := Own.form hI3
    subst hv
    have hB3 := Lib.hid (hB2.out.trans (hb3.mono hB2.out.size))
    have hx3 := Lib.hid ((hI2'.out.below hb3).more hb3.size)
    have hy3 := Lib.hid (Own.lst hI3)
    clear hI3 hb3
    go_wp2_with fail
    refine (wcProgram_same A3 A4 0 c3 c4 [] _ hx3.out hy3.out (by decide)).mono ?_
    rintro e w4 ⟨rfl, hb4⟩
    have hB4 := Lib.hid (hB3.out.trans (hb4.mono hB3.out.size))
    clear hb4
    go_wp2_with fail
    go_ret
    exact ⟨rfl, hB4.out⟩
  | some os =>
    obtain ⟨a, b, hua, hub, hpa, rfl, hsm⟩ := joined_some hj
    obtain ⟨huab, hwj, hcj⟩ := joined_weights hua hub hpa hsm
    obtain ⟨_, _, _, _, hOKb⟩ := unrolled_parts hub
    obtain ⟨_, hab12, _, _, hOKab⟩ := unrolled_parts huab
    have hokb : ∀ s ∈ b, s.ok = true := fun s hs => List.all_eq_true.1 hOKb s hs
    have hokab : ∀ s ∈ a ++ b, s.ok = true := fun s hs => List.all_eq_true.1 hOKab s hs
    have hwp : (weightsFrom ps 0).length = 81 := by
      unfold weightsFrom
      rw [hua]
      show (if inB 0 0 80 = true then wts a 0 else []).length = 81
      rw [if_pos (by decide), wts_length]
    have hWt := Lib.hid (fun (k : Nat) (hk : k < 81) => show weightsFrom qs k = wts b k from by
      unfold weightsFrom
      rw [hub]
      exact if_pos (inB_yes (by omega)))
    have hEn := Lib.hid (fun (q : Int) (k : Nat) (hk : k < 81) => entry_nn hokb q (st := k) (by omega))
    have hGr := Lib.hid (fun (q : Nat) (hq : q < 81) (k : Nat) => show 0 ≤ rsum (valAt (ind q) b 0) ((weightsFrom ps 0).take k) 0 ∧ rsum (valAt (ind q) b 0) ((weightsFrom ps 0).take k) 0 ≤ 150094635296999121 from by
      have h1 := grow_bd hokb (weights_nonneg ps) hwp q k
      have h2 : rsum (valAt (ind q) b 0) (weightsFrom ps 0) 0 = valAt (ind q) (a ++ b) 0 0 := by
        have e1 := pushed_getD b (weightsFrom ps 0) hq
        rw [← hwj] at e1
        have e2 : weightsFrom (a ++ b) 0 = wts (a ++ b) 0 := by
          unfold weightsFrom
          rw [huab]
          exact if_pos (by decide)
        rw [e2, wts_getD (a ++ b) 0 hq] at e1
        exact e1.symm
      have h3 := whole_bd hokab hab12 q
      omega)
    have d1 := draws_bd hua
    have d2 := draws_bd hub
    have hWb := Lib.hid (weights_nonneg ps)
    have cY := Lib.hid (fun A5 c5 wx (hx : Lst wx wx.heap.size A5 (a ++ b).length (a ++ b)) h1 h2 => WeightsOf_any A5 (a ++ b).length c5 (a ++ b) wx hx h1 h2)
    have cZ := Lib.hid (fun A5 c5 wx (hx : Lst wx wx.heap.size A5 (a ++ b).length (a ++ b)) h1 h2 => CountDraws_any A5 (a ++ b).length c5 (a ++ b) wx hx h1 h2)
    unfold Wtsd at cY
    rw [hwj] at cY
    rw [hcj] at cZ
    rw [hj] at cI cS
    have hpl := pushed_len b (weightsFrom ps 0)
    have hT := Lib.hid (show (weightsFrom ps 0).take 81 = weightsFrom ps 0 from List.take_of_length_le (by omega))
    generalize weightsFrom ps 0 = ws at *
    generalize countDraws ps = dp at *
    generalize countDraws qs = dq at *
    have hOs : (some (a ++ b) : Option (List St)).getD [] = a ++ b := rfl
    rw [hOs] at cI cS
    clear hj hua hub hpa hsm huab hwj hcj hOKb hOKab hokb hokab hOs
    generalize a ++ b = xs at *
    go_wp2_with fail
    refine (cI.out _ hP.out hQ1.out).mono ?_
    rintro e w2 ⟨v2, rfl, hI2, hb2⟩
    obtain ⟨A3, c3, hv, hlc3, hcm3⟩ := Own.form hI2
    subst hv
    have hB2 := Lib.hid (hB1'.out.trans (hb2.mono hB1'.out.size))
    have hP2 := Lib.hid ((hP.out.below hb2).more hb2.size)
    have hQ2 := Lib.hid ((hQ1.out.below hb2).more hb2.size)
    have hI2' := Lib.hid (Own.lst hI2)
    clear hI2 hb2
    go_wp2_with fail
    refine (cS.out _ hP2.out hQ2.out).mono ?_
    rintro e w3 ⟨v3, rfl, hI3, hb3⟩
    obtain ⟨A4, c4, hv, _, _⟩ := Own.form hI3
    subst hv
    have hB3 := Lib.hid (hB2.out.trans (hb3.mono hB2.out.size))
    have hP3 := Lib.hid ((hP2.out.below hb3).more hb3.size)
    have hQ3 := Lib.hid ((hQ2.out.below hb3).more hb3.size)
    have hx3 := Lib.hid ((hI2'.out.below hb3).more hb3.size)
    have hy3 := Lib.hid (Own.lst hI3)
    clear hI3 hb3
    go_wp2_with fail
    refine (wcProgram_same A3 A4 xs.length c3 c4 xs _ hx3.out hy3.out (by unfold maxLen; omega)).mono ?_
    rintro e w4 ⟨rfl, hb4⟩
    have hB4 := Lib.hid (hB3.out.trans (hb4.mono hB3.out.size))
    have hP4 := Lib.hid ((hP3.out.below hb4).more hb4.size)
    have hQ4 := Lib.hid ((hQ3.out.below hb4).more hb4.size)
    have hx4 := Lib.hid ((hx3.out.below hb4).more hb4.size)
    have hz4 := hB4.out.size
    clear hb4
    obtain ⟨i0, hi0, hz0, hz1', hz2'⟩ := info_parts info_int
    have hmk : ∀ wx : World, (Instr.makeSlice 24 (.int .i64 81) (.int .i64 81)).run Try.prog wx = .ok (.slice (some ⟨wx.heap.size, 0, none⟩) 81 81) (wx.alloc (.cells (madeCells (Value.int .i64 0).cells (81 * 1)) 3)) := by
      intro wx
      have hr := run_make (P := Try.prog) wx 24 3 i0 _ Try.underlying24 hi0 hz0 .i64 .i64 81 81 (by omega) (by omega) (by rw [hz2']; omega) (by omega)
      rw [hz1'] at hr
      exact hr
    have hBa : Below w4.heap.size w4 (w4.alloc (.cells (madeCells #[.int .i64 0] 81) 3)) := (Below.refl w4.heap.size w4).alloc (Nat.le_refl _) _
    have hO0 := Lib.hid (show (w4.alloc (.cells (madeCells #[.int .i64 0] 81) 3)).ownsRow w4.heap.size 3 1 (.slice (some ⟨w4.heap.size, 0, none⟩) 81 81) 81 (ints (pushed b (ws.take 0))) from by
      rw [List.take_zero, pushed_nil]
      have := IOwn.of_has (ds := zs 81) (Has.new w4 3 _) (made_ints 81) (zs_len 81) (Nat.le_refl _) (by decide)
      unfold IOwn at this
      rw [zs_len] at this
      exact this)
    have hPa := Lib.hid ((hP4.out.below hBa).more hBa.size)
    have hBa' := Lib.hid hBa
    clear hBa
    go_wp2_with fail
    clear hmk
    refine (cV.out _ hPa.out).mono ?_
    rintro e w5 ⟨v5, rfl, hI5, hb5⟩
    obtain ⟨A5, c5, hv, _, _⟩ := hI5.form
    rw [hwp] at hv
    subst hv
    have hO5 := Lib.hid (owns_but hO0.out (KeptBut.of_below hb5 (fun _ => False)) (fun _ _ h => h))
    have hB5 := Lib.hid (hBa'.out.trans (hb5.mono hBa'.out.size))
    have hne5 := Lib.hid (show ∀ g, A5.map (·.block) = some g → ¬ g = w4.heap.size from fun g hg e => by
      have := (World.ownsRow.lt hI5 g (by rw [own_map]; exact hg)).1
      simp at this
      omega)
    have hD5 := Lib.hid (show Ils w5 w5.heap.size A5 81 ws from hI5.lst)
    clear hI5 hb5
    go_wp2_with fail
    go_loopg [52] 81 (fun gn o wr => ∃ k : Nat, k ≤ 81 ∧ gn = 81 - k ∧ o = .int .i64 k ∧ wr.ownsRow w4.heap.size 3 1 (.slice (some ⟨w4.heap.size, 0, none⟩) 81 81) 81 (ints (pushed b (ws.take k))) ∧ Below w4.heap.size w4 wr ∧ Ils wr wr.heap.size A5 81 ws)
    case atStart => exact ⟨0, Nat.zero_le _, rfl, rfl, hO5.out, hB5.out, hD5.out⟩
    case round =>
      obtain ⟨k, hk, hgn, rfl, hown, hB, hDr⟩ := hrel
      have hgk : gk = 81 - k := hgn
      clear hgn
      obtain ⟨wq, rfl⟩ : ∃ x, x = wr := ⟨_, rfl⟩
      obtain ⟨gq, rfl⟩ : ∃ x, x = gk := ⟨_, rfl⟩
      have hOw := Lib.hid hown
      have hBq := Lib.hid hB
      have hzq := hB.size
      have hBW := Lib.hid (hB4.out.trans (hB.mono hz4))
      have hPq := Lib.hid ((hP4.out.below hB).more hzq)
      have hQq := Lib.hid ((hQ4.out.below hB).more hzq)
      have hxq := Lib.hid ((hx4.out.below hB).more hzq)
      have hDq := Lib.hid hDr
      clear hown hB hDr
      by_cases hlt : k < 81
      · obtain ⟨g, off, d, rfl, hg, hd, c0⟩ := hDq.out.at_ hlt
        have hd0' := hWb.out d (List.mem_of_getElem? hd)
        have hk0 : (0 : Int) ≤ (k : Int) := by omega
        have hk1 : (k : Int) < 81 := by omega
        by_cases hd0 : 0 < d
        · have hNx := Lib.hid (addW_all (os := b) hd)
          have hGk := Lib.hid (fun (q : Nat) (hq : q < 81) => show 0 ≤ rsum (valAt (ind q) b 0) (ws.take k) 0 ∧ rsum (valAt (ind q) b 0) (ws.take k) 0 + d * valAt (ind q) b 0 k ≤ 150094635296999121 from by
            have h1 := (hGr.out q hq k).1
            have h2 := (hGr.out q hq (k + 1)).2
            rw [rsum_take _ hd] at h2
            exact ⟨h1, h2⟩)
          have cWk := Lib.hid (cW.out k _ hQq.out)
          rw [hWt.out k hlt] at cWk
          clear hd
          go_wp2_with fail
          refine cWk.out.mono ?_
          rintro e w6 ⟨v6, rfl, hI6, hb6⟩
          obtain ⟨A6, c6, hv, _, _⟩ := hI6.form
          rw [wts_length] at hv
          subst hv
          have hGq := (owns_has hOw.out rfl)
          have hGl : w4.heap.size < wq.heap.size := by
            obtain ⟨cur, hh⟩ := hGq
            exact hh.lt
          have hne6 := Lib.hid (show ∀ g, A6.map (·.block) = some g → ¬ g = w4.heap.size from fun g hg e => by
            have := (World.ownsRow.lt hI6 g (by rw [own_map]; exact hg)).1
            omega)
          have hL6 := Lib.hid (show Ils w6 w6.heap.size A6 81 (wts b k) from hI6.lst)
          have hD6 := Lib.hid ((hDq.out.below hb6).more hb6.size)
          have hO6 := Lib.hid (show w6.ownsRow w4.heap.size 3 1 (.slice (some ⟨w4.heap.size, 0, none⟩) 81 81) 81 (ints (addW (pushed b (ws.take k)) (wts b k) d 0)) from by
            rw [addW_zero (pushed_len _ _)]
            exact owns_but hOw.out (KeptBut.of_below hb6 (fun _ => False)) (fun _ _ h => h))
          have hB6 := Lib.hid (hBq.out.trans (hb6.mono hzq))
          have hSk := Lib.hid (fun (q : Nat) (hq : q < 81) => pushed_getD b (ws.take k) hq)
          have hWk := Lib.hid (fun (q : Nat) (hq : q < 81) => wts_getD b (k : Int) hq)
          have hEk := Lib.hid (fun (q : Nat) => hEn.out q k hlt)
          clear hI6 hb6 hGq cWk c0
          go_wp2_with fail
          go_loopg [63] 81 (fun gn o wr => ∃ j : Nat, j ≤ 81 ∧ gn = 81 - j ∧ o = .int .i64 j ∧ wr.ownsRow w4.heap.size 3 1 (.slice (some ⟨w4.heap.size, 0, none⟩) 81 81) 81 (ints (addW (pushed b (ws.take k)) (wts b k) d j)) ∧ Below w4.heap.size w4 wr ∧ Ils wr wr.heap.size A6 81 (wts b k) ∧ Ils wr wr.heap.size (some ⟨g, off, none⟩) 81 ws)
          case atStart => exact ⟨0, Nat.zero_le _, rfl, rfl, hO6.out, hB6.out, hL6.out, hD6.out⟩
          case round =>
            obtain ⟨j, hj, hgn, rfl, hown, hB, hL, hDx⟩ := hrel
            have hgj : gk = 81 - j := hgn
            have hOr := Lib.hid hown
            have hBr := Lib.hid hB
            have hLr := Lib.hid hL
            have hDr := Lib.hid hDx
            clear hgn hDx
            by_cases hltj : j < 81
            · obtain ⟨g6, off6, x, rfl, hg6, hx, c6x⟩ := hL.at_ hltj
              have hxe : x = valAt (ind j) b 0 k := by
                have h1 := hWk.out j hltj
                rw [List.getD_eq_getElem?_getD, hx] at h1
                exact h1
              have hxb := hEk.out j
              rw [← hxe] at hxb
              have hsb := hGk.out j hltj
              rw [← hxe] at hsb
              have hSt := Lib.hid (addW_step (pushed b (ws.take k)) (wts b k) d hltj)
              rw [hSk.out j hltj, hWk.out j hltj, ← hxe] at hSt
              obtain ⟨bb, cur, hbe, hwb', hH, _, _, _, hcl⟩ := owns_open hown (by decide)
              have hbe' : w4.heap.size = bb := by injection hbe with e; injection e
              subst hbe'
              have hc1 := hcl j (by omega)
              rw [ints_get (addW_at _ _ d j hltj), if_neg (Nat.lt_irrefl _), Int.add_zero, hSk.out j hltj] at hc1
              have hfz := hH.frozen j
              generalize rsum (valAt (ind j) b 0) (ws.take k) 0 = sk at *
              have hdx : 0 ≤ d * x := Int.mul_nonneg hd0' hxb
              have hw0 : IntKind.i64.wrap (d * x) = d * x := by rw [IntKind.wrap_i64]; omega
              have hw1 : IntKind.i64.wrap (sk + d * x) = sk + d * x := by rw [IntKind.wrap_i64]; omega
              have hO7 := Lib.hid (owns_set (x := sk + d * x) hOr.out hltj)
              have hB7 := Lib.hid (hBr.out.setCell (p := ⟨w4.heap.size, j, none⟩) (Nat.le_refl _) (.int .i64 (sk + d * x)))
              have hK7 := ((KeptBut.refl wr (fun i => i = w4.heap.size)).put (p := ⟨w4.heap.size, j, none⟩) (fun _ => rfl) (.int .i64 (sk + d * x)))
              have hL7 := Lib.hid (ils_but hLr.out hK7 (fun g hg e => hne6.out g hg e))
              have hD7 := Lib.hid (ils_but hDr.out hK7 (fun g hg e => hne5.out g hg e))
              have hj0 : (0 : Int) ≤ (j : Int) := by omega
              have hj1 : (j : Int) < 81 := by omega
              clear hown hB hL hbe hH hcl hx hxe hwb' hK7
              go_wp2_with fail
              go_roundg (81 - (j + 1))
              case measure => omega
              case rel => exact ⟨j + 1, by omega, rfl, by go_num, by rw [← hSt.out]; exact hO7.out, hB7.out, hL7.out, hD7.out⟩
            · obtain rfl : j = 81 := by omega
              have hOf := Lib.hid (show wr.ownsRow w4.heap.size 3 1 (.slice (some ⟨w4.heap.size, 0, none⟩) 81 81) 81 (ints (pushed b (ws.take (k + 1)))) from by rw [← hNx.out]; exact hown)
              clear hown hB hL
              go_wp2_with fail
              go_roundg (81 - (k + 1))
              case measure => omega
              case rel => exact ⟨k + 1, by omega, rfl, by go_num, hOf.out, hBr.out, hDr.out⟩
        · obtain rfl : d = 0 := by omega
          have hNx := Lib.hid (pushed_same (os := b) hd)
          clear hd
          go_wp2_with fail
          go_roundg (81 - (k + 1))
          case measure => omega
          case rel => exact ⟨k + 1, by omega, rfl, by go_num, by rw [hNx.out]; exact hOw.out, hBq.out, hDq.out⟩
      · obtain rfl : k = 81 := by omega
        have hOz := Lib.hid (show wq.ownsRow w4.heap.size 3 1 (.slice (some ⟨w4.heap.size, 0, none⟩) 81 81) 81 (ints (pushed b ws)) from by
          have := hOw.out
          rwa [hT.out] at this)
        clear hOw
        go_wp2_with fail
        refine (cY.out A3 c3 _ hxq.out hlc3 hcm3).mono ?_
        rintro e w8 ⟨v8, rfl, hI8, hb8⟩
        obtain ⟨A8, c8, hv, _, _⟩ := hI8.form
        rw [hpl] at hv
        subst hv
        have hB8 := Lib.hid (hBW.out.trans (hb8.mono hBW.out.size))
        have hP8 := Lib.hid ((hPq.out.below hb8).more hb8.size)
        have hQ8 := Lib.hid ((hQq.out.below hb8).more hb8.size)
        have hx8 := Lib.hid ((hxq.out.below hb8).more hb8.size)
        have hS8 := Lib.hid (((ownI_lst hOz.out).below hb8).more hb8.size)
        have hY8 := Lib.hid (show Ils w8 w8.heap.size A8 81 (pushed b ws) from hI8.lst)
        clear hI8 hb8 hOz
        go_wp2_with fail
        refine (wcInts_any _ A8 81 81 81 c8 (pushed b ws) (pushed b ws) _ hS8.out hY8.out (by decide) (by decide)).mono ?_
        rw [decide_eq_true (rfl : pushed b ws = pushed b ws)]
        rintro e w9 ⟨rfl, hq⟩
        have hb9 : Below w8.heap.size w8 w9 := by obtain ⟨q, rfl⟩ := hq; exact below_drewN (Below.refl _ _) q
        have hB9 := Lib.hid (hB8.out.trans (hb9.mono hB8.out.size))
        have hP9 := Lib.hid ((hP8.out.below hb9).more hb9.size)
        have hQ9 := Lib.hid ((hQ8.out.below hb9).more hb9.size)
        have hx9 := Lib.hid ((hx8.out.below hb9).more hb9.size)
        clear hq hb9
        go_wp2_with fail
        refine (cZ.out A3 c3 _ hx9.out hlc3 hcm3).mono ?_
        rintro e w10 ⟨rfl, hb10⟩
        have hB10 := Lib.hid (hB9.out.trans (hb10.mono hB9.out.size))
        have hP10 := Lib.hid ((hP9.out.below hb10).more hb10.size)
        have hQ10 := Lib.hid ((hQ9.out.below hb10).more hb10.size)
        clear hb10
        go_wp2_with fail
        refine (cD.out _ hP10.out).mono ?_
        rintro e w11 ⟨rfl, hb11⟩
        have hB11 := Lib.hid (hB10.out.trans (hb11.mono hB10.out.size))
        have hQ11 := Lib.hid ((hQ10.out.below hb11).more hb11.size)
        clear hb11
        go_wp2_with fail
        refine (cE.out _ hQ11.out).mono ?_
        rintro e w12 ⟨rfl, hb12⟩
        have hB12 := Lib.hid (hB11.out.trans (hb12.mono hB11.out.size))
        have n5 : (dp + dq == dp + dq) = true := by simp
        clear hb12
        go_wp2_with fail
        go_ret
        exact ⟨rfl, hB12.out⟩

set_option maxRecDepth 100000 in
theorem lifted (os : Os) (started : os.Started) (H : Type) (enc : TypeId × Value → H) :
    ReturnsInHanded {} Try.checked os 10 .any (Rows.fnJoinedSpec.pre6 enc Try.prog Try.f10 Rows.fnJoinedRow.domain false) (Rows.fnJoinedSpec.post enc Try.prog Try.f10 false true false false) := by
  refine returnsInHanded_of_change (C := Try.checked) own started (by kernel_rfl) Try.func10
    (ChangeSpec.witness6 (enc := enc) (C := Try.checked) false ⟨#[], #[.slice none 0 0], []⟩ 8 (by kernel_rfl) (by kernel_rfl) (by kernel_rfl) (by kernel_rfl)) ?_
  intro W base args ds gs before hval0 hW hcnd _
  have hval : ∀ (j : Nat) t v, Try.f10.params[j]? = some t → args[j]? = some v → Value.okWide Try.prog W .any base t v := hval0
  have hW' := hW
  obtain ⟨p, q, hA0, hV, rfl, hfz, hnd⟩ := hW
  have hA : DataW.TrodAll enc Try.prog W 0 (fun _ => true) true Try.f10.params.toList args.toList ds p := hA0
  rw [Try.params10] at hA hval
  obtain ⟨v0, vs0, d0, ds0, p0, q0, hargs, rfl, rfl, h0, r0⟩ := trodAll_cons hA
  obtain ⟨rfl, rfl, rfl⟩ := trodAll_nil r0
  obtain rfl : args = #[v0] := by cases args; simp_all
  obtain ⟨rfl, rfl⟩ := trodVars_none hV
  have lt0 : ∀ x ∈ p0, x.block < W.heap.size := by
    obtain ⟨m, hm⟩ := h0
    exact DataW.trod_lt m _ _ _ hm
  clear hA0 hval0
  refine (walk enc W base v0 d0 p0 (hval 0 40 v0 rfl rfl) h0 lt0).mono fun e W' ⟨he, bel⟩ => ?_
  subst he
  exact ⟨_, rfl, _, _, _, [], _, [], hW', trodAll_mk1 (shut_bool Try.underlying4 _), (trodAll_cons_mk (Below.trod laidOut (by kernel_rfl) (of_decide_eq_true (by kernel_rfl)) h0 bel lt0) trodAll_mk0), rfl, bel.frame _, fun h => by cases h⟩

theorem proved : Rows.FnJoinedSaid :=
  OpenClaim.holds_of_wide 10 Try.f10 rfl rfl rfl rfl rfl rfl rfl ⟨rfl, rfl, rfl, rfl, rfl⟩ rfl rfl rfl rfl rfl (by kernel_rfl) Try.func10 (by kernel_rfl)
    (of_decide_eq_true (by kernel_rfl)) (by unfold Func.isWrapper; first | (rw [if_pos (by decide +kernel)]; kernel_rfl) | (rw [if_neg (by decide +kernel)]; exact ⟨rfl, rfl⟩))
    (fun os started H enc _ => lifted os started H enc)
end Go.Proofs.Ytbjpodgmmpchjaa.fnJoined
