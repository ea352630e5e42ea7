/- For every list of bytes: of the drawn program and the two drawn numbers the program's ChanceOf and EventOf return what the model's return; nothing where it is refused, and else the chances of all values of the variable are together 1. No condition. -/
import Derived.Test.YtcphclkaddhfmaaRows
import Derived.Test.YtcphclkaddhfmaaDz
import Derived.Test.YtcphclkaddhfmaaNm
import Derived.Test.YtcphclkaddhfmaaKt
import Derived.ProofKit
import Derived.OpenShut
import Derived.ShutString
import Derived.ChangeOld
import Derived.Below
namespace Go.Proofs.Ytcphclkaddhfmaa.fnChanceOf
open Go.ChangeShapes Go.WideShapes Go.ChangeAt Go.RowKit 
set_option linter.unusedVariables false
set_option maxRecDepth 100000

theorem own : ownKnob Try.prog.godebug = none := by kernel_rfl
theorem laidOut : laidOutB Try.prog = true := by kernel_rfl

theorem evRow_ok (v i : Int) : lstOk 9 (evRow v i) = true ∧ ∀ st, 0 ≤ st ∧ st ≤ 80 → hOf (evRow v i) st = if valueAt st v = i then 1 else 0 := by
  refine ⟨?_, fun st hst => hOf_rowL hst⟩
  unfold lstOk
  rw [Bool.and_eq_true]
  refine ⟨decide_eq_true (rowL_length _), ?_⟩
  unfold numsOk
  refine List.all_eq_true.2 fun x hx => ?_
  unfold evRow rowL at hx
  obtain ⟨q, hq, rfl⟩ := List.mem_map.1 hx
  dsimp only
  split <;> decide
theorem gcdI_part_pos'' {a c : Int} (ha : 0 ≤ a) (hc : 0 < c) : 0 < c / gcdI a c := by
  have h := (gcdI_dvd ha (show 0 ≤ c by omega)).2
  have h1 := gcdI_pos (a := a) hc
  have h2 := Int.ediv_mul_cancel h
  have h3 := Int.ediv_nonneg (show 0 ≤ c by omega) (show 0 ≤ gcdI a c by omega)
  rcases Int.lt_or_eq_of_le h3 with h4 | h4
  · exact h4
  · rw [← h4, Int.zero_mul] at h2; omega
/-- What the first values of a variable are worth together. -/
def evSum (ps : List St) (v : Int) : Nat → Int
  | 0 => 0
  | i + 1 => evSum ps v i + woOf ps (evOf v i)
theorem evSum_bd (ps : List St) (v : Int) : ∀ i : Nat, 0 ≤ evSum ps v i ∧ evSum ps v i ≤ i * 1350851717672992089
  | 0 => by simp [evSum]
  | i + 1 => by
    have := evSum_bd ps v i
    have h2 := woOf_bd ps (evOf v i)
    rw [evSum]
    omega
theorem chance_sum {ps : List St} {v x : Int} (h : chOk ps v x = true) : evSum ps v 3 = totalOf ps ∧ ch1 ps v x ≤ ch2 ps v x ∧ 0 < ch2 ps v x := by
  have h0 := h
  unfold chOk at h0
  rw [Bool.and_eq_true] at h0
  obtain ⟨hvb, htz⟩ := h0
  have htz : totalOf ps ≠ 0 := of_decide_eq_true htz
  unfold vbOk at hvb
  rw [Bool.and_eq_true] at hvb
  obtain ⟨hsm, hls⟩ := hvb
  have hTb := totalOf_bd hsm
  have hin : (inB v 0 3 && inB x 0 2) = true := by
    cases hc : inB v 0 3 && inB x 0 2
    · have : evOf v x = [] := by unfold evOf; rw [hc]; simp
      rw [this] at hls
      exact absurd hls (by decide)
    · rfl
  rw [Bool.and_eq_true] at hin
  have hv3 := inB_iff.1 hin.1
  have hx2 := inB_iff.1 hin.2
  obtain ⟨os, hu⟩ : ∃ os, unrolled ps = some os := by
    cases hu : unrolled ps with
    | none => rw [hu] at hsm; cases hsm
    | some os => exact ⟨os, rfl⟩
  obtain ⟨_, hlen, _, _, hOK⟩ := unrolled_parts hu
  have hok : ∀ s ∈ os.drop 0, s.ok = true := fun s hs => List.all_eq_true.1 hOK s (by simpa using hs)
  have hT : totalOf ps = valAt (fun _ => 1) os 0 0 := by unfold totalOf; rw [hu]
  have hW : ∀ i : Int, 0 ≤ i ∧ i ≤ 2 → woOf ps (evOf v i) = val (fun st => if valueAt st v = i then 1 else 0) (os.drop 0) 0 0 := fun i hi => by
    have e : evOf v i = evRow v i := by
      unfold evOf
      rw [if_pos (by rw [Bool.and_eq_true]; exact ⟨hin.1, inB_iff.2 hi⟩)]
    unfold woOf
    rw [hu, e]
    dsimp only
    rw [if_pos (evRow_ok v i).1]
    unfold valAt
    exact val_congr (fun st h1 h2 => (evRow_ok v i).2 st ⟨h1, h2⟩) (os.drop 0) 0 0 hok (by decide)
  have hsum : woOf ps (evOf v 0) + woOf ps (evOf v 1) + woOf ps (evOf v 2) = totalOf ps := by
    rw [hW 0 (by decide), hW 1 (by decide), hW 2 (by decide), ← val_add, ← val_add, hT]
    unfold valAt
    refine val_congr (fun st h1 h2 => ?_) (os.drop 0) 0 0 hok (by decide)
    have hb := value_bd ⟨h1, h2⟩ hv3
    rcases (by omega : valueAt st v = 0 ∨ valueAt st v = 1 ∨ valueAt st v = 2) with e | e | e <;> rw [e] <;> decide
  have hpos : ∀ i : Int, 0 ≤ woOf ps (evOf v i) := fun i => (woOf_bd ps _).1
  have hle : woOf ps (evOf v x) ≤ totalOf ps := by
    have p0 := hpos 0
    have p1 := hpos 1
    have p2 := hpos 2
    rcases (by omega : x = 0 ∨ x = 1 ∨ x = 2) with rfl | rfl | rfl <;> omega
  refine ⟨?_, ?_, ?_⟩
  · rw [← hsum]
    simp [evSum]
  · unfold ch1 ch2 low1 low2 chW
    rw [if_pos h, if_pos h]
    exact Int.ediv_le_ediv (gcdI_pos (by omega)) hle
  · unfold ch2 low2 chW
    rw [if_pos h]
    exact gcdI_part_pos'' (hpos x) (by omega)

set_option maxHeartbeats 1000000 in
theorem walk {H : Type} (enc : TypeId × Value → H) (W : World) (base : Nat) (v0 : Value) (d0 : DataW H) (p0 : List MemPlace) (hv0 : Value.okWide Try.prog W .any base 22 v0)
    (h0 : DataW.Trod enc Try.prog W 0 (fun _ => true) true 22 v0 d0 p0) (_ : ∀ x ∈ p0, x.block < W.heap.size) :
    Calls Try.prog 3 #[v0] W fun e w' => e = .returned (.bool true) ∧ Below W.heap.size W w' := by
  obtain ⟨A, n, c, rfl, hn, hc, hb⟩ := open_bytes hv0 h0
  clear hv0 h0
  have hcM := Lib.hid hc
  have hnn : n ≤ 9223372036854775807 := by unfold maxLen at hc; omega
  clear hc
  by_cases h1 : 1048576 < n
  · go_enter Try.func3, Try.ntmps3
    go_wp2_with fail
    go_ret
    exact ⟨rfl, Below.refl _ _⟩
  go_enter Try.func3, Try.ntmps3
  go_wp2_with fail
  refine (DrawChanceOf_any A n c _ hb hn hcM.out).mono ?_
  rintro e w1 ⟨v, ps, y1, y2, rfl, hO, hl11, hB1⟩
  obtain ⟨A1, c1, hv, hlc, hcm⟩ := hO.form
  subst hv
  have hP1 := Lib.hid hO.lst
  have hB1' := Lib.hid hB1
  have hbg : ps.length ≤ 1048576 := by omega
  have hlx := Lib.hid (fun wx (hx : Below w1.heap.size w1 wx) => ((hP1.out.below hx).more hx.size))
  have cC := Lib.hid (fun wx hx => ChanceOf_any A1 ps.length c1 ps y1 y2 wx (hlx.out wx hx) hlc hcm)
  have cCs := Lib.hid (fun wx hx => specChanceOf_any A1 ps.length c1 ps y1 y2 wx (hlx.out wx hx) hlc hcm hbg)
  have cE := Lib.hid (fun z wx => EventOf_any y1 z wx)
  have cEs := Lib.hid (fun wx => specEventOf_any y1 y2 wx)
  have cW := Lib.hid (fun Ad nd cd z wx (hx : Below w1.heap.size w1 wx) (hd : Ils wx wx.heap.size Ad nd (evOf y1 z)) (hnd : nd ≤ maxLen) => WorthOf_any A1 Ad ps.length c1 nd cd ps (evOf y1 z) wx (hlx.out wx hx) hlc hcm hd hnd)
  have cT := Lib.hid (fun wx hx => TotalOf_any A1 ps.length c1 ps wx (hlx.out wx hx) hlc hcm)
  have hel := Lib.hid (fun z => evOf_len y1 z)
  have hChs := Lib.hid (chance_sum (ps := ps) (v := y1) (x := y2))
  have hChn := Lib.hid (show chOk ps y1 y2 = false → ch1 ps y1 y2 = 0 ∧ ch2 ps y1 y2 = 0 from fun h => by
    unfold ch1 ch2
    rw [h]
    exact ⟨rfl, rfl⟩)
  generalize ch1 ps y1 y2 = a1 at cC cCs hChs hChn
  generalize ch2 ps y1 y2 = a2 at cC cCs hChs hChn
  have n1 : (a1 != a1) = false := by simp
  have n2 : (a2 != a2) = false := by simp
  have n3 : (a1 == a1) = true := by simp
  clear hO hB1 hb hlc hcm
  cases hok : chOk ps y1 y2
  · rw [hok] at cC cCs
    obtain ⟨rfl, rfl⟩ := hChn.out hok
    clear hok
    go_wp2_with fail
    refine (cC.out _ (Below.refl _ _)).mono ?_
    rintro e w2 ⟨rfl, hb2⟩
    go_wp2_with fail
    refine (cCs.out _ hb2).mono ?_
    rintro e w3 ⟨rfl, hb3⟩
    have hb3' := hb2.trans (hb3.mono hb2.size)
    go_wp2_with (first
      | (go_at_call 15; refine (cE.out _ _).mono ?_; rintro e w4 ⟨v4, rfl, ho4, hb4⟩; obtain ⟨A4, c4, hv4, _, _⟩ := ho4.form; subst hv4; have hb4' := hb3'.trans (hb4.mono hb3'.size))
      | (go_at_call 16; refine (cEs.out _).mono ?_; rintro e w5 ⟨v5, rfl, ho5, hb5⟩; obtain ⟨A5, c5, hv5, _, _⟩ := ho5.form; subst hv5; have hb5' := hb4'.trans (hb5.mono hb4'.size))
      | (go_at_call 14; refine (wcInts_any A4 A5 _ _ c4 c5 (evOf y1 y2) (evOf y1 y2) _ (IOwn.lst (ho4.below hb5)) ho5.lst (by have := hel.out y2; unfold maxLen; omega) (by have := hel.out y2; unfold maxLen; omega)).mono ?_; rintro e w6 ⟨rfl, q6, rfl⟩))
    go_ret
    exact ⟨rfl, hB1'.out.trans ((below_drewN hb5' _).mono hB1'.out.size)⟩
  · rw [hok] at cC cCs
    obtain ⟨hs3, hle, hps⟩ := hChs.out hok
    clear hok
    go_wp2_with fail
    refine (cC.out _ (Below.refl _ _)).mono ?_
    rintro e w2 ⟨rfl, hb2⟩
    go_wp2_with fail
    refine (cCs.out _ hb2).mono ?_
    rintro e w3 ⟨rfl, hb3⟩
    have hb3' := hb2.trans (hb3.mono hb2.size)
    go_wp2_with (first
      | (go_at_call 15; refine (cE.out _ _).mono ?_; rintro e w4 ⟨v4, rfl, ho4, hb4⟩; obtain ⟨A4, c4, hv4, _, _⟩ := ho4.form; subst hv4; have hb4' := hb3'.trans (hb4.mono hb3'.size))
      | (go_at_call 16; refine (cEs.out _).mono ?_; rintro e w5 ⟨v5, rfl, ho5, hb5⟩; obtain ⟨A5, c5, hv5, _, _⟩ := ho5.form; subst hv5; have hb5' := hb4'.trans (hb5.mono hb4'.size))
      | (go_at_call 14; refine (wcInts_any A4 A5 _ _ c4 c5 (evOf y1 y2) (evOf y1 y2) _ (IOwn.lst (ho4.below hb5)) ho5.lst (by have := hel.out y2; unfold maxLen; omega) (by have := hel.out y2; unfold maxLen; omega)).mono ?_; rintro e w6 ⟨rfl, q6, rfl⟩))
    have hb6 := Lib.hid (below_drewN hb5' q6)
    have hs3' := Lib.hid hs3
    clear hb2 hb3 hb3' hb4 hb4' hb5 hb5' ho4 ho5 hs3
    go_loopg [12, 13] 3 (fun gn a v wr => ∃ i : Nat, i ≤ 3 ∧ gn = 3 - i ∧ v = .int .i64 i ∧ a = .int .i64 (evSum ps y1 i) ∧ Below w1.heap.size w1 wr)
    case atStart => exact ⟨0, by omega, rfl, rfl, rfl, hb6.out⟩
    case round =>
      obtain ⟨i, hi, hgn, rfl, rfl, hbr⟩ := hrel
      have hgk : gk = 3 - i := hgn
      have hbr' := Lib.hid hbr
      clear hgn hbr
      by_cases hi3 : i < 3
      · have hi0 : (0 : Int) ≤ (i : Int) := by omega
        have hi1 : (i : Int) < 3 := by omega
        have hsb := evSum_bd ps y1 i
        have hwb := woOf_bd ps (evOf y1 i)
        have hS := Lib.hid (show evSum ps y1 (i + 1) = evSum ps y1 i + woOf ps (evOf y1 i) from rfl)
        have hw : IntKind.i64.wrap (evSum ps y1 i + woOf ps (evOf y1 i)) = evSum ps y1 i + woOf ps (evOf y1 i) := IntWalk.i64_in _ (by omega)
        have cWi := Lib.hid (fun Ad nd cd wx hx hd hnd => cW.out Ad nd cd (i : Int) wx hx hd hnd)
        generalize woOf ps (evOf y1 i) = zz at cWi hwb hS hw
        generalize evSum ps y1 i = ss at hsb hS hw ⊢
        go_wp2_with (first
          | (go_at_call 15; refine (cE.out _ _).mono ?_; rintro e w7 ⟨v7, rfl, ho7, hb7⟩; obtain ⟨A7, c7, hv7, _, _⟩ := ho7.form; subst hv7; have hb7' := hbr'.out.trans (hb7.mono hbr'.out.size))
          | (go_at_call 17; refine (cWi.out _ _ _ _ hb7' ho7.lst (by have := hel.out (i : Int); unfold maxLen; omega)).mono ?_; rintro e w8 ⟨rfl, hb8⟩; have hb8' := Lib.hid (hb7'.trans (hb8.mono hb7'.size))))
        go_roundg (3 - (i + 1))
        case measure => omega
        case rel => exact ⟨i + 1, by omega, rfl, by go_num, by rw [hS.out], hb8'.out⟩
      · obtain rfl : i = 3 := by omega
        rw [hs3'.out]
        have hle' : a1 ≤ a2 := hle
        have n4 : (totalOf ps == totalOf ps) = true := by simp
        go_wp2_with (first
          | (go_at_call 18; refine (cT.out _ hbr'.out).mono ?_; rintro e w9 ⟨rfl, hb9⟩))
        go_ret
        exact ⟨rfl, hB1'.out.trans ((hbr'.out.trans (hb9.mono hbr'.out.size)).mono hB1'.out.size)⟩

set_option maxRecDepth 100000 in
theorem lifted (os : Os) (started : os.Started) (H : Type) (enc : TypeId × Value → H) :
    ReturnsInHanded {} Try.checked os 3 .any (Rows.fnChanceOfSpec.pre6 enc Try.prog Try.f3 Rows.fnChanceOfRow.domain false) (Rows.fnChanceOfSpec.post enc Try.prog Try.f3 false true false false) := by
  refine returnsInHanded_of_change (C := Try.checked) own started (by kernel_rfl) Try.func3
    (ChangeSpec.witness6 (enc := enc) (C := Try.checked) false ⟨#[], #[.slice none 0 0], []⟩ 8 (by kernel_rfl) (by kernel_rfl) (by kernel_rfl) (by kernel_rfl)) ?_
  intro W base args ds gs before hval0 hW hcnd _
  have hval : ∀ (j : Nat) t v, Try.f3.params[j]? = some t → args[j]? = some v → Value.okWide Try.prog W .any base t v := hval0
  have hW' := hW
  obtain ⟨p, q, hA0, hV, rfl, hfz, hnd⟩ := hW
  have hA : DataW.TrodAll enc Try.prog W 0 (fun _ => true) true Try.f3.params.toList args.toList ds p := hA0
  rw [Try.params3] at hA hval
  obtain ⟨v0, vs0, d0, ds0, p0, q0, hargs, rfl, rfl, h0, r0⟩ := trodAll_cons hA
  obtain ⟨rfl, rfl, rfl⟩ := trodAll_nil r0
  obtain rfl : args = #[v0] := by cases args; simp_all
  obtain ⟨rfl, rfl⟩ := trodVars_none hV
  have lt0 : ∀ x ∈ p0, x.block < W.heap.size := by
    obtain ⟨m, hm⟩ := h0
    exact DataW.trod_lt m _ _ _ hm
  clear hA0 hval0
  refine (walk enc W base v0 d0 p0 (hval 0 22 v0 rfl rfl) h0 lt0).mono fun e W' ⟨he, bel⟩ => ?_
  subst he
  exact ⟨_, rfl, _, _, _, [], _, [], hW', trodAll_mk1 (shut_bool Try.underlying4 _), (trodAll_cons_mk (Below.trod laidOut (by kernel_rfl) (of_decide_eq_true (by kernel_rfl)) h0 bel lt0) trodAll_mk0), rfl, bel.frame _, fun h => by cases h⟩

theorem proved : Rows.FnChanceOfSaid :=
  OpenClaim.holds_of_wide 3 Try.f3 rfl rfl rfl rfl rfl rfl rfl ⟨rfl, rfl, rfl, rfl, rfl⟩ rfl rfl rfl rfl rfl (by kernel_rfl) Try.func3 (by kernel_rfl)
    (of_decide_eq_true (by kernel_rfl)) (by unfold Func.isWrapper; first | (rw [if_pos (by decide +kernel)]; kernel_rfl) | (rw [if_neg (by decide +kernel)]; exact ⟨rfl, rfl⟩))
    (fun os started H enc _ => lifted os started H enc)
end Go.Proofs.Ytcphclkaddhfmaa.fnChanceOf
