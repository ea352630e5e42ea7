/- Parts of the proof: Ab, Gf. -/
import Derived.Test.YtghkpmafocacoaaZAD
import Derived.Test.YtghkpmafocacoaaZAH
namespace Go.Proofs.Ytghkpmafocacoaa
set_option maxRecDepth 100000
set_option linter.unusedVariables false
open Go.RowKit
/-- How a list of numbers and whether there is one are told. -/
def Lbd (w : World) (os : List Int) (ok : Bool) (e : Ending) (w' : World) : Prop := ∃ v, e = .returned (.tuple #[v, .bool ok]) ∧ IOwn w' w.heap.size v os ∧ Below w.heap.size w w'
/-- A list of the states' numbers, and a variable. -/
def lvOk (ds : List Int) (v : Int) : Bool := lstOk 1000000000 ds && inB v 0 3
def margOf (ds : List Int) (v : Int) : List Int := if lvOk ds v = true then marg ds v else []
theorem made_ints (n : Nat) : (madeCells #[Value.int .i64 0] n).toList = ints (zs n) := by
  apply List.ext_getElem?
  intro i
  rw [Array.getElem?_toList]
  by_cases h : i < n
  · rw [ints_get (d := 0) (by unfold zs; rw [List.getElem?_replicate, if_pos h])]
    unfold madeCells
    simp [h, Nat.mod_one]
  · rw [List.getElem?_eq_none (by rw [ints_length, zs_len]; omega), Array.getElem?_eq_none (by rw [size_madeCells]; omega)]
set_option maxHeartbeats 1000000 in
theorem MarginalOf_any (A : Option Addr) (n c : Nat) (ds : List Int) (v : Int) (w : World) (h : Ils w w.heap.size A n ds) (hn : n ≤ maxLen) :
    Calls Try.prog 57 #[.slice A n c, .int .i64 v] w (Lbd w (margOf ds v) (lvOk ds v)) := by
  have hI := Lib.hid h
  have cL := Lib.hid (listOk_any A n c ds 1000000000 w h hn)
  clear h hn
  cases hk : lstOk 1000000000 ds
  · have hR := Lib.hid (show lvOk ds v = false by unfold lvOk; rw [hk]; rfl)
    have hR2 := Lib.hid (show margOf ds v = [] by unfold margOf; rw [hR.out]; rfl)
    rw [hk] at cL
    clear hk
    go_enter Try.func57, Try.ntmps57
    go_wp2_with (first | (go_at_call 76; refine cL.out.mono ?_; rintro e w1 ⟨rfl, hb⟩) | (go_at_call 97; refine (varOk_any _ _).mono ?_; rintro e w' ⟨rfl, rfl⟩))
    go_ret2
    exact ⟨_, by rw [hR.out]; rfl, by rw [hR2.out]; exact IOwn.nil _ _, hb⟩
  · cases hv : inB v 0 3
    · have hR := Lib.hid (show lvOk ds v = false by unfold lvOk; rw [hk, hv]; rfl)
      have hR2 := Lib.hid (show margOf ds v = [] by unfold margOf; rw [hR.out]; rfl)
      rw [hk] at cL
      clear hk
      go_enter Try.func57, Try.ntmps57
      go_wp2_with (first | (go_at_call 76; refine cL.out.mono ?_; rintro e w1 ⟨rfl, hb⟩) | (go_at_call 97; refine (varOk_any _ _).mono ?_; rintro e w' ⟨rfl, rfl⟩))
      go_ret2
      exact ⟨_, by rw [hR.out]; rfl, by rw [hR2.out]; exact IOwn.nil _ _, hb⟩
    · have hR := Lib.hid (show lvOk ds v = true by unfold lvOk; rw [hk, hv]; rfl)
      have hR2 := Lib.hid (show margOf ds v = marg ds v by unfold margOf; rw [hR.out]; rfl)
      have hLB := Lib.hid (lstOk_bd hk)
      have hv3 := inB_iff.1 hv
      obtain rfl : n = 81 := by rw [← hI.out.1]; exact hLB.out.1
      have hT := Lib.hid (show ds.take 81 = ds from List.take_of_length_le (by rw [hLB.out.1]; exact Nat.le_refl _))
      have hM := Lib.hid (marg_bd (fun x hx => (hLB.out.2 x hx).1) v)
      have hS := Lib.hid (show isum ds ≤ 81000000000 by
        have := (isum_top (by decide) hLB.out.2).2
        rw [hLB.out.1] at this
        omega)
      rw [hk] at cL
      clear hk
      obtain ⟨i0, hi0, hz0, hz1', hz2'⟩ := info_parts info_int
      have hmk : ∀ wx : World, (Instr.makeSlice 31 (.int .i64 3) (.int .i64 3)).run Try.prog wx = .ok (.slice (some ⟨wx.heap.size, 0, none⟩) 3 3) (wx.alloc (.cells (madeCells (Value.int .i64 0).cells (3 * 1)) 3)) := by
        intro wx
        have hr := run_make (P := Try.prog) wx 31 3 i0 _ Try.underlying31 hi0 hz0 .i64 .i64 3 3 (by omega) (by omega) (by rw [hz2']; omega) (by omega)
        rw [hz1'] at hr
        exact hr
      go_enter Try.func57, Try.ntmps57
      go_wp2_with (first | (go_at_call 76; refine cL.out.mono ?_; rintro e w1 ⟨rfl, hb⟩) | (go_at_call 97; refine (varOk_any _ _).mono ?_; rintro e w' ⟨rfl, rfl⟩))
      clear hmk
      have hz1 := hb.size
      have hI1 := Lib.hid (hI.out.below hb)
      have hO0 := Lib.hid (show (w1.alloc (.cells (madeCells #[.int .i64 0] 3) 3)).ownsRow w.heap.size 3 1 (.slice (some ⟨w1.heap.size, 0, none⟩) 3 3) 3 (ints (marg (ds.take 0) v)) from
        IOwn.of_has (ds := [0, 0, 0]) (Has.new w1 _ _) (made_ints 3) rfl hz1 (by decide))
      have hB0 := Lib.hid (hb.alloc hz1 (.cells (madeCells #[.int .i64 0] 3) 3))
      generalize hGG : w1.heap.size = G at *
      clear hb hGG
      go_loopg [20] 81 (fun gn o wr => ∃ k : Nat, k ≤ 81 ∧ gn = 81 - k ∧ o = .int .i64 k ∧ wr.ownsRow w.heap.size 3 1 (.slice (some ⟨G, 0, none⟩) 3 3) 3 (ints (marg (ds.take k) v)) ∧ Below w.heap.size w wr)
      case atStart => exact ⟨0, Nat.zero_le _, rfl, rfl, hO0.out, hB0.out⟩
      case round =>
        obtain ⟨k, hk, hgn, rfl, hown, hB⟩ := hrel
        have hgk : gk = 81 - k := hgn
        have hB' := Lib.hid hB
        have hOw := Lib.hid hown
        clear hgn
        by_cases hlt : k < 81
        · obtain ⟨g, off, d, rfl, hg, hd, c0⟩ := (hI.out.below hB).at_ hlt
          have hk0 : (0 : Int) ≤ (k : Int) := by omega
          have hk1 : (k : Int) < 81 := by omega
          have hzv := state_val (st := k) (v := v) (by omega) hv3
          obtain ⟨z, hz⟩ : ∃ z : Nat, valueAt k v = (z : Int) := ⟨(valueAt k v).toNat, by omega⟩
          have hz3 : z < 3 := by omega
          have cV := Lib.hid (fun wx => ValueAt_any k v wx)
          rw [hz] at cV
          have hD := hLB.out.2 d (List.mem_of_getElem? hd)
          have hm1 := hM.out z k
          have hs1 := hS.out
          obtain ⟨b, cur, hbe, hwb, hH, _, _, _, hcl⟩ := owns_open hown (by omega)
          have hbe' : G = b := by injection hbe with e; injection e
          subst hbe'
          have hc1 := hcl z (by omega)
          rw [ints_get (marg_at (ds.take k) v hz3)] at hc1
          have hfz := hH.frozen z
          have hSt := Lib.hid (marg_step hd hz hz3)
          have hO2 := Lib.hid (owns_set (x := rsum (ev v z) (ds.take k) 0 + d) hOw.out hz3)
          have hB2 := Lib.hid (hB'.out.setCell (p := ⟨G, z, none⟩) hwb (.int .i64 (rsum (ev v z) (ds.take k) 0 + d)))
          generalize rsum (ev v z) (ds.take k) 0 = sk at *
          have hw : IntKind.i64.wrap (sk + d) = sk + d := by rw [IntKind.wrap_i64]; omega
          have hz0 : (0 : Int) ≤ (z : Int) := by omega
          have hz4 : (z : Int) < 3 := by omega
          clear hown hB hbe hH hcl hd hz hzv
          go_wp2_with fail
          refine (cV.out _).mono ?_
          rintro e w2 ⟨rfl, rfl⟩
          go_wp2_with fail
          go_roundg (81 - (k + 1))
          case measure => omega
          case rel => exact ⟨k + 1, by omega, rfl, by go_num, by rw [← hSt.out]; exact hO2.out, hB2.out⟩
        · obtain rfl : k = 81 := by omega
          have hF := Lib.hid (show Lbd w (margOf ds v) (lvOk ds v) (.returned (.tuple #[.slice (some ⟨G, 0, none⟩) 3 3, .bool true])) wr from ⟨_, by rw [hR.out], by rw [hR2.out]; rw [hT.out] at hown; exact hown, hB⟩)
          clear hown hB
          go_wp2_with fail
          go_ret2
          exact hF.out
end Go.Proofs.Ytghkpmafocacoaa

namespace Go.Proofs.Ytghkpmafocacoaa
set_option maxRecDepth 100000
set_option linter.unusedVariables false
open Go.RowKit
def listOk (Fs : List Fac) : Bool := decide (Fs.length ≤ 8) && Fs.all (facOk 9)
def lofTo (Fs : List Fac) : List Int := if listOk Fs = true then (List.range 81).map fun (i : Nat) => prodAt Fs (i : Int) else []
def smallF (Fs : List Fac) : Prop := ∀ F ∈ Fs, F.vs.length ≤ maxLen ∧ F.ns.length ≤ maxLen
theorem fac_nine (F : Fac) : (facOk 1000000000 F && numsOk 9 F.ns) = facOk 9 F := by
  unfold facOk
  cases h : numsOk 9 F.ns
  · simp
  · have h2 : numsOk 1000000000 F.ns = true := List.all_eq_true.2 fun d hd => by
      have := inB_iff.1 (List.all_eq_true.1 h d hd)
      exact inB_iff.2 (by omega)
    rw [h2, Bool.and_true]
theorem facs_take {Fs : List Fac} {k : Nat} {F : Fac} {f : Fac → Bool} (h : Fs[k]? = some F) : (Fs.take (k + 1)).all f = ((Fs.take k).all f && f F) := by
  have hl : k < Fs.length := (List.getElem?_eq_some_iff.1 h).1
  rw [List.take_succ_eq_append_getElem hl, List.all_append]
  simp [(List.getElem?_eq_some_iff.1 h).2]
theorem facs_no {Fs : List Fac} {k : Nat} {F : Fac} {f : Fac → Bool} (h : Fs[k]? = some F) (hf : f F = false) : Fs.all f = false := by
  cases he : Fs.all f
  · rfl
  · have := List.all_eq_true.1 he F (List.mem_of_getElem? h)
    rw [hf] at this
    cases this
set_option maxHeartbeats 1000000 in
theorem factorsOk_any (A : Option Addr) (n c : Nat) (Fs : List Fac) (w : World) (h : FLst w w.heap.size A n Fs) (hn : n ≤ maxLen) (hsm : smallF Fs) :
    Calls Try.prog 108 #[.slice A n c] w fun e w' => e = .returned (.bool (listOk Fs)) ∧ Below w.heap.size w w' := by
  have hI := Lib.hid h
  have hl := h.1
  have hSm := Lib.hid hsm
  unfold maxLen at hn
  clear h hsm
  by_cases hn8 : n ≤ 8
  · have hn8' : ¬ (n : Int) > 8 := by omega
    have hR0 := Lib.hid (show listOk Fs = Fs.all (facOk 9) by unfold listOk; rw [decide_eq_true (by omega), Bool.true_and])
    go_enter Try.func108, Try.ntmps108
    go_wp2_with fail
    go_loopg [10] n (fun gn v wr => ∃ k : Nat, k ≤ n ∧ gn = n - k ∧ v = .int .i64 k ∧ (Fs.take k).all (facOk 9) = true ∧ Below w.heap.size w wr)
    case atStart => exact ⟨0, Nat.zero_le _, rfl, rfl, rfl, Below.refl _ _⟩
    case round =>
      obtain ⟨k, hk, hgn, rfl, hok, hB⟩ := hrel
      have hgk : gk = n - k := hgn
      have hOk := Lib.hid hok
      have hBh := Lib.hid hB
      clear hgn hok
      by_cases hlt : k < n
      · obtain ⟨gl, off, F, B1, m1, e1, B2, m2, e2, rfl, hgl, hFk, cl1, cl2, hFW⟩ := (hI.out.below hB).at_ hlt
        have hk0 : (0 : Int) ≤ (k : Int) := by omega
        have hk1 : (k : Int) < (n : Int) := by omega
        have hz := hB.size
        obtain ⟨hb1, hb2⟩ := hSm.out F (List.mem_of_getElem? hFk)
        have hm1 := hFW.1.1
        have hm2 := hFW.2.1
        have cF := Lib.hid (fun wx hx => FactorOk_any B1 B2 m1 e1 m2 e2 F wx hx (by omega) (by omega))
        have cN := Lib.hid (fun wx hx => numbersOk_any B2 m2 e2 F.ns 9 wx hx (by omega))
        have hnx := Lib.hid (facs_take (f := facOk 9) hFk)
        have hal : Below wr.heap.size wr (wr.alloc (.cells #[.slice B1 m1 e1, .slice B2 m2 e2] 56)) := (Below.refl _ _).alloc (Nat.le_refl _) _
        have hbx := Lib.hid (Has.new wr 56 #[.slice B1 m1 e1, .slice B2 m2 e2])
        have hF0 := Lib.hid (show FacW _ _ B1 m1 B2 m2 F from ((hFW.more hz).keep_ hal).more hal.size)
        have hB0 := Lib.hid (hB.alloc hz (.cells #[.slice B1 m1 e1, .slice B2 m2 e2] 56))
        have hni := Lib.hid (fac_nine F)
        have hFkh := Lib.hid hFk
        clear hFW hal hFk hB
        go_wp2_with fail
        clear cl1 cl2
        generalize wr.alloc (.cells #[.slice B1 m1 e1, .slice B2 m2 e2] 56) = W0 at hbx hF0 hB0 ⊢
        cases hf : facOk 1000000000 F
        · have hR := Lib.hid (show listOk Fs = false by rw [hR0.out]; exact facs_no hFkh.out (by rw [← hni.out, hf]; rfl))
          refine (cF.out _ hF0.out).mono ?_
          rw [hf]
          rintro e w2 ⟨rfl, hb2⟩
          have hB2 := hB0.out.trans (hb2.mono hB0.out.size)
          clear hf hb2
          go_wp2_with fail
          go_ret
          exact ⟨ret_bool hR.out, hB2⟩
        · have hni2 := hni.out
          rw [hf, Bool.true_and] at hni2
          have hni3 := Lib.hid hni2
          refine (cF.out _ hF0.out).mono ?_
          rw [hf]
          rintro e w2 ⟨rfl, hb2⟩
          have hB2 := Lib.hid (hB0.out.trans (hb2.mono hB0.out.size))
          have hF2 := Lib.hid (hF0.out.below hb2)
          have cx := (hbx.out.kept hb2).cell
          clear hf hb2 hni2
          go_wp2_with fail
          cases hq : numsOk 9 F.ns
          · have hR := Lib.hid (show listOk Fs = false by rw [hR0.out]; exact facs_no hFkh.out (by rw [← hni3.out, hq]))
            refine (cN.out _ hF2.out.2).mono ?_
            rw [hq]
            rintro e w3 ⟨rfl, hb3⟩
            have hB3 := hB2.out.trans (hb3.mono hB2.out.size)
            clear hq hb3 cx
            go_wp2_with fail
            go_ret
            exact ⟨ret_bool hR.out, hB3⟩
          · have hR := Lib.hid (show (Fs.take (k + 1)).all (facOk 9) = true by rw [hnx.out, hOk.out, ← hni3.out, hq]; rfl)
            refine (cN.out _ hF2.out.2).mono ?_
            rw [hq]
            rintro e w3 ⟨rfl, hb3⟩
            have hB3 := Lib.hid (hB2.out.trans (hb3.mono hB2.out.size))
            clear hq hb3 cx
            go_wp2_with fail
            go_roundg (n - (k + 1))
            case measure => omega
            case rel => exact ⟨k + 1, by omega, rfl, by go_num, hR.out, hB3.out⟩
      · obtain rfl : k = n := by omega
        have hR := Lib.hid (show listOk Fs = true by rw [hR0.out]; have h1 := hOk.out; rwa [List.take_of_length_le (by omega)] at h1)
        go_wp2_with fail
        go_ret
        exact ⟨ret_bool hR.out, hBh.out⟩
  · have hn8' : (n : Int) > 8 := by omega
    have hR := Lib.hid (show listOk Fs = false by unfold listOk; rw [decide_eq_false (by omega), Bool.false_and])
    go_enter Try.func108, Try.ntmps108
    go_wp2_with fail
    go_ret
    exact ⟨ret_bool hR.out, Below.refl _ _⟩
set_option maxHeartbeats 1000000 in
theorem l8List_any (A : Option Addr) (n c : Nat) (Fs : List Fac) (w : World) (h : FLst w w.heap.size A n Fs) (hn : n ≤ maxLen) (hsm : smallF Fs) :
    Calls Try.prog 143 #[.slice A n c] w fun e w' => e = .returned (.bool (listOk Fs)) ∧ Below w.heap.size w w' := by
  have hI := Lib.hid h
  have hl := h.1
  have hSm := Lib.hid hsm
  unfold maxLen at hn
  clear h hsm
  go_enter Try.func143, Try.ntmps143
  go_wp2_with fail
  go_loopg [3] n (fun gn v wr => ∃ k : Nat, k ≤ n ∧ gn = n - k ∧ v = .int .i64 k ∧ (Fs.take k).all (facOk 9) = true ∧ Below w.heap.size w wr)
  case atStart => exact ⟨0, Nat.zero_le _, rfl, rfl, rfl, Below.refl _ _⟩
  case round =>
    obtain ⟨k, hk, hgn, rfl, hok, hB⟩ := hrel
    have hgk : gk = n - k := hgn
    have hOk := Lib.hid hok
    have hBh := Lib.hid hB
    clear hgn hok
    by_cases hlt : k < n
    · obtain ⟨gl, off, F, B1, m1, e1, B2, m2, e2, rfl, hgl, hFk, cl1, cl2, hFW⟩ := (hI.out.below hB).at_ hlt
      have hk0 : (0 : Int) ≤ (k : Int) := by omega
      have hk1 : (k : Int) < (n : Int) := by omega
      have hz := hB.size
      obtain ⟨hb1, hb2⟩ := hSm.out F (List.mem_of_getElem? hFk)
      have hm1 := hFW.1.1
      have hm2 := hFW.2.1
      have cF := Lib.hid (fun wx hx => l8Factor_any B1 B2 m1 e1 m2 e2 F 9 wx hx (by omega) (by omega))
      have hF0 := Lib.hid (hFW.more hz)
      have hnx := Lib.hid (facs_take (f := facOk 9) hFk)
      have hFkh := Lib.hid hFk
      clear hFW hFk hB
      cases hf : facOk 9 F
      · have hR := Lib.hid (show listOk Fs = false by unfold listOk; rw [facs_no hFkh.out hf, Bool.and_false])
        rw [hf] at cF
        clear hf
        go_wp2_with fail
        refine (cF.out _ hF0.out).mono ?_
        rintro e w2 ⟨rfl, hb2⟩
        have hB2 := hBh.out.trans (hb2.mono hBh.out.size)
        clear hb2
        go_wp2_with fail
        go_ret
        exact ⟨ret_bool hR.out, hB2⟩
      · have hR := Lib.hid (show (Fs.take (k + 1)).all (facOk 9) = true by rw [hnx.out, hOk.out, hf]; rfl)
        rw [hf] at cF
        clear hf
        go_wp2_with fail
        refine (cF.out _ hF0.out).mono ?_
        rintro e w2 ⟨rfl, hb2⟩
        have hB2 := Lib.hid (hBh.out.trans (hb2.mono hBh.out.size))
        clear hb2
        go_wp2_with fail
        go_roundg (n - (k + 1))
        case measure => omega
        case rel => exact ⟨k + 1, by omega, rfl, by go_num, hR.out, hB2.out⟩
    · obtain rfl : k = n := by omega
      have hR := Lib.hid (show listOk Fs = decide ((k : Int) ≤ 8) by
        unfold listOk
        have h1 := hOk.out
        rw [List.take_of_length_le (by omega)] at h1
        rw [h1, Bool.and_true, hl]
        by_cases h8 : k ≤ 8
        · rw [decide_eq_true h8, decide_eq_true (by omega)]
        · rw [decide_eq_false h8, decide_eq_false (by omega)])
      go_wp2_with fail
      go_ret
      exact ⟨ret_bool hR.out, hBh.out⟩
end Go.Proofs.Ytghkpmafocacoaa
