/- Factors: lists of them: the program's factorsOk, ListOfFactors, the model's l8List, ListOfFactors. -/
import Derived.Test.YtdegfbdoeklhnaaFk
import Derived.Test.YtdegfbdoeklhnaaAb
namespace Go.Proofs.Ytdegfbdoeklhnaa
set_option maxRecDepth 100000
set_option linter.unusedVariables false
open Go.RowKit

def listOk (Fs : List Fac) : Bool := decide (Fs.length ≤ 8) && Fs.all (facOk 9)
def lofTo (Fs : List Fac) : List Int := if listOk Fs = true then (List.range 81).map fun (i : Nat) => prodAt Fs (i : Int) else []
def smallF (Fs : List Fac) : Prop := ∀ F ∈ Fs, F.vs.length ≤ maxLen ∧ F.ns.length ≤ maxLen
theorem fac_nine (F : Fac) : (facOk 1000000000 F && numsOk 9 F.ns) = facOk 9 F := by
  unfold facOk
  cases h : numsOk 9 F.ns
  · simp
  · have h2 : numsOk 1000000000 F.ns = true := List.all_eq_true.2 fun d hd => by
      have := inB_iff.1 (List.all_eq_true.1 h d hd)
      exact inB_iff.2 (by omega)
    rw [h2, Bool.and_true]
theorem facs_take {Fs : List Fac} {k : Nat} {F : Fac} {f : Fac → Bool} (h : Fs[k]? = some F) : (Fs.take (k + 1)).all f = ((Fs.take k).all f && f F) := by
  have hl : k < Fs.length := (List.getElem?_eq_some_iff.1 h).1
  rw [List.take_succ_eq_append_getElem hl, List.all_append]
  simp [(List.getElem?_eq_some_iff.1 h).2]
theorem facs_no {Fs : List Fac} {k : Nat} {F : Fac} {f : Fac → Bool} (h : Fs[k]? = some F) (hf : f F = false) : Fs.all f = false := by
  cases he : Fs.all f
  · rfl
  · have := List.all_eq_true.1 he F (List.mem_of_getElem? h)
    rw [hf] at this
    cases this
set_option maxHeartbeats 1000000 in
theorem factorsOk_any (A : Option Addr) (n c : Nat) (Fs : List Fac) (w : World) (h : FLst w w.heap.size A n Fs) (hn : n ≤ maxLen) (hsm : smallF Fs) :
    Calls Try.prog 76 #[.slice A n c] w fun e w' => e = .returned (.bool (listOk Fs)) ∧ Below w.heap.size w w' := by
  have hI := Lib.hid h
  have hl := h.1
  have hSm := Lib.hid hsm
  unfold maxLen at hn
  clear h hsm
  by_cases hn8 : n ≤ 8
  · have hn8' : ¬ (n : Int) > 8 := by omega
    have hR0 := Lib.hid (show listOk Fs = Fs.all (facOk 9) by unfold listOk; rw [decide_eq_true (by omega), Bool.true_and])
    go_enter Try.func76, Try.ntmps76
    go_wp2_with fail
    go_loopg [10] n (fun gn v wr => ∃ k : Nat, k ≤ n ∧ gn = n - k ∧ v = .int .i64 k ∧ (Fs.take k).all (facOk 9) = true ∧ Below w.heap.size w wr)
    case atStart => exact ⟨0, Nat.zero_le _, rfl, rfl, rfl, Below.refl _ _⟩
    case round =>
      obtain ⟨k, hk, hgn, rfl, hok, hB⟩ := hrel
      have hgk : gk = n - k := hgn
      have hOk := Lib.hid hok
      have hBh := Lib.hid hB
      clear hgn hok
      by_cases hlt : k < n
      · obtain ⟨gl, off, F, B1, m1, e1, B2, m2, e2, rfl, hgl, hFk, cl1, cl2, hFW⟩ := (hI.out.below hB).at_ hlt
        have hk0 : (0 : Int) ≤ (k : Int) := by omega
        have hk1 : (k : Int) < (n : Int) := by omega
        have hz := hB.size
        obtain ⟨hb1, hb2⟩ := hSm.out F (List.mem_of_getElem? hFk)
        have hm1 := hFW.1.1
        have hm2 := hFW.2.1
        have cF := Lib.hid (fun wx hx => FactorOk_any B1 B2 m1 e1 m2 e2 F wx hx (by omega) (by omega))
        have cN := Lib.hid (fun wx hx => numbersOk_any B2 m2 e2 F.ns 9 wx hx (by omega))
        have hnx := Lib.hid (facs_take (f := facOk 9) hFk)
        have hal : Below wr.heap.size wr (wr.alloc (.cells #[.slice B1 m1 e1, .slice B2 m2 e2] 27)) := (Below.refl _ _).alloc (Nat.le_refl _) _
        have hbx := Lib.hid (Has.new wr 27 #[.slice B1 m1 e1, .slice B2 m2 e2])
        have hF0 := Lib.hid (show FacW _ _ B1 m1 B2 m2 F from ((hFW.more hz).keep_ hal).more hal.size)
        have hB0 := Lib.hid (hB.alloc hz (.cells #[.slice B1 m1 e1, .slice B2 m2 e2] 27))
        have hni := Lib.hid (fac_nine F)
        have hFkh := Lib.hid hFk
        clear hFW hal hFk hB
        go_wp2_with fail
        clear cl1 cl2
        generalize wr.alloc (.cells #[.slice B1 m1 e1, .slice B2 m2 e2] 27) = W0 at hbx hF0 hB0 ⊢
        cases hf : facOk 1000000000 F
        · have hR := Lib.hid (show listOk Fs = false by rw [hR0.out]; exact facs_no hFkh.out (by rw [← hni.out, hf]; rfl))
          refine (cF.out _ hF0.out).mono ?_
          rw [hf]
          rintro e w2 ⟨rfl, hb2⟩
          have hB2 := hB0.out.trans (hb2.mono hB0.out.size)
          clear hf hb2
          go_wp2_with fail
          go_ret
          exact ⟨ret_bool hR.out, hB2⟩
        · have hni2 := hni.out
          rw [hf, Bool.true_and] at hni2
          have hni3 := Lib.hid hni2
          refine (cF.out _ hF0.out).mono ?_
          rw [hf]
          rintro e w2 ⟨rfl, hb2⟩
          have hB2 := Lib.hid (hB0.out.trans (hb2.mono hB0.out.size))
          have hF2 := Lib.hid (hF0.out.below hb2)
          have cx := (hbx.out.kept hb2).cell
          clear hf hb2 hni2
          go_wp2_with fail
          cases hq : numsOk 9 F.ns
          · have hR := Lib.hid (show listOk Fs = false by rw [hR0.out]; exact facs_no hFkh.out (by rw [← hni3.out, hq]))
            refine (cN.out _ hF2.out.2).mono ?_
            rw [hq]
            rintro e w3 ⟨rfl, hb3⟩
            have hB3 := hB2.out.trans (hb3.mono hB2.out.size)
            clear hq hb3 cx
            go_wp2_with fail
            go_ret
            exact ⟨ret_bool hR.out, hB3⟩
          · have hR := Lib.hid (show (Fs.take (k + 1)).all (facOk 9) = true by rw [hnx.out, hOk.out, ← hni3.out, hq]; rfl)
            refine (cN.out _ hF2.out.2).mono ?_
            rw [hq]
            rintro e w3 ⟨rfl, hb3⟩
            have hB3 := Lib.hid (hB2.out.trans (hb3.mono hB2.out.size))
            clear hq hb3 cx
            go_wp2_with fail
            go_roundg (n - (k + 1))
            case measure => omega
            case rel => exact ⟨k + 1, by omega, rfl, by go_num, hR.out, hB3.out⟩
      · obtain rfl : k = n := by omega
        have hR := Lib.hid (show listOk Fs = true by rw [hR0.out]; have h1 := hOk.out; rwa [List.take_of_length_le (by omega)] at h1)
        go_wp2_with fail
        go_ret
        exact ⟨ret_bool hR.out, hBh.out⟩
  · have hn8' : (n : Int) > 8 := by omega
    have hR := Lib.hid (show listOk Fs = false by unfold listOk; rw [decide_eq_false (by omega), Bool.false_and])
    go_enter Try.func76, Try.ntmps76
    go_wp2_with fail
    go_ret
    exact ⟨ret_bool hR.out, Below.refl _ _⟩
set_option maxHeartbeats 1000000 in
theorem l8List_any (A : Option Addr) (n c : Nat) (Fs : List Fac) (w : World) (h : FLst w w.heap.size A n Fs) (hn : n ≤ maxLen) (hsm : smallF Fs) :
    Calls Try.prog 75 #[.slice A n c] w fun e w' => e = .returned (.bool (listOk Fs)) ∧ Below w.heap.size w w' := by
  have hI := Lib.hid h
  have hl := h.1
  have hSm := Lib.hid hsm
  unfold maxLen at hn
  clear h hsm
  go_enter Try.func75, Try.ntmps75
  go_wp2_with fail
  go_loopg [3] n (fun gn v wr => ∃ k : Nat, k ≤ n ∧ gn = n - k ∧ v = .int .i64 k ∧ (Fs.take k).all (facOk 9) = true ∧ Below w.heap.size w wr)
  case atStart => exact ⟨0, Nat.zero_le _, rfl, rfl, rfl, Below.refl _ _⟩
  case round =>
    obtain ⟨k, hk, hgn, rfl, hok, hB⟩ := hrel
    have hgk : gk = n - k := hgn
    have hOk := Lib.hid hok
    have hBh := Lib.hid hB
    clear hgn hok
    by_cases hlt : k < n
    · obtain ⟨gl, off, F, B1, m1, e1, B2, m2, e2, rfl, hgl, hFk, cl1, cl2, hFW⟩ := (hI.out.below hB).at_ hlt
      have hk0 : (0 : Int) ≤ (k : Int) := by omega
      have hk1 : (k : Int) < (n : Int) := by omega
      have hz := hB.size
      obtain ⟨hb1, hb2⟩ := hSm.out F (List.mem_of_getElem? hFk)
      have hm1 := hFW.1.1
      have hm2 := hFW.2.1
      have cF := Lib.hid (fun wx hx => l8Factor_any B1 B2 m1 e1 m2 e2 F 9 wx hx (by omega) (by omega))
      have hF0 := Lib.hid (hFW.more hz)
      have hnx := Lib.hid (facs_take (f := facOk 9) hFk)
      have hFkh := Lib.hid hFk
      clear hFW hFk hB
      cases hf : facOk 9 F
      · have hR := Lib.hid (show listOk Fs = false by unfold listOk; rw [facs_no hFkh.out hf, Bool.and_false])
        rw [hf] at cF
        clear hf
        go_wp2_with fail
        refine (cF.out _ hF0.out).mono ?_
        rintro e w2 ⟨rfl, hb2⟩
        have hB2 := hBh.out.trans (hb2.mono hBh.out.size)
        clear hb2
        go_wp2_with fail
        go_ret
        exact ⟨ret_bool hR.out, hB2⟩
      · have hR := Lib.hid (show (Fs.take (k + 1)).all (facOk 9) = true by rw [hnx.out, hOk.out, hf]; rfl)
        rw [hf] at cF
        clear hf
        go_wp2_with fail
        refine (cF.out _ hF0.out).mono ?_
        rintro e w2 ⟨rfl, hb2⟩
        have hB2 := Lib.hid (hBh.out.trans (hb2.mono hBh.out.size))
        clear hb2
        go_wp2_with fail
        go_roundg (n - (k + 1))
        case measure => omega
        case rel => exact ⟨k + 1, by omega, rfl, by go_num, hR.out, hB2.out⟩
    · obtain rfl : k = n := by omega
      have hR := Lib.hid (show listOk Fs = decide ((k : Int) ≤ 8) by
        unfold listOk
        have h1 := hOk.out
        rw [List.take_of_length_le (by omega)] at h1
        rw [h1, Bool.and_true, hl]
        by_cases h8 : k ≤ 8
        · rw [decide_eq_true h8, decide_eq_true (by omega)]
        · rw [decide_eq_false h8, decide_eq_false (by omega)])
      go_wp2_with fail
      go_ret
      exact ⟨ret_bool hR.out, hBh.out⟩
end Go.Proofs.Ytdegfbdoeklhnaa
