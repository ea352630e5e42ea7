/- Parts of the proof: Dn, LJ, LE, MC, MD, ME, MF. -/
import Derived.Test.YtghkpmafocacoaaZAZ
import Derived.Test.YtghkpmafocacoaaZAY
import Derived.Test.YtghkpmafocacoaaZAK
import Derived.Test.YtghkpmafocacoaaZAX
import Derived.BigQuiet
import Derived.Test.YtghkpmafocacoaaZBA
import Derived.Test.YtghkpmafocacoaaZAS
import Derived.Test.YtghkpmafocacoaaZAW
namespace Go.Proofs.Ytghkpmafocacoaa
set_option maxRecDepth 100000
set_option linter.unusedVariables false
open Go.RowKit
theorem gdf_small {Fs : List Fac} (h : ∀ F ∈ Fs, GdF F) : smallF Fs := fun F hF => by
  have := h F hF
  unfold maxLen
  exact ⟨by have := this.1; omega, by have := this.2.1; omega⟩
end Go.Proofs.Ytghkpmafocacoaa

namespace Go.Proofs.Ytghkpmafocacoaa
set_option maxRecDepth 100000
set_option linter.unusedVariables false
open Go.RowKit
theorem lof_nine {Fs : List Fac} (h : listOk Fs = true) : lofTo Fs = ((List.range 81).map fun (i : Nat) => prodAt Fs (i : Int)) ∧ ∀ x ∈ lofTo Fs, 0 ≤ x ∧ x ≤ 43046721 := by
  have h1 : Fs.length ≤ 8 := by
    unfold listOk at h
    rw [Bool.and_eq_true] at h
    exact of_decide_eq_true h.1
  have e : lofTo Fs = ((List.range 81).map fun (i : Nat) => prodAt Fs (i : Int)) := if_pos h
  refine ⟨e, fun x hx => ?_⟩
  rw [e] at hx
  obtain ⟨i, _, rfl⟩ := List.mem_map.1 hx
  have hb := prod_bd (M := 9) (by decide) (list_nine h) (i : Int) Fs.length
  rw [List.take_of_length_le (Nat.le_refl _)] at hb
  have hp : (9 : Int) ^ Fs.length ≤ 43046721 := by
    obtain hk | hk | hk | hk | hk | hk | hk | hk | hk : Fs.length = 0 ∨ Fs.length = 1 ∨ Fs.length = 2 ∨ Fs.length = 3 ∨ Fs.length = 4 ∨ Fs.length = 5 ∨ Fs.length = 6 ∨ Fs.length = 7 ∨ Fs.length = 8 := by omega
    all_goals (rw [hk]; decide)
  exact ⟨hb.1, Int.le_trans hb.2 hp⟩
theorem rsum_ev_le (v x : Int) : ∀ (l : List Int) (k : Nat), (∀ y ∈ l, 0 ≤ y) → 0 ≤ rsum (ev v x) l k ∧ rsum (ev v x) l k ≤ isum l
  | [], _, _ => by simp [rsum, isum]
  | u :: r, k, h => by
    have hu := h u List.mem_cons_self
    have ih := rsum_ev_le v x r (k + 1) fun y hy => h y (List.mem_cons_of_mem _ hy)
    have hb := ev_bd v x (k : Int)
    have h1 := Int.mul_nonneg hu hb.1
    have h2 := Int.mul_le_mul_of_nonneg_left hb.2 hu
    rw [rsum, isum]
    omega
theorem isum_le81 : ∀ (l : List Int), (∀ y ∈ l, 0 ≤ y ∧ y ≤ 43046721) → isum l ≤ l.length * 43046721
  | [], _ => by simp [isum]
  | u :: r, h => by
    have hu := h u List.mem_cons_self
    have ih := isum_le81 r fun y hy => h y (List.mem_cons_of_mem _ hy)
    rw [isum, List.length_cons]
    omega
theorem bel_final {Fs : List Fac} (h : treeOk Fs = true) (v : Fin 4) : ∃ M : List Int, margOf (lofTo Fs) (v.val : Int) = M ∧ M.length = 3 ∧ (∀ x ∈ M, 0 ≤ x) ∧ isum M ≤ 1000000000000000000 ∧ (belR Fs (v.val : Int)).length = 3 ∧
    (0 < isum M → (∀ x ∈ belR Fs (v.val : Int), 0 ≤ x) ∧ 0 < isum (belR Fs (v.val : Int)) ∧ isum (belR Fs (v.val : Int)) ≤ 1000000000000000000 ∧ (isum M ≤ 1000000000 → reduced (belR Fs (v.val : Int)) = reduced M)) := by
  have hlo := (tree_parts h).1
  obtain ⟨he, hb⟩ := lof_nine hlo
  have hac := (tree_fst h).1.acy
  have hF := (tree_fst h).2.1
  have hlen : (lofTo Fs).length = 81 := by rw [he]; simp
  have hsum := isum_le81 (lofTo Fs) hb
  rw [hlen] at hsum
  have hlv : lvOk (lofTo Fs) (v.val : Int) = true := by
    unfold lvOk lstOk numsOk
    rw [Bool.and_eq_true, Bool.and_eq_true]
    refine ⟨⟨decide_eq_true hlen, List.all_eq_true.2 fun x hx => inB_iff.2 ?_⟩, inB_iff.2 (by omega)⟩
    have := hb x hx
    omega
  have hn := fun (x : Nat) (hx : x < 3) => all_nonneg hF hac v hx
  have hbel : belR Fs (v.val : Int) = [IntKind.i64.wrap (allT Fs (gOf Fs) v.val 4 0), IntKind.i64.wrap (allT Fs (gOf Fs) v.val 4 1), IntKind.i64.wrap (allT Fs (gOf Fs) v.val 4 2)] := by
    unfold belR
    rw [if_pos (by rw [h, inB_iff.2 (show (0 : Int) ≤ (v.val : Int) ∧ (v.val : Int) ≤ 3 by omega)]; rfl), Int.toNat_natCast]
  have hm : ∀ x : Nat, x < 3 → rsum (ev (v.val : Int) (x : Int)) (lofTo Fs) 0 = allT Fs (gOf Fs) v.val 4 x * restT Fs (gOf Fs) v.val := fun x hx => by
    rw [he]
    exact marg_at_forest h v hx
  have hr := fun (x : Int) => rsum_ev_le (v.val : Int) x (lofTo Fs) 0 fun y hy => (hb y hy).1
  have m0 := hm 0 (by decide)
  have m1 := hm 1 (by decide)
  have m2 := hm 2 (by decide)
  have r0 := hr ((0 : Nat) : Int)
  have r1 := hr ((1 : Nat) : Int)
  have r2 := hr ((2 : Nat) : Int)
  obtain ⟨n0, nK⟩ := hn 0 (by decide)
  have n1 := (hn 1 (by decide)).1
  have n2 := (hn 2 (by decide)).1
  rw [m0] at r0
  rw [m1] at r1
  rw [m2] at r2
  have hM : margOf (lofTo Fs) (v.val : Int) = [allT Fs (gOf Fs) v.val 4 0 * restT Fs (gOf Fs) v.val, allT Fs (gOf Fs) v.val 4 1 * restT Fs (gOf Fs) v.val, allT Fs (gOf Fs) v.val 4 2 * restT Fs (gOf Fs) v.val] := by
    unfold margOf
    rw [if_pos hlv]
    unfold marg
    rw [← m0, ← m1, ← m2]
    rfl
  rw [hM, hbel]
  generalize allT Fs (gOf Fs) v.val 4 0 = a0 at *
  generalize allT Fs (gOf Fs) v.val 4 1 = a1 at *
  generalize allT Fs (gOf Fs) v.val 4 2 = a2 at *
  generalize restT Fs (gOf Fs) v.val = K at *
  have hS : isum [a0 * K, a1 * K, a2 * K] = (a0 + a1 + a2) * K := by
    simp only [isum]
    rw [Int.add_mul, Int.add_mul]
    omega
  refine ⟨_, rfl, rfl, fun x hx => ?_, by simp only [isum]; omega, rfl, fun hp => ?_⟩
  · simp only [List.mem_cons, List.not_mem_nil, or_false] at hx
    rcases hx with rfl | rfl | rfl
    · exact r0.1
    · exact r1.1
    · exact r2.1
  · have hK : 1 ≤ K := by
      by_cases hz : K = 0
      · rw [hS, hz, Int.mul_zero] at hp
        omega
      · omega
    have l0 := Int.mul_le_mul_of_nonneg_left hK n0
    have l1 := Int.mul_le_mul_of_nonneg_left hK n1
    have l2 := Int.mul_le_mul_of_nonneg_left hK n2
    rw [Int.mul_one] at l0 l1 l2
    have w0 : IntKind.i64.wrap a0 = a0 := by rw [IntKind.wrap_i64]; omega
    have w1 : IntKind.i64.wrap a1 = a1 := by rw [IntKind.wrap_i64]; omega
    have w2 : IntKind.i64.wrap a2 = a2 := by rw [IntKind.wrap_i64]; omega
    rw [w0, w1, w2]
    have hpos : 0 < a0 + a1 + a2 := by
      by_cases hz : a0 + a1 + a2 = 0
      · rw [hS, hz, Int.zero_mul] at hp
        omega
      · omega
    have hnb : ∀ x ∈ [a0, a1, a2], 0 ≤ x := fun x hx => by
      simp only [List.mem_cons, List.not_mem_nil, or_false] at hx
      rcases hx with rfl | rfl | rfl <;> assumption
    refine ⟨hnb, by simp only [isum]; omega, by simp only [isum]; omega, fun hle => ?_⟩
    simp only [isum] at hle
    unfold reduced
    rw [if_pos, if_pos]
    · exact (redL_mul (g := K) (by omega) hnb).symm
    · unfold numsOk
      refine List.all_eq_true.2 fun x hx => inB_iff.2 ?_
      simp only [List.mem_cons, List.not_mem_nil, or_false] at hx
      rcases hx with rfl | rfl | rfl <;> omega
    · unfold numsOk
      refine List.all_eq_true.2 fun x hx => inB_iff.2 ?_
      simp only [List.mem_cons, List.not_mem_nil, or_false] at hx
      rcases hx with rfl | rfl | rfl <;> omega
/-- A drawn list of factors and a number. -/
def DrGV (w : World) (e : Ending) (w' : World) : Prop :=
  ∃ (v : Value) (Fs : List Fac) (vs : List Value) (x : Int), e = .returned (.tuple #[v, .int .i64 x]) ∧ (-1 ≤ x ∧ x ≤ 4) ∧ RowsF w' w.heap.size v Fs vs ∧ Fs.length ≤ 7 ∧ (∀ F ∈ Fs, GdF F) ∧ Below w.heap.size w w'
set_option maxHeartbeats 2000000 in
theorem DrawNextTo_any (A : Option Addr) (n c : Nat) (w : World) (h : Byt w w.heap.size A n) (hn : n ≤ c) (hc : c ≤ maxLen) :
    Calls Try.prog 104 #[.slice A n c] w (DrGV w) := by
  have hO := Lib.hid (l40Open_any A n c _ h hn hc)
  clear h hc
  go_enter Try.func104, Try.ntmps104
  go_wp2_with fail
  refine (hO.out).mono ?_
  rintro e w1 ⟨rfl, ⟨n', hn', hr1⟩, hb1⟩
  have hz1 := hr1.lt
  have kr1 := Lib.hid hr1
  have kb1 := Lib.hid hb1
  clear hr1 hb1
  go_wp2_with fail
  refine (l10Draw_any w.heap.size A n' c 0 w.heap.size w1 kr1.out (by omega) hn' (by omega)).mono ?_
  rintro e w2 ⟨v, Fs, vs, p', rfl, hR, hl, hbd, hp, hr2, hc2⟩
  obtain ⟨Al, cl, rfl, _, _⟩ := hR.form
  have hz2 := hc2.size
  have kN := Lib.hid (show Nums (w2.alloc (.cells #[.int .i64 0, .int .i64 1, .int .i64 2, .int .i64 3, .int .i64 0, .int .i64 1, .int .i64 2, .int .i64 3, .int .i64 4, .int .i64 (-1)] 3)) w2.heap.size 10 (fun x => -1 ≤ x ∧ x ≤ 4) from Nums.of (Has.new w2 3 _) (fun i hi => by
      obtain rfl | rfl | rfl | rfl | rfl | rfl | rfl | rfl | rfl | rfl : i = 0 ∨ i = 1 ∨ i = 2 ∨ i = 3 ∨ i = 4 ∨ i = 5 ∨ i = 6 ∨ i = 7 ∨ i = 8 ∨ i = 9 := by omega
      all_goals exact ⟨_, rfl, by decide⟩))
  have kr2 := Lib.hid (hr2.alloc (by omega) (.cells #[.int .i64 0, .int .i64 1, .int .i64 2, .int .i64 3, .int .i64 0, .int .i64 1, .int .i64 2, .int .i64 3, .int .i64 4, .int .i64 (-1)] 3))
  have kC := Lib.hid (hc2.alloc (.cells #[.int .i64 0, .int .i64 1, .int .i64 2, .int .i64 3, .int .i64 0, .int .i64 1, .int .i64 2, .int .i64 3, .int .i64 4, .int .i64 (-1)] 3))
  have kC1 := Lib.hid ((Chg.refl w2 w.heap.size).alloc (.cells #[.int .i64 0, .int .i64 1, .int .i64 2, .int .i64 3, .int .i64 0, .int .i64 1, .int .i64 2, .int .i64 3, .int .i64 4, .int .i64 (-1)] 3))
  have kR := Lib.hid hR
  have kbd := Lib.hid hbd
  have hRl : w.heap.size < w2.heap.size := by omega
  clear hR hbd hr2 hc2
  go_wp2_with fail
  refine (num_any w.heap.size A n' c p' w.heap.size w2.heap.size 10 _ (fun x => -1 ≤ x ∧ x ≤ 4) _ kr2.out (by omega) hn' (by omega) (by omega) (by simp) (by omega) kN.out).mono ?_
  rintro e w3 ⟨x, rfl, hx, hr3, hc3⟩
  have kC3 := Lib.hid (kC1.out.trans hc3)
  have kR3 := Lib.hid (kR.out.chg kC3.out hz1)
  have kB := Lib.hid (kb1.out.trans ((kC.out.trans hc3).below (B := w.heap.size) (Nat.le_refl _) (by omega)))
  have kR7 := Lib.hid (RowsF.le kR3.out (show w.heap.size ≤ w1.heap.size by omega))
  clear hr3 hc3
  go_wp2_with fail
  go_ret2
  exact ⟨_, Fs, vs, x, rfl, hx, by exact kR7.out, by omega, kbd.out, kB.out⟩
theorem DrawBeliefOf_any (A : Option Addr) (n c : Nat) (w : World) (h : Byt w w.heap.size A n) (hn : n ≤ c) (hc : c ≤ maxLen) :
    Calls Try.prog 50 #[.slice A n c] w (DrGV w) := by
  have hT := Lib.hid (DrawNextTo_any A n c w h hn hc)
  clear h hc
  go_enter Try.func50, Try.ntmps50
  go_wp2_with fail
  refine (hT.out).mono ?_
  rintro e w1 ⟨v, Fs, vs, x, rfl, hx, hR, hl, hg, hb⟩
  have hF := Lib.hid (show DrGV w (.returned (.tuple #[v, .int .i64 x])) w1 from ⟨v, Fs, vs, x, rfl, hx, hR, hl, hg, hb⟩)
  obtain ⟨A2, c2, hv2, _, _⟩ := hR.form
  subst hv2
  clear hR hg hb hx
  go_wp2_with fail
  go_ret2
  exact hF.out
end Go.Proofs.Ytghkpmafocacoaa

namespace Go.Proofs.Ytghkpmafocacoaa
set_option maxRecDepth 100000
set_option linter.unusedVariables false
open Go.RowKit
theorem Rws.frm {w : World} {base : Nat} {v : Value} {ds : List Int} (h : Rws w base v ds) : ∃ A c, v = .slice A ds.length c ∧ Ils w w.heap.size A ds.length ds := by
  rcases h with ⟨rfl, rfl⟩ | ⟨g, off, T, cs, rfl, hg, hh, hc⟩
  · exact ⟨none, 0, rfl, rfl, fun h0 => by simp at h0⟩
  · exact ⟨_, _, rfl, rfl, fun _ => ⟨g, off, rfl, Has.lt hh, fun k d hk => (Has.cell hh _).trans (hc k d hk)⟩⟩
theorem wsum_take {ds : List Int} {k : Nat} {d : Int} (h : ds[k]? = some d) : wsum (ds.take (k + 1)) = IntKind.i64.wrap (wsum (ds.take k) + d) := by
  obtain ⟨hl, he⟩ := List.getElem?_eq_some_iff.1 h
  unfold wsum
  rw [List.take_succ_eq_append_getElem hl, List.foldl_append, he]
  rfl
theorem wcSum_w (A : Option Addr) (n c : Nat) (ds : List Int) (w : World) (h : Ils w w.heap.size A n ds) (hn : n ≤ maxLen) :
    Calls Try.prog 42 #[.slice A n c] w fun e w' => e = .returned (.int .i64 (wsum ds)) ∧ w = w' := by
  have hI := Lib.hid h
  have hl := Lib.hid h.1
  unfold maxLen at hn
  clear h
  go_enter Try.func42, Try.ntmps42
  go_wp2
  go_loopg [3, 8] n (fun gn s i wr => ∃ k : Nat, k ≤ n ∧ gn = n - k ∧ i = .int .i64 k ∧ s = .int .i64 (wsum (ds.take k)) ∧ wr = w)
  case atStart => exact ⟨0, Nat.zero_le _, rfl, rfl, rfl, rfl⟩
  case round =>
    obtain ⟨k, hk, hgn, rfl, rfl, rfl⟩ := hrel
    have hgk : gk = n - k := hgn
    clear hgn
    by_cases hlt : k < n
    · obtain ⟨g, off, d, rfl, hg, hd, cd⟩ := hI.out.at_ hlt
      have hk0 : (0 : Int) ≤ (k : Int) := by omega
      have hk1 : (k : Int) < (n : Int) := by omega
      have hs := Lib.hid (wsum_take hd)
      clear hd
      generalize wsum (ds.take k) = s at *
      go_wp2_with fail
      go_roundg (n - (k + 1))
      case measure => omega
      case rel => exact ⟨k + 1, by omega, rfl, by go_num, by rw [hs.out, IntWalk.i64_left], rfl⟩
    · obtain rfl : k = n := by omega
      have hf := Lib.hid (show wsum (ds.take k) = wsum ds by rw [List.take_of_length_le (by rw [hl.out]; exact Nat.le_refl _)])
      go_wp2_with fail
      go_ret
      exact ⟨ret_int hf.out.symm, rfl⟩
end Go.Proofs.Ytghkpmafocacoaa

namespace Go.Proofs.Ytghkpmafocacoaa
set_option maxRecDepth 100000
set_option linter.unusedVariables false
open Go.RowKit
theorem lens_take {Fs : List Fac} {k : Nat} {F : Fac} (h : Fs[k]? = some F) : (Fs.take (k + 1)).all lenOk = ((Fs.take k).all lenOk && lenOk F) := facs_take h
theorem tree_len {Fs : List Fac} (hl : listOk Fs = true) : treeOk Fs = (Fs.all lenOk && (prG (prsL Fs)).isSome) := by
  unfold treeOk
  rw [hl, Bool.true_and]
  cases hq : Fs.all lenOk
  · rw [Bool.false_and]
    have : grL Fs = none := grL_bad Fs _ hq
    rw [this]
    rfl
  · rw [grL_sets (list_nine hl) hq, Bool.true_and]
set_option maxHeartbeats 2000000 in
theorem specTreeOk_any (A : Option Addr) (n c : Nat) (Fs : List Fac) (w : World) (h : FLst w w.heap.size A n Fs) (hn : n ≤ maxLen) (hsm : smallF Fs) :
    Calls Try.prog 93 #[.slice A n c] w fun e w' => e = .returned (.bool (treeOk Fs)) ∧ Below w.heap.size w w' := by
  have cL := Lib.hid (fun wx hx => l8List_any A n c Fs wx hx hn hsm)
  have hI := Lib.hid h
  have hl := h.1
  have hn63 : n ≤ 9223372036854775807 := by unfold maxLen at hn; omega
  have cI := Lib.hid (fun (x : Int) wx => l1In_any x 1 2 wx)
  clear h hn
  go_enter Try.func93, Try.ntmps93
  go_wp2_with fail
  refine (cL.out w hI.out).mono ?_
  rintro e w1 ⟨rfl, hb1⟩
  have hB1 := Lib.hid hb1
  have hI1 := Lib.hid ((hI.out.below hb1).more hb1.size)
  clear hb1
  cases hlo : listOk Fs
  · have hR := Lib.hid (show treeOk Fs = false by unfold treeOk; rw [hlo]; rfl)
    clear hlo
    go_wp2_with fail
    go_ret
    exact ⟨ret_bool hR.out, hB1.out⟩
  have hRR := Lib.hid (tree_len hlo)
  have h8 : n ≤ 8 := by
    unfold listOk at hlo
    rw [Bool.and_eq_true, decide_eq_true_eq] at hlo
    omega
  have cT := Lib.hid (fun wx hx => l10Trees_any A n c Fs wx hx (by omega) (list_nine hlo))
  clear hlo
  go_wp2_with fail
  go_loopg [3] n (fun gn i wr => ∃ k : Nat, k ≤ n ∧ gn = n - k ∧ i = .int .i64 k ∧ (Fs.take k).all lenOk = true ∧ wr = w1)
  case atStart => exact ⟨0, Nat.zero_le _, rfl, rfl, rfl, rfl⟩
  case round =>
    obtain ⟨k, hk, hgn, rfl, hA, rfl⟩ := hrel
    have hgk : gk = n - k := hgn
    have hAh := Lib.hid hA
    clear hgn hA
    by_cases hlt : k < n
    · obtain ⟨gl, off, F, B1, m1, e1, B2, m2, e2, rfl, hgl, hFk, cl1, cl2, hFW⟩ := hI1.out.at_ hlt
      have hk0 : (0 : Int) ≤ (k : Int) := by omega
      have hk1 : (k : Int) < (n : Int) := by omega
      have hm1 := hFW.1.1
      have hlk := Lib.hid (show lenOk F = inB (m1 : Int) 1 2 by unfold lenOk; rw [hm1])
      have hnx := Lib.hid (lens_take hFk)
      have hFkh := Lib.hid hFk
      clear hFk hFW hm1
      cases hq : inB (m1 : Int) 1 2
      · have hno := Lib.hid (show treeOk Fs = false by rw [hRR.out, facs_no (f := lenOk) hFkh.out (by rw [hlk.out, hq])]; rfl)
        have cIk := Lib.hid (fun wx => cI.out (m1 : Int) wx)
        rw [hq] at cIk
        clear hq
        go_wp2_with (go_at_call 65; refine (cIk.out _).mono ?_; rintro e w' ⟨rfl, rfl⟩)
        go_ret
        exact ⟨ret_bool hno.out, hB1.out⟩
      · have hA2 := Lib.hid (show (Fs.take (k + 1)).all lenOk = true by rw [hnx.out, hAh.out, hlk.out, hq]; rfl)
        have cIk := Lib.hid (fun wx => cI.out (m1 : Int) wx)
        rw [hq] at cIk
        clear hq
        go_wp2_with (go_at_call 65; refine (cIk.out _).mono ?_; rintro e w' ⟨rfl, rfl⟩)
        go_roundg (n - (k + 1))
        case measure => omega
        case rel => exact ⟨k + 1, by omega, rfl, by go_num, hA2.out, rfl⟩
    · obtain rfl : k = n := by omega
      have hfull : Fs.take k = Fs := List.take_of_length_le (by omega)
      have hR := Lib.hid (show treeOk Fs = (prG (prsL Fs)).isSome by rw [hRR.out, ← hfull, hAh.out, Bool.true_and])
      clear hfull
      go_wp2_with fail
      refine (cT.out _ hI1.out).mono ?_
      rintro e w5 ⟨v, ds, rfl, _, _, hb5⟩
      have hB5 := Lib.hid (hB1.out.trans (hb5.mono hB1.out.size))
      clear hb5
      obtain ⟨bb, hbb⟩ : ∃ bb, (prG (prsL Fs)).isSome = bb := ⟨_, rfl⟩
      rw [hbb] at hR ⊢
      clear hbb
      go_wp2_with fail
      go_ret
      exact ⟨ret_bool hR.out, hB5.out⟩
theorem tree_pr {Fs : List Fac} (h : treeOk Fs = true) : prG (prsL Fs) = some (gOf Fs) := by
  obtain ⟨h1, h2⟩ := tree_parts h
  have h3 := tree_len h1
  rw [h] at h3
  have h4 : Fs.all lenOk = true := by
    cases hq : Fs.all lenOk
    · rw [hq] at h3; cases h3
    · rfl
  rw [← grL_sets (list_nine h1) h4]
  exact h2
end Go.Proofs.Ytghkpmafocacoaa

namespace Go.Proofs.Ytghkpmafocacoaa
set_option maxRecDepth 100000
set_option linter.unusedVariables false
open Go.RowKit
def nxS (ss : List Int) (v : Nat) : Int := ss.foldl (fun s p => if tb p v = true then bor s (bdf p (bitN (v : Int))) else s) 0
theorem nxS_take {ss : List Int} {k : Nat} {p : Int} (h : ss[k]? = some p) (v : Nat) : nxS (ss.take (k + 1)) v = if tb p v = true then bor (nxS (ss.take k) v) (bdf p (bitN (v : Int))) else nxS (ss.take k) v := by
  obtain ⟨hl, he⟩ := List.getElem?_eq_some_iff.1 h
  unfold nxS
  rw [List.take_succ_eq_append_getElem hl, List.foldl_append, he]
  rfl
theorem nxS_put (g : Gr) : ∀ a b v : Fin 4, a ≠ b → (if tb (((2 ^ a.val + 2 ^ b.val : Nat) : Int)) v.val = true then bor (g.nx v.val : Int) (bdf ((2 ^ a.val + 2 ^ b.val : Nat) : Int) (bitN (v.val : Int))) else (g.nx v.val : Int)) = ((g.put a.val b.val).nx v.val : Int) :=
  gr_all (P := fun g => ∀ a b v : Fin 4, a ≠ b → (if tb (((2 ^ a.val + 2 ^ b.val : Nat) : Int)) v.val = true then bor (g.nx v.val : Int) (bdf ((2 ^ a.val + 2 ^ b.val : Nat) : Int) (bitN (v.val : Int))) else (g.nx v.val : Int)) = ((g.put a.val b.val).nx v.val : Int)) (by decide +kernel) g
theorem over_two : ∀ L : Fin 16, ∀ a b : Fin 4, over (L.val : Int) = [(a.val : Int), (b.val : Int)] → L.val = 2 ^ a.val + 2 ^ b.val := by decide +kernel
/-- Sets of pairs. -/
def PrS (ss : List Int) : Prop := ∀ s ∈ ss, (0 ≤ s ∧ s ≤ 15) ∧ ∃ a b : Fin 4, a ≠ b ∧ over s = [(a.val : Int), (b.val : Int)] ∧ sa s = a.val ∧ sb s = b.val
theorem prsL_PrS {Fs : List Fac} (h : ∀ F ∈ Fs, facOk 9 F = true) : PrS (prsL Fs) := fun s hs => by
  obtain ⟨h1, F, _, _, _, a, b, h2, h3, h4, h5⟩ := prsL_mem h hs
  exact ⟨h1, a, b, h2, h3, h4, h5⟩
theorem nxS_eq {ss : List Int} (h : PrS ss) : ∀ (k : Nat) {g : Gr}, prG (ss.take k) = some g → ∀ v, v ≤ 3 → nxS (ss.take k) v = (g.nx v : Int)
  | 0, g, hg, v, hv => by
    have : Gr.none_ = g := Option.some.inj (by simpa [prG] using hg)
    subst this
    rw [(none_ok.2.2 ⟨v, by omega⟩).2]
    rfl
  | k + 1, g, hg, v, hv => by
    cases hk : ss[k]? with
    | none =>
      have hl := List.getElem?_eq_none_iff.1 hk
      rw [List.take_of_length_le (by omega)] at hg ⊢
      have := nxS_eq h k (g := g) (by rw [List.take_of_length_le (by omega)]; exact hg) v hv
      rwa [List.take_of_length_le (by omega)] at this
    | some s =>
      rw [prG_take hk] at hg
      cases hq : prG (ss.take k) with
      | none => rw [hq] at hg; cases hg
      | some g0 =>
        rw [hq] at hg
        have ih := nxS_eq h k hq v hv
        have hg' : addS g0 s = some g := hg
        obtain ⟨hs, a, b, hab, ho, e1, e2⟩ := h s (List.mem_of_getElem? hk)
        unfold addS at hg'
        rw [e1, e2] at hg'
        by_cases hr : g0.root a.val = g0.root b.val
        · rw [if_pos hr] at hg'; cases hg'
        · rw [if_neg hr] at hg'
          obtain rfl := Option.some.inj hg'
          obtain ⟨L, rfl⟩ := fin16 hs
          have hL := over_two L a b ho
          rw [nxS_take hk, ih]
          have := nxS_put g0 a b ⟨v, by omega⟩ hab
          rw [← hL] at this
          exact this
theorem nxS_bd {ss : List Int} (h : PrS ss) (v : Nat) : ∀ k, 0 ≤ nxS (ss.take k) v ∧ nxS (ss.take k) v ≤ 15
  | 0 => by simp [nxS]
  | k + 1 => by
    have ih := nxS_bd h v k
    cases hk : ss[k]? with
    | none =>
      have hl := List.getElem?_eq_none_iff.1 hk
      rw [List.take_of_length_le (by omega)] at ih ⊢
      exact ih
    | some s =>
      rw [nxS_take hk]
      split
      · have hs := (h s (List.mem_of_getElem? hk)).1
        refine bor_bd ih.2 ?_
        obtain ⟨L, rfl⟩ := fin16 hs
        have hb := bitN_bd (v : Int)
        obtain ⟨M, hM⟩ := fin16 (L := bitN (v : Int)) (by omega)
        rw [hM]
        have hall : ∀ a b : Fin 16, bdf (a.val : Int) (b.val : Int) ≤ 15 := by decide +kernel
        exact hall L M
      · exact ih
theorem bitN_nat2 {a : Nat} (ha : a ≤ 3) : bitN (a : Int) = 2 ^ a := by
  obtain rfl | rfl | rfl | rfl : a = 0 ∨ a = 1 ∨ a = 2 ∨ a = 3 := by omega
  all_goals rfl
theorem wrap_two {a : Nat} (ha : a ≤ 3) : IntKind.i64.wrap (2 ^ a) = 2 ^ a := by
  obtain rfl | rfl | rfl | rfl : a = 0 ∨ a = 1 ∨ a = 2 ∨ a = 3 := by omega
  all_goals decide
theorem shr_tb {L : Int} (hL : 0 ≤ L ∧ L ≤ 15) {k : Nat} (hk : k ≤ 3) : ((L / 2 ^ k).tmod 2 == 1) = tb L k := shr1_tbF hL hk
set_option maxHeartbeats 1000000 in
theorem l10Next_any (A : Option Addr) (n c : Nat) (Fs : List Fac) (v : Nat) (w : World) (h : FLst w w.heap.size A n Fs) (hn : n ≤ 1000) (hF : ∀ F ∈ Fs, facOk 9 F = true) (hv : v ≤ 3) :
    Calls Try.prog 95 #[.slice A n c, .int .i64 (v : Int)] w (Wtsd w (over (nxS (prsL Fs) v))) := by
  have cP := Lib.hid (fun wx hx => l10Pairs_any A n c Fs wx hx hn hF)
  have hPS := Lib.hid (prsL_PrS hF)
  have hI := Lib.hid h
  have hlen := Lib.hid (show (prsL Fs).length ≤ 1000 from by
    have h1 := prsL_len Fs n
    rw [List.take_of_length_le (by have := h.1; omega)] at h1
    omega)
  have hv0 : (0 : Int) ≤ (v : Int) := by omega
  have hv64 : (v : Int) ≤ 64 := by omega
  have hsw := wrap_two hv
  clear h hF
  go_enter Try.func95, Try.ntmps95
  go_wp2_with fail
  refine (cP.out w hI.out).mono ?_
  rintro e w1 ⟨vp, rfl, hvp, hb1⟩
  obtain ⟨Ap, cp, hvf, _, _⟩ := IOwn.form hvp
  subst hvf
  have hPr := Lib.hid (IOwn.lst hvp)
  have hB1 := Lib.hid hb1
  have hls := hlen.out
  clear hvp hb1 cP hlen
  generalize prsL Fs = ss at *
  go_wp2_with fail
  go_loopg [6, 7] ss.length (fun gn s i wr => ∃ k : Nat, k ≤ ss.length ∧ gn = ss.length - k ∧ i = .int .i64 k ∧ s = .int .i64 (nxS (ss.take k) v) ∧ Below w.heap.size w wr ∧ Ils wr wr.heap.size Ap ss.length ss)
  case atStart => exact ⟨0, Nat.zero_le _, rfl, rfl, rfl, hB1.out, hPr.out⟩
  case round =>
    obtain ⟨k, hk, hgn, rfl, rfl, hB, hP⟩ := hrel
    have hgk : gk = ss.length - k := hgn
    have hBk := Lib.hid hB
    have hPk := Lib.hid hP
    clear hgn hB hP hB1 hPr
    by_cases hlt : k < ss.length
    · obtain ⟨gp, op, s, rfl, hgl, hs, cs⟩ := hPk.out.at_ hlt
      have hk0 : (0 : Int) ≤ (k : Int) := by omega
      have hk1 : (k : Int) < (ss.length : Int) := by omega
      have hs15 := (hPS.out s (List.mem_of_getElem? hs)).1
      have hsh := shr_tb hs15 hv
      have hnx := Lib.hid (nxS_take hs v)
      have hbd := nxS_bd hPS.out v k
      cases ht : tb s v
      · rw [ht] at hsh
        have hR := Lib.hid (show nxS (ss.take (k + 1)) v = nxS (ss.take k) v by rw [hnx.out, ht]; rfl)
        clear ht hs
        go_wp2_with fail
        go_roundg (ss.length - (k + 1))
        case measure => omega
        case rel => exact ⟨k + 1, by omega, rfl, by go_num, by rw [hR.out], hBk.out, hPk.out⟩
      · rw [ht] at hsh
        have hbv := bitN_nat2 hv
        have hb15 := bitN_bd (v : Int)
        have hdf := bits_diff (a := s) (b := bitN (v : Int)) hs15 (by omega)
        have hd15 : 0 ≤ bdf s (bitN (v : Int)) ∧ bdf s (bitN (v : Int)) ≤ 15 := by
          obtain ⟨L, rfl⟩ := fin16 hs15
          obtain ⟨M, hM⟩ := fin16 (L := bitN (v : Int)) (by omega)
          rw [hM]
          have hall : ∀ a b : Fin 16, 0 ≤ bdf (a.val : Int) (b.val : Int) ∧ bdf (a.val : Int) (b.val : Int) ≤ 15 := by decide +kernel
          exact hall L M
        have hor := bits_or hbd hd15
        have hR := Lib.hid (show nxS (ss.take (k + 1)) v = bor (nxS (ss.take k) v) (bdf s (bitN (v : Int))) by rw [hnx.out, ht]; rfl)
        rw [hbv] at hdf hor hR
        clear ht hs hb15 hd15 hbv
        generalize nxS (ss.take k) v = t at *
        go_wp2_with fail
        go_still_tail 9, (by kernel_rfl)
        repeat still_step
        try (refine wpStill_nil ?_)
        try (change wpList _ _ _ _ _ (World.drew _))
        go_wp2_with fail
        go_roundg (ss.length - (k + 1))
        case measure => omega
        case rel => exact ⟨k + 1, by omega, rfl, by go_num, by rw [hR.out], hBk.out.drew, hPk.out⟩
    · obtain rfl : k = ss.length := by omega
      have hfull : ss.take ss.length = ss := List.take_of_length_le (Nat.le_refl _)
      have hbd := nxS_bd hPS.out v ss.length
      rw [hfull] at hbd ⊢
      have cV := Lib.hid (fun wx => l8Over_any (nxS ss v) wx hbd)
      obtain ⟨L, hL⟩ : ∃ L, nxS ss v = L := ⟨_, rfl⟩
      rw [hL] at cV ⊢
      have hLh := Lib.hid hL
      clear hfull hbd hL
      go_wp2_with fail
      refine (cV.out _).mono ?_
      rintro e w5 ⟨v5, rfl, hv5, hb5⟩
      have hB5 := Lib.hid (hBk.out.trans (hb5.mono hBk.out.size))
      have hvh := Lib.hid (owns_le hv5 hBk.out.size)
      clear hb5 hv5
      go_wp2_with fail
      go_ret
      rw [hLh.out]
      exact ⟨_, rfl, hvh.out, hB5.out⟩
set_option maxHeartbeats 1000000 in
theorem specNextTo_any (A : Option Addr) (n c : Nat) (Fs : List Fac) (v : Int) (w : World) (h : FLst w w.heap.size A n Fs) (hn : n ≤ maxLen) (hsm : smallF Fs) :
    Calls Try.prog 55 #[.slice A n c, .int .i64 v] w (Wtsd w (nextL Fs v)) := by
  have cO := Lib.hid (fun wx hx => specTreeOk_any A n c Fs wx hx hn hsm)
  have cV := Lib.hid (fun wx => l1Var_any v wx)
  have hI := Lib.hid h
  have hl := h.1
  clear h
  go_enter Try.func55, Try.ntmps55
  go_wp2_with fail
  refine (cO.out w hI.out).mono ?_
  rintro e w1 ⟨rfl, hb1⟩
  have hB1 := Lib.hid hb1
  have hI1 := Lib.hid ((hI.out.below hb1).more hb1.size)
  clear hb1
  cases htt : treeOk Fs
  · have htth := Lib.hid htt
    clear htt
    go_wp2_with fail
    go_ret
    rw [show nextL Fs v = [] by unfold nextL; rw [htth.out]; rfl]
    exact ⟨_, rfl, IOwn.nil _ _, hB1.out⟩
  have h1 := (tree_parts htt).1
  have h8 : n ≤ 8 := by
    unfold listOk at h1
    rw [Bool.and_eq_true, decide_eq_true_eq] at h1
    omega
  have htth := Lib.hid htt
  cases hv : inB v 0 3
  · have hvh := Lib.hid hv
    rw [hv] at cV
    clear hv htt h1
    go_wp2_with (go_at_call 66; refine (cV.out _).mono ?_; rintro e w' ⟨rfl, rfl⟩)
    go_ret
    rw [show nextL Fs v = [] by unfold nextL nxI; rw [htth.out, hvh.out, if_pos rfl, if_neg (by decide)]; decide]
    exact ⟨_, rfl, IOwn.nil _ _, hB1.out⟩
  · have hvb := inB_iff.1 hv
    obtain ⟨k, rfl, hk⟩ := nat4 hvb.1 hvb.2
    have hvh := Lib.hid hv
    rw [hv] at cV
    have hk3 : k ≤ 3 := by omega
    have cN := Lib.hid (fun wx hx => l10Next_any A n c Fs k wx hx (by omega) (list_nine h1) hk3)
    have hpr := tree_pr htt
    have hR := Lib.hid (show nextL Fs (k : Int) = over (nxS (prsL Fs) k) by
      have h2 := nxS_eq (prsL_PrS (list_nine h1)) (prsL Fs).length (g := gOf Fs) (by rw [List.take_of_length_le (Nat.le_refl _)]; exact hpr) k hk3
      rw [List.take_of_length_le (Nat.le_refl _)] at h2
      unfold nextL nxI
      rw [htt, if_pos rfl, hv, if_pos rfl, h2, Int.toNat_natCast])
    clear hv htt h1 hvb hpr
    generalize over (nxS (prsL Fs) k) = os at hR cN
    go_wp2_with (first
      | (go_at_call 66; refine (cV.out _).mono ?_; rintro e w' ⟨rfl, rfl⟩)
      | (go_at_call 95; refine (cN.out _ hI1.out).mono ?_; rintro e w5 ⟨v5, rfl, hv5, hb5⟩; have hB5 := Lib.hid (hB1.out.trans (hb5.mono hB1.out.size)); have hvo := Lib.hid (owns_le hv5 hB1.out.size); clear hb5 hv5))
    go_ret
    rw [hR.out]
    exact ⟨_, rfl, hvo.out, hB5.out⟩
end Go.Proofs.Ytghkpmafocacoaa

namespace Go.Proofs.Ytghkpmafocacoaa
set_option maxRecDepth 100000
set_option linter.unusedVariables false
open Go.RowKit
def row3 (f : Nat → Int) : List Int := [f 0, f 1, f 2]
theorem row3_at (f : Nat → Int) {v : Nat} (hv : v ≤ 2) : (row3 f)[v]? = some (f v) := by
  obtain rfl | rfl | rfl : v = 0 ∨ v = 1 ∨ v = 2 := by omega
  all_goals rfl
theorem row3_set (f : Nat → Int) {v : Nat} (hv : v ≤ 2) (x : Int) : (row3 f).set v x = row3 (fun u => if u = v then x else f u) := by
  obtain rfl | rfl | rfl : v = 0 ∨ v = 1 ∨ v = 2 := by omega
  all_goals rfl
theorem row3_congr {f h : Nat → Int} (e : ∀ v, v ≤ 2 → f v = h v) : row3 f = row3 h := by
  unfold row3
  rw [e 0 (by decide), e 1 (by decide), e 2 (by decide)]
set_option maxHeartbeats 2000000 in
theorem l10Own_any (A : Option Addr) (n c : Nat) (Fs : List Fac) (v : Nat) (w : World) (h : FLst w w.heap.size A n Fs) (hl8 : listOk Fs = true) (hv : v ≤ 3) :
    Calls Try.prog 106 #[.slice A n c, .int .i64 (v : Int)] w fun e w' => ∃ g c', e = .returned (.slice (some ⟨g, 0, none⟩) 3 c') ∧ IOwn w' w.heap.size (.slice (some ⟨g, 0, none⟩) 3 c') (row3 fun x => ownL Fs v x) ∧ Below w.heap.size w w' := by
  have hI := Lib.hid h
  have hl := h.1
  have hn8 : n ≤ 8 := by
    unfold listOk at hl8
    rw [Bool.and_eq_true, decide_eq_true_eq] at hl8
    omega
  have hok := Lib.hid (list_nine hl8)
  have hbd := Lib.hid (fun k x => ownL_small hl8 v x k)
  have hv0 : (0 : Int) ≤ (v : Int) := by omega
  have hN := Lib.hid (show IOwn (w.alloc (.cells #[.int .i64 1, .int .i64 1, .int .i64 1] 3)) w.heap.size (.slice (some ⟨w.heap.size, 0, none⟩) 3 3) (row3 fun x => ownL (Fs.take 0) v x) from
    IOwn.of_has (Has.new w _ _) rfl rfl (Nat.le_refl _) (by unfold maxLen; omega))
  have hB0 := Lib.hid (show Below w.heap.size w (w.alloc (.cells #[.int .i64 1, .int .i64 1, .int .i64 1] 3)) from (Below.refl _ _).alloc (Nat.le_refl _) _)
  clear h hl8
  go_enter Try.func106, Try.ntmps106
  go_wp2_with fail
  generalize w.alloc (.cells #[.int .i64 1, .int .i64 1, .int .i64 1] 3) = W1 at hN hB0 ⊢
  obtain ⟨G, hG⟩ : ∃ G, w.heap.size = G := ⟨_, rfl⟩
  have hGh := Lib.hid hG
  rw [hG] at hN ⊢
  clear hG
  go_loopg [6] n (fun gn i wr => ∃ k : Nat, k ≤ n ∧ gn = n - k ∧ i = .int .i64 k ∧ IOwn wr G (.slice (some ⟨G, 0, none⟩) 3 3) (row3 fun x => ownL (Fs.take k) v x) ∧ Below w.heap.size w wr)
  case atStart => exact ⟨0, Nat.zero_le _, rfl, rfl, hN.out, hB0.out⟩
  case round =>
    obtain ⟨k, hk, hgn, rfl, hO, hB⟩ := hrel
    have hgk : gk = n - k := hgn
    have hOk := Lib.hid hO
    have hBk := Lib.hid hB
    clear hgn hO hB hN hB0
    by_cases hlt : k < n
    · obtain ⟨gl, off, F, B1, m1, e1, B2, m2, e2, rfl, hgl, hFk, dl1, dl2, hFW⟩ := hI.out.at_ hlt
      have hc1 := Lib.hid (fun wx (hx : Below w.heap.size w wx) => (hx.cell (p := ⟨gl, off + k * 2, none⟩) hgl).trans dl1)
      have hc2 := Lib.hid (fun wx (hx : Below w.heap.size w wx) => (hx.cell (p := ⟨gl, off + k * 2 + 1, none⟩) hgl).trans dl2)
      have cl1 := hc1.out wr hBk.out
      have cl2 := hc2.out wr hBk.out
      have hk0 : (0 : Int) ≤ (k : Int) := by omega
      have hk1 : (k : Int) < (n : Int) := by omega
      have hFo := hok.out F (List.mem_of_getElem? hFk)
      have hst := Lib.hid (fun x => ownL_take hFk v x)
      obtain ⟨q1, q2, q3, q4, q5⟩ := fac_parts hFo
      have hm1 := hFW.1.1
      have hm2 := hFW.2.1
      have hm4 : m1 ≤ 4 := by omega
      clear dl1 dl2
      by_cases h1 : m1 = 1
      · subst h1
        obtain ⟨a, ha⟩ := one_var hFo hm1
        have hn2 : m2 = 3 := by rw [← hm2, q3, hm1]
        subst hn2
        obtain ⟨gv, ov, d, rfl, hgv, hd, dv⟩ := hFW.1.at_ (k := 0) (by decide)
        have hda : d = (a.val : Int) := by rw [ha] at hd; exact (Option.some.inj hd).symm
        subst hda
        rw [Nat.add_zero] at dv
        have cv := (hBk.out.cell (p := ⟨gv, ov, none⟩) hgv).trans dv
        have hnum := Lib.hid (fun x => numsOk_getD (M := 9) (by decide) q2 x)
        have hW2 := Lib.hid hFW.2
        obtain ⟨a, ha4⟩ := a
        simp only at cv ha
        have hae := Lib.hid ha
        clear hFk hFo q1 q2 q3 q4 q5 hm1 hm2 hFW ha hd dv
        by_cases hav : a = v
        · subst hav
          have hst1 := Lib.hid (fun x => (show ownL (Fs.take (k + 1)) a x = ownL (Fs.take k) a x * F.ns.getD x 0 from by rw [hst.out x, if_pos hae.out]))
          go_wp2_with fail
          obtain ⟨k0, rfl⟩ : ∃ q, q = k := ⟨_, rfl⟩
          obtain ⟨w3, rfl⟩ : ∃ q : World, q = wr := ⟨_, rfl⟩
          obtain ⟨g3, rfl⟩ : ∃ q, q = gk := ⟨_, rfl⟩
          clear cv cl1 cl2
          go_loopg [7] 3 (fun gn i wr => ∃ j : Nat, j ≤ 3 ∧ gn = 3 - j ∧ i = .int .i64 j ∧ IOwn wr G (.slice (some ⟨G, 0, none⟩) 3 3) (row3 fun x => if x < j then ownL (Fs.take (k0 + 1)) a x else ownL (Fs.take k0) a x) ∧ Below w.heap.size w wr)
          case atStart => exact ⟨0, by omega, rfl, rfl, hOk.out, hBk.out⟩
          case round =>
            obtain ⟨j, hj, hgn, rfl, hO, hB⟩ := hrel
            have hgj : gk = 3 - j := hgn
            have hOj := Lib.hid hO
            have hBj := Lib.hid hB
            clear hgn hO hB hOk hBk
            by_cases hlj : j < 3
            · have hj0 : (0 : Int) ≤ (j : Int) := by omega
              have hj3 : (j : Int) < 3 := by omega
              have cl1 := hc1.out wr hBj.out
              have cl2 := hc2.out wr hBj.out
              obtain ⟨g2, o2, d2, rfl, hg2, hd2, dn⟩ := hW2.out.at_ hlj
              have cn := (hBj.out.cell (p := ⟨g2, o2 + j, none⟩) hg2).trans dn
              obtain ⟨co, fo, _⟩ := iown_cell (ds := row3 fun x => if x < j then ownL (Fs.take (k0 + 1)) a x else ownL (Fs.take k0) a x) hOj.out (row3_at _ (v := j) (by omega))
              rw [if_neg (show ¬ j < j by omega)] at co
              have hz1 := hbd.out k0 j
              have hz2 := hnum.out j
              rw [List.getD_eq_getElem?_getD, hd2] at hz2
              have hz3 : 0 ≤ d2 ∧ d2 ≤ 9 := hz2
              have hnxt := Lib.hid (show ownL (Fs.take (k0 + 1)) a j = ownL (Fs.take k0) a j * d2 from by rw [hst1.out j, List.getD_eq_getElem?_getD, hd2]; rfl)
              have hN := Lib.hid (show IOwn (wr.setCell ⟨G, j, none⟩ (.int .i64 (ownL (Fs.take k0) a j * d2))) G (.slice (some ⟨G, 0, none⟩) 3 3) (row3 fun x => if x < j + 1 then ownL (Fs.take (k0 + 1)) a x else ownL (Fs.take k0) a x) from by
                have h1 := iown_set (ds := row3 fun x => if x < j then ownL (Fs.take (k0 + 1)) a x else ownL (Fs.take k0) a x) hOj.out (show j < 3 from hlj) (ownL (Fs.take k0) a j * d2)
                rw [row3_set _ (by omega)] at h1
                have e := row3_congr (f := fun u => if u = j then ownL (Fs.take k0) a j * d2 else if u < j then ownL (Fs.take (k0 + 1)) a u else ownL (Fs.take k0) a u) (h := fun x => if x < j + 1 then ownL (Fs.take (k0 + 1)) a x else ownL (Fs.take k0) a x) (fun u hu => by
                  show (if u = j then ownL (Fs.take k0) a j * d2 else if u < j then ownL (Fs.take (k0 + 1)) a u else ownL (Fs.take k0) a u) = if u < j + 1 then ownL (Fs.take (k0 + 1)) a u else ownL (Fs.take k0) a u
                  by_cases e : u = j
                  · rw [if_pos e, if_pos (by omega), e, hnxt.out]
                  · rw [if_neg e]
                    by_cases e2 : u < j
                    · rw [if_pos e2, if_pos (by omega)]
                    · rw [if_neg e2, if_neg (by omega)])
                exact (congrArg (fun ds => IOwn (wr.setCell ⟨G, j, none⟩ (.int .i64 (ownL (Fs.take k0) a j * d2))) G (.slice (some ⟨G, 0, none⟩) 3 3) ds) e).mp h1)
              have hBn := Lib.hid (hBj.out.setCell (p := ⟨G, j, none⟩) (by rw [hGh.out]; exact Nat.le_refl _) (.int .i64 (ownL (Fs.take k0) a j * d2)))
              clear hz2 hd2 dn
              generalize ownL (Fs.take k0) a j = z at *
              have hzd := Int.mul_nonneg hz1.1 hz3.1
              have hzm := Int.mul_le_mul hz1.2 hz3.2 hz3.1 (by decide)
              have hw : IntKind.i64.wrap (z * d2) = z * d2 := by rw [IntKind.wrap_i64]; omega
              go_wp2_with fail
              go_still_tail 16, (by kernel_rfl)
              repeat still_step
              try (refine wpStill_nil ?_)
              try (change wpList _ _ _ _ _ (World.drew _))
              go_wp2_with fail
              go_roundg (3 - (j + 1))
              case measure => omega
              case rel => exact ⟨j + 1, by omega, rfl, by go_num, hN.out, hBn.out.drew⟩
            · obtain rfl : j = 3 := by omega
              have hE := Lib.hid (show IOwn wr G (.slice (some ⟨G, 0, none⟩) 3 3) (row3 fun x => ownL (Fs.take (k0 + 1)) a x) from by
                have h1 := hOj.out
                rwa [row3_congr (h := fun x => ownL (Fs.take (k0 + 1)) a x) (fun u hu => by rw [if_pos (by omega)])] at h1)
              go_wp2_with fail
              go_roundg (n - (k0 + 1))
              case measure => omega
              case rel => exact ⟨k0 + 1, by omega, rfl, by go_num, hE.out, hBj.out⟩
        · have hno := Lib.hid (show IOwn wr G (.slice (some ⟨G, 0, none⟩) 3 3) (row3 fun x => ownL (Fs.take (k + 1)) v x) from by
            have h1 := hOk.out
            rwa [row3_congr (h := fun x => ownL (Fs.take (k + 1)) v x) (fun u hu => by rw [hst.out u, if_neg (fun q => hav (by rw [hae.out] at q; have := (List.cons.inj q).1; omega))])] at h1)
          have hne : ((a : Int) == (v : Int)) = false := by rw [beq_eq_false_iff_ne]; omega
          have havh := Lib.hid hav
          clear hav
          go_wp2_with fail
          go_roundg (n - (k + 1))
          case measure => omega
          case rel => exact ⟨k + 1, by omega, rfl, by go_num, hno.out, hBk.out⟩
      · have h1x := h1
        have hno := Lib.hid (show IOwn wr G (.slice (some ⟨G, 0, none⟩) 3 3) (row3 fun x => ownL (Fs.take (k + 1)) v x) from by
          have h1 := hOk.out
          rwa [row3_congr (h := fun x => ownL (Fs.take (k + 1)) v x) (fun u hu => by rw [hst.out u, if_neg (fun q => h1x (by rw [q] at hm1; exact hm1.symm))])] at h1)
        have hne : ((m1 : Int) == 1) = false := by rw [beq_eq_false_iff_ne]; omega
        have h1h := Lib.hid h1
        clear h1 h1x hFk hFo q1 q2 q3 q4 q5 hm1 hm2 hFW
        go_wp2_with fail
        go_roundg (n - (k + 1))
        case measure => omega
        case rel => exact ⟨k + 1, by omega, rfl, by go_num, hno.out, hBk.out⟩
    · obtain rfl : k = n := by omega
      have hfull : Fs.take k = Fs := List.take_of_length_le (by omega)
      rw [hfull] at hOk
      go_wp2_with fail
      go_ret
      exact ⟨G, 3, rfl, by rw [hGh.out]; exact hOk.out, hBk.out⟩
set_option maxHeartbeats 1000000 in
theorem specOwnOf_any (A : Option Addr) (n c : Nat) (Fs : List Fac) (v : Int) (w : World) (h : FLst w w.heap.size A n Fs) (hn : n ≤ maxLen) (hsm : smallF Fs) :
    Calls Try.prog 53 #[.slice A n c, .int .i64 v] w (Lbd w (ownR Fs v) (treeOk Fs && inB v 0 3)) := by
  have cO := Lib.hid (fun wx hx => specTreeOk_any A n c Fs wx hx hn hsm)
  have cV := Lib.hid (fun wx => l1Var_any v wx)
  have hI := Lib.hid h
  have hl := h.1
  clear h
  go_enter Try.func53, Try.ntmps53
  go_wp2_with fail
  refine (cO.out w hI.out).mono ?_
  rintro e w1 ⟨rfl, hb1⟩
  have hB1 := Lib.hid hb1
  have hI1 := Lib.hid ((hI.out.below hb1).more hb1.size)
  clear hb1
  cases htt : treeOk Fs
  · have htth := Lib.hid htt
    clear htt
    go_wp2_with fail
    go_ret2
    rw [show ownR Fs v = [] by unfold ownR; rw [htth.out]; rfl, htth.out]
    exact ⟨_, rfl, IOwn.nil _ _, hB1.out⟩
  have h1 := (tree_parts htt).1
  have h8 : n ≤ 8 := by
    unfold listOk at h1
    rw [Bool.and_eq_true, decide_eq_true_eq] at h1
    omega
  have htth := Lib.hid htt
  cases hv : inB v 0 3
  · have hvh := Lib.hid hv
    rw [hv] at cV
    clear hv htt h1
    go_wp2_with (go_at_call 66; refine (cV.out _).mono ?_; rintro e w' ⟨rfl, rfl⟩)
    go_ret2
    rw [show ownR Fs v = [] by unfold ownR; rw [htth.out, hvh.out]; rfl, hvh.out, Bool.and_false]
    exact ⟨_, rfl, IOwn.nil _ _, hB1.out⟩
  · have hvb := inB_iff.1 hv
    obtain ⟨k, rfl, hk⟩ := nat4 hvb.1 hvb.2
    have hvh := Lib.hid hv
    rw [hv] at cV
    have hk3 : k ≤ 3 := by omega
    have cN := Lib.hid (fun wx hx => l10Own_any A n c Fs k wx hx h1 hk3)
    have hR := Lib.hid (show ownR Fs (k : Int) = row3 (fun x => ownL Fs k x) by
      unfold ownR
      rw [htt, hv]
      rfl)
    clear hv htt h1 hvb
    go_wp2_with (first
      | (go_at_call 66; refine (cV.out _).mono ?_; rintro e w' ⟨rfl, rfl⟩)
      | (go_at_call 106; refine (cN.out _ hI1.out).mono ?_; rintro e w5 ⟨g5, c5, rfl, hv5, hb5⟩; have hB5 := Lib.hid (hB1.out.trans (hb5.mono hB1.out.size)); have hvo := Lib.hid (show IOwn w5 w.heap.size (.slice (some ⟨g5, 0, none⟩) 3 c5) (row3 fun x => ownL Fs k x) from owns_le hv5 hB1.out.size); clear hb5 hv5))
    go_ret2
    rw [hR.out, htth.out, hvh.out]
    exact ⟨_, rfl, hvo.out, hB5.out⟩
end Go.Proofs.Ytghkpmafocacoaa

namespace Go.Proofs.Ytghkpmafocacoaa
set_option maxRecDepth 100000
set_option linter.unusedVariables false
open Go.RowKit
/-- Three numbers in a row of the call's own. -/
def R3d (w : World) (f : Nat → Int) (e : Ending) (w' : World) : Prop := ∃ g c', e = .returned (.slice (some ⟨g, 0, none⟩) 3 c') ∧ IOwn w' w.heap.size (.slice (some ⟨g, 0, none⟩) 3 c') (row3 f) ∧ Below w.heap.size w w'
def MsgC (A : Option Addr) (n c : Nat) (Fs : List Fac) (g : Gr) (q : Nat) : Prop := ∀ (u t : Nat) (w : World), u ≤ 3 → t ≤ 3 → (g.nx u).testBit t = true → g.dep q u t = true → FLst w w.heap.size A n Fs →
  Calls Try.prog 96 #[.slice A n c, .int .i64 (u : Int), .int .i64 (t : Int)] w (R3d w fun y => IntKind.i64.wrap (msgT Fs g u t y))
def AllC (A : Option Addr) (n c : Nat) (Fs : List Fac) (g : Gr) (q : Nat) : Prop := ∀ (v bt : Nat) (but : Int) (w : World), v ≤ 3 → (∀ r : Nat, r ≤ 3 → ((r : Int) == but) = decide (r = bt)) → (∀ r ∈ nbs g v bt, g.dep q r v = true) → FLst w w.heap.size A n Fs →
  Calls Try.prog 105 #[.slice A n c, .int .i64 (v : Int), .int .i64 but] w (R3d w fun x => IntKind.i64.wrap (allT Fs g v bt x))
def allN (Fs : List Fac) (g : Gr) (v bt x k : Nat) : Int := (((bitsN (g.nx v)).take k).filter fun w => w != bt).foldl (fun p w => p * msgT Fs g w v x) (ownL Fs v x)
theorem allN_succ {Fs : List Fac} {g : Gr} {v bt k r : Nat} (h : (bitsN (g.nx v))[k]? = some r) (x : Nat) : allN Fs g v bt x (k + 1) = if r = bt then allN Fs g v bt x k else allN Fs g v bt x k * msgT Fs g r v x := by
  obtain ⟨hl, he⟩ := List.getElem?_eq_some_iff.1 h
  unfold allN
  rw [List.take_succ_eq_append_getElem hl, List.filter_append, List.foldl_append, he]
  by_cases e : r = bt
  · rw [if_pos e, List.filter_cons_of_neg (by simp [e])]; rfl
  · rw [if_neg e, List.filter_cons_of_pos (by simp [e])]; rfl
theorem allN_all (Fs : List Fac) (g : Gr) (v bt x : Nat) : allN Fs g v bt x (bitsN (g.nx v)).length = allT Fs g v bt x := by
  unfold allN allT nbs
  rw [List.take_of_length_le (Nat.le_refl _)]
theorem over_bits : ∀ L : Fin 16, over (L.val : Int) = csI (bitsN L.val) ∧ (bitsN L.val).length ≤ 4 := by decide +kernel
theorem bitsN_mem {L r : Nat} (h : r ∈ bitsN L) : r ≤ 3 ∧ L.testBit r = true := by
  unfold bitsN at h
  obtain ⟨h1, h2⟩ := List.mem_filter.1 h
  have := List.mem_range.1 h1
  exact ⟨by omega, h2⟩
set_option maxHeartbeats 2000000 in
theorem all_of (A : Option Addr) (n c : Nat) (Fs : List Fac) (g : Gr) (q : Nat) (hl8 : listOk Fs = true) (hg : prG (prsL Fs) = some g) (hM : MsgC A n c Fs g q) : AllC A n c Fs g q := by
  intro v bt but w hv hbut hdep h
  have hn8 : n ≤ 8 := by
    have h1 := h.1
    unfold listOk at hl8
    rw [Bool.and_eq_true, decide_eq_true_eq] at hl8
    omega
  have cO := Lib.hid (fun wx hx => l10Own_any A n c Fs v wx hx hl8 hv)
  have hnx16 := (prs_row g ⟨v, by omega⟩).2.2.1
  simp only at hnx16
  have hnS : nxS (prsL Fs) v = (g.nx v : Int) := by
    have h2 := nxS_eq (prsL_PrS (list_nine hl8)) (prsL Fs).length (g := g) (by rw [List.take_of_length_le (Nat.le_refl _)]; exact hg) v hv
    rwa [List.take_of_length_le (Nat.le_refl _)] at h2
  have hov := over_bits ⟨g.nx v, hnx16⟩
  simp only at hov
  have cN := Lib.hid (fun wx hx => l10Next_any A n c Fs v wx hx (by omega) (list_nine hl8) hv)
  rw [hnS, hov.1] at cN
  have hm4 := hov.2
  have hwo := Lib.hid (fun x => (show ownL Fs v x = IntKind.i64.wrap (allN Fs g v bt x 0) from by
    have h1 := ownL_small hl8 v x Fs.length
    rw [List.take_of_length_le (Nat.le_refl _)] at h1
    show _ = IntKind.i64.wrap (ownL Fs v x)
    rw [IntKind.wrap_i64]
    omega))
  have hmem := Lib.hid (fun r (hr : r ∈ bitsN (g.nx v)) => bitsN_mem hr)
  have hsym := Lib.hid (fun r (hr : r ≤ 3) (hb : (g.nx v).testBit r = true) => (show (g.nx r).testBit v = true from by
    have h2 := (prs_row g ⟨v, by omega⟩).2.2.2.2 ⟨r, by omega⟩
    simp only at h2
    rw [← h2]; exact hb))
  have hMh := Lib.hid hM
  have hdeph := Lib.hid (fun r (hr : r ∈ bitsN (g.nx v)) (hn : r ≠ bt) => hdep r (List.mem_filter.2 ⟨hr, by simpa using hn⟩))
  have hbuth := Lib.hid hbut
  have hst := Lib.hid (fun k r x (hk : (bitsN (g.nx v))[k]? = some r) => allN_succ (Fs := Fs) (bt := bt) hk x)
  have hend := Lib.hid (fun x => allN_all Fs g v bt x)
  have hI := Lib.hid h
  have hv0 : (0 : Int) ≤ (v : Int) := by omega
  obtain ⟨nl, hnl⟩ : ∃ nl, bitsN (g.nx v) = nl := ⟨_, rfl⟩
  rw [hnl] at cN hm4 hmem hdeph hst hend
  clear h hM hl8 hg hdep hbut hnS hov hnx16 hnl
  go_enter Try.func105, Try.ntmps105
  go_wp2_with fail
  refine (cO.out w hI.out).mono ?_
  rintro e w1 ⟨G, cG, rfl, ho, hb1⟩
  have hB1 := Lib.hid hb1
  have hO1 := Lib.hid ho
  have hI1 := Lib.hid ((hI.out.below hb1).more hb1.size)
  clear ho hb1 cO
  go_wp2_with fail
  refine (cN.out w1 hI1.out).mono ?_
  rintro e w2 ⟨vn, rfl, hvn, hb2⟩
  obtain ⟨An, cn, hvf, _, _⟩ := IOwn.form hvn
  subst hvf
  rw [csI_len] at hvn ⊢
  have hGb := (World.ownsRow.lt hO1.out G rfl)
  have hD := Lib.hid (show ∀ i, (Value.slice An nl.length cn).ownBlock = some i → i ≠ G from fun i hi => by
    have := (World.ownsRow.lt hvn i hi).1
    omega)
  have hO2 := Lib.hid (show IOwn w2 w.heap.size (.slice (some ⟨G, 0, none⟩) 3 cG) (row3 fun x => IntKind.i64.wrap (allN Fs g v bt x 0)) from by
    rw [← row3_congr (f := fun x => ownL Fs v x) (fun x _ => hwo.out x)]
    exact hO1.out.below hb2)
  have hB2 := Lib.hid (hB1.out.trans (hb2.mono hB1.out.size))
  have hN2 := Lib.hid (show IOwn w2 w.heap.size (.slice An nl.length cn) (csI nl) from by
    exact owns_le hvn hB1.out.size)
  have hGw : w.heap.size ≤ G := hGb.1
  clear hvn hb2 hO1 hI1 hB1 cN hwo hGb
  go_wp2_with fail
  go_loopg [9] nl.length (fun gn i wr => ∃ k : Nat, k ≤ nl.length ∧ gn = nl.length - k ∧ i = .int .i64 k ∧ IOwn wr w.heap.size (.slice (some ⟨G, 0, none⟩) 3 cG) (row3 fun x => IntKind.i64.wrap (allN Fs g v bt x k)) ∧ IOwn wr w.heap.size (.slice An nl.length cn) (csI nl) ∧ Below w.heap.size w wr)
  case atStart => exact ⟨0, Nat.zero_le _, rfl, rfl, hO2.out, hN2.out, hB2.out⟩
  case round =>
    obtain ⟨k, hk, hgn, rfl, hO, hN, hB⟩ := hrel
    have hgk : gk = nl.length - k := hgn
    have hOk := Lib.hid hO
    have hNk := Lib.hid hN
    have hBk := Lib.hid hB
    clear hgn hO hN hB hO2 hN2 hB2
    by_cases hlt : k < nl.length
    · obtain ⟨gn, on, d, rfl, _, hd, cd⟩ := (IOwn.lst (ds := csI nl) (n := (csI nl).length) (by rw [← csI_len nl] at hNk; exact hNk.out)).at_ (k := k) (by rw [csI_len]; exact hlt)
      obtain ⟨r, hr, rfl⟩ : ∃ r : Nat, nl[k]? = some r ∧ d = (r : Int) := by
        unfold csI at hd
        rw [List.getElem?_map] at hd
        cases hq : nl[k]? with
        | none => rw [hq] at hd; cases hd
        | some u => rw [hq] at hd; exact ⟨u, rfl, (Option.some.inj hd).symm⟩
      have hrm := hmem.out r (List.mem_of_getElem? hr)
      have hk0 : (0 : Int) ≤ (k : Int) := by omega
      have hk1 : (k : Int) < (nl.length : Int) := by omega
      have hr0 : (0 : Int) ≤ (r : Int) := by omega
      have hbr := hbuth.out r hrm.1
      have hs := Lib.hid (fun x => hst.out k r x hr)
      by_cases hrb : r = bt
      · rw [decide_eq_true hrb] at hbr
        have hE := Lib.hid (row3_congr (f := fun x => IntKind.i64.wrap (allN Fs g v bt x (k + 1))) (h := fun x => IntKind.i64.wrap (allN Fs g v bt x k)) (fun x _ => by rw [hs.out x, if_pos hrb]))
        clear hd hr hrm hrb hs
        go_wp2_with fail
        go_roundg (nl.length - (k + 1))
        case measure => omega
        case rel => exact ⟨k + 1, by omega, rfl, by go_num, by rw [hE.out]; exact hOk.out, hNk.out, hBk.out⟩
      · rw [decide_eq_false hrb] at hbr
        have cM := Lib.hid (fun wx hx => hMh.out r v wx hrm.1 hv (hsym.out r hrm.1 hrm.2) (hdeph.out r (List.mem_of_getElem? hr) hrb) hx)
        have hE := Lib.hid (fun x => (show IntKind.i64.wrap (IntKind.i64.wrap (allN Fs g v bt x k) * IntKind.i64.wrap (msgT Fs g r v x)) = IntKind.i64.wrap (allN Fs g v bt x (k + 1)) from by rw [hs.out x, if_neg hrb, wrap_mul]))
        have hIk := Lib.hid ((hI.out.below hBk.out).more hBk.out.size)
        obtain ⟨M, hMq⟩ : ∃ M : Nat → Int, (fun x => IntKind.i64.wrap (msgT Fs g r v x)) = M := ⟨_, rfl⟩
        obtain ⟨Pk, hPk⟩ : ∃ Pk : Nat → Int, (fun x => IntKind.i64.wrap (allN Fs g v bt x k)) = Pk := ⟨_, rfl⟩
        obtain ⟨Pn, hPn⟩ : ∃ Pn : Nat → Int, (fun x => IntKind.i64.wrap (allN Fs g v bt x (k + 1))) = Pn := ⟨_, rfl⟩
        have hmul := Lib.hid (fun x => (show IntKind.i64.wrap (Pk x * M x) = Pn x from by rw [← hMq, ← hPk, ← hPn]; exact hE.out x))
        unfold R3d at cM
        rw [hMq] at cM
        rw [hPk] at hOk
        have hPnh := Lib.hid hPn
        clear hd hr hrm hrb hs hE hMq hPk hPn
        go_wp2_with fail
        refine (cM.out wr hIk.out).mono ?_
        rintro e w5 ⟨Gm, cm, rfl, hm, hb5⟩
        have hO5 := Lib.hid (hOk.out.below hb5)
        have hN5 := Lib.hid (hNk.out.below hb5)
        have hB5 := Lib.hid (hBk.out.trans (hb5.mono hBk.out.size))
        have hGG : Gm ≠ G := by
          have h1 := (World.ownsRow.lt hm Gm rfl).1
          have h2 := (World.ownsRow.lt hOk.out G rfl).2
          omega
        have hM5 := Lib.hid (show IOwn w5 w.heap.size (.slice (some ⟨Gm, 0, none⟩) 3 cm) (row3 M) from owns_le hm hBk.out.size)
        clear hm hb5 hOk hNk hBk hIk cM cd
        go_wp2_with fail
        obtain ⟨k0, rfl⟩ : ∃ q, q = k := ⟨_, rfl⟩
        obtain ⟨w3, rfl⟩ : ∃ q : World, q = wr := ⟨_, rfl⟩
        obtain ⟨g3, rfl⟩ : ∃ q, q = gk := ⟨_, rfl⟩
        go_loopg [11] 3 (fun gn' i wr => ∃ j : Nat, j ≤ 3 ∧ gn' = 3 - j ∧ i = .int .i64 j ∧ IOwn wr w.heap.size (.slice (some ⟨G, 0, none⟩) 3 cG) (row3 (midK Pk Pn j)) ∧ IOwn wr w.heap.size (.slice (some ⟨gn, on, none⟩) nl.length cn) (csI nl) ∧ IOwn wr w.heap.size (.slice (some ⟨Gm, 0, none⟩) 3 cm) (row3 M) ∧ Below w.heap.size w wr)
        case atStart => exact ⟨0, by omega, rfl, rfl, hO5.out, hN5.out, hM5.out, hB5.out⟩
        case round =>
          obtain ⟨j, hj, hgn, rfl, hO, hN, hMj, hB⟩ := hrel
          have hgj : gk = 3 - j := hgn
          have hOj := Lib.hid hO
          have hNj := Lib.hid hN
          have hMjh := Lib.hid hMj
          have hBj := Lib.hid hB
          clear hgn hO hN hMj hB hO5 hN5 hM5 hB5
          by_cases hlj : j < 3
          · have hj0 : (0 : Int) ≤ (j : Int) := by omega
            have hj3 : (j : Int) < 3 := by omega
            have hmj : midK Pk Pn j j = Pk j := by unfold midK; rw [if_neg (by omega)]
            obtain ⟨co, fo, _⟩ := iown_cell (ds := row3 (midK Pk Pn j)) hOj.out (row3_at _ (v := j) (by omega))
            rw [hmj] at co
            have cm2 := (iown_cell (ds := row3 M) hMjh.out (row3_at _ (v := j) (by omega))).1
            have hml := hmul.out j
            have hNn := Lib.hid (show IOwn (wr.setCell ⟨G, j, none⟩ (.int .i64 (Pn j))) w.heap.size (.slice (some ⟨G, 0, none⟩) 3 cG) (row3 (midK Pk Pn (j + 1))) from by
              rw [← midK_step, ← row3_set _ (by omega)]
              exact iown_set (ds := row3 (midK Pk Pn j)) hOj.out (show j < 3 from hlj) _)
            have hK := Lib.hid ((KeptBut.refl wr (fun i => i = G)).put (p := ⟨G, j, none⟩) (fun _ => rfl) (.int .i64 (Pn j)))
            have hNn2 := Lib.hid (IOwn.but hNj.out hK.out (fun k h1 h2 => hD.out k h1 h2))
            have hMn := Lib.hid (IOwn.but hMjh.out hK.out (fun k h1 h2 => hGG (by injection h1 with e; exact e.trans h2)))
            have hBn := Lib.hid (hBj.out.setCell (p := ⟨G, j, none⟩) hGw (.int .i64 (Pn j)))
            clear hmj
            generalize M j = y at cm2 hml
            generalize Pk j = z at co hml
            go_wp2_with fail
            go_still_tail 12, (by kernel_rfl)
            repeat still_step
            try (refine wpStill_nil ?_)
            try (change wpList _ _ _ _ _ (World.drew _))
            go_wp2_with fail
            go_roundg (3 - (j + 1))
            case measure => omega
            case rel => exact ⟨j + 1, by omega, rfl, by go_num, hNn.out, hNn2.out, hMn.out, hBn.out.drew⟩
          · obtain rfl : j = 3 := by omega
            have hPe := Lib.hid (show IOwn wr w.heap.size (.slice (some ⟨G, 0, none⟩) 3 cG) (row3 fun x => IntKind.i64.wrap (allN Fs g v bt x (k0 + 1))) from by
              rw [hPnh.out, ← row3_congr (f := midK Pk Pn 3) (h := Pn) (fun x hx => by unfold midK; rw [if_pos (by omega)])]
              exact hOj.out)
            go_wp2_with fail
            go_roundg (nl.length - (k0 + 1))
            case measure => omega
            case rel => exact ⟨k0 + 1, by omega, rfl, by go_num, hPe.out, hNj.out, hBj.out⟩
    · obtain rfl : k = nl.length := by omega
      have hE := Lib.hid (row3_congr (f := fun x => IntKind.i64.wrap (allN Fs g v bt x nl.length)) (h := fun x => IntKind.i64.wrap (allT Fs g v bt x)) (fun x _ => by rw [hend.out x]))
      rw [hE.out] at hOk
      go_wp2_with fail
      go_ret
      exact ⟨G, cG, rfl, hOk.out, hBk.out⟩
end Go.Proofs.Ytghkpmafocacoaa
