/- Parts of the proof: Ws, He, Hb, Ga. -/
import Derived.Test.YtaipdkfbkcknkaaZAB
import Derived.Test.YtaipdkfbkcknkaaZAC
import Derived.Test.YtaipdkfbkcknkaaZAD
import Derived.Test.YtaipdkfbkcknkaaZAE
import Derived.Test.YtaipdkfbkcknkaaZAH
namespace Go.Proofs.Ytaipdkfbkcknkaa
set_option maxRecDepth 100000
set_option linter.unusedVariables false
open Go.RowKit
theorem wcSum_same (A : Option Addr) (n c : Nat) (ds : List Int) (w : World) (h : Ils w w.heap.size A n ds) (hn : n ≤ 1048576) (h0 : ∀ x ∈ ds, 0 ≤ x) (ht : isum ds ≤ 1000000000000000000) :
    Calls Try.prog 53 #[.slice A n c] w fun e w' => e = .returned (.int .i64 (isum ds)) ∧ w = w' := by
  have hI := Lib.hid h
  have hP := Lib.hid (isum_le h0)
  have hT := Lib.hid (show isum (ds.take n) = isum ds by rw [List.take_of_length_le (by rw [h.1]; exact Nat.le_refl _)])
  clear h h0
  go_enter Try.func53, Try.ntmps53
  go_wp2_with fail
  go_loopg [3, 8] n (fun gn o v wr => ∃ k : Nat, k ≤ n ∧ gn = n - k ∧ v = .int .i64 k ∧ o = .int .i64 (isum (ds.take k)) ∧ wr = w)
  case atStart => exact ⟨0, Nat.zero_le _, rfl, rfl, rfl, rfl⟩
  case round =>
    obtain ⟨k, hk, hgn, rfl, rfl, rfl⟩ := hrel
    have hgk : gk = n - k := hgn
    clear hgn
    by_cases hlt : k < n
    · obtain ⟨g, off, d, rfl, hg, hd, c0⟩ := hI.out.at_ hlt
      have h1 := (hP.out k)
      have h2 := (hP.out (k + 1))
      rw [isum_take hd] at h2
      have hR := Lib.hid (isum_take hd)
      have hw : IntKind.i64.wrap (isum (ds.take k) + d) = isum (ds.take k) + d := by rw [IntKind.wrap_i64]; omega
      have hk0 : (0 : Int) ≤ (k : Int) := by omega
      have hk1 : (k : Int) < (n : Int) := by omega
      clear hd
      go_wp2_with fail
      go_roundg (n - (k + 1))
      case measure => omega
      case rel => exact ⟨k + 1, by omega, rfl, by go_num, by rw [hR.out], rfl⟩
    · obtain rfl : k = n := by omega
      rw [hT.out]
      go_wp2_with fail
      go_ret
      exact ⟨rfl, rfl⟩
theorem wcSum_any (A : Option Addr) (n c : Nat) (ds : List Int) (w : World) (h : Ils w w.heap.size A n ds) (hn : n ≤ 1048576) (h0 : ∀ x ∈ ds, 0 ≤ x) (ht : isum ds ≤ 1000000000000000000) :
    Calls Try.prog 53 #[.slice A n c] w fun e w' => e = .returned (.int .i64 (isum ds)) ∧ Below w.heap.size w w' :=
  (wcSum_same A n c ds w h hn h0 ht).mono fun _ _ ⟨h1, h2⟩ => ⟨h1, h2 ▸ Below.refl _ _⟩
end Go.Proofs.Ytaipdkfbkcknkaa

namespace Go.Proofs.Ytaipdkfbkcknkaa
set_option maxRecDepth 100000
set_option linter.unusedVariables false
/-- The places that go into a factor summed out, in order. -/
def plc (A v : Int) : List Nat := (List.range (3 ^ (over (bdf A (bitN v))).length)).flatMap fun (i : Nat) => [(idx (over A) (withValue (stOf (over (bdf A (bitN v))) (i : Int)) v 0)).toNat, (idx (over A) (withValue (stOf (over (bdf A (bitN v))) (i : Int)) v 1)).toNat, (idx (over A) (withValue (stOf (over (bdf A (bitN v))) (i : Int)) v 2)).toNat]
theorem plc_perm : ∀ A : Fin 16, ∀ v : Fin 4, tb (A.val : Int) v.val = true → (plc (A.val : Int) (v.val : Int)).isPerm (List.range (3 ^ (over (A.val : Int)).length)) = true := by decide +kernel
theorem isum_perm {a b : List Int} (h : a.Perm b) : isum a = isum b := by
  induction h with
  | nil => rfl
  | cons x _ ih => unfold isum; rw [ih]
  | swap x y l =>
    unfold isum isum
    omega
  | trans _ _ h1 h2 => exact h1.trans h2
theorem isum_flat3 (g : Nat → Int) (x y z : Nat → Nat) : ∀ l : List Nat, isum ((l.flatMap fun i => [x i, y i, z i]).map g) = isum (l.map fun i => g (x i) + g (y i) + g (z i))
  | [] => rfl
  | i :: r => by
    rw [List.flatMap_cons, List.map_append, isum_append, isum_flat3 g x y z r, List.map_cons]
    simp only [List.map_cons, List.map_nil, isum]
    omega
theorem getD_range_ (ds : List Int) : (List.range ds.length).map (fun i => ds.getD i 0) = ds := by
  apply List.ext_getElem?
  intro q
  by_cases hq : q < ds.length
  · rw [List.getElem?_map, List.getElem?_range hq, List.getElem?_eq_getElem hq]
    show some (ds.getD q 0) = _
    rw [List.getD_eq_getElem?_getD, List.getElem?_eq_getElem hq]
    rfl
  · rw [List.getElem?_eq_none (by rw [List.length_map, List.length_range]; omega), List.getElem?_eq_none (by omega)]
/-- Summing a variable out keeps the sum of the numbers. -/
theorem fOut_sum {M : Int} {F : Fac} {v : Int} (hF : facOk M F = true) (hv : v ∈ F.vs) : isum (fOut F v (-1)).ns = isum F.ns := by
  obtain ⟨A, hA, hS, hAv⟩ := fac_set hF
  obtain ⟨V, rfl, hV⟩ := hAv v hv
  have hl := (fac_parts hF).2.2.1
  have hp := isum_perm ((List.isPerm_iff.1 (plc_perm A V hV)).map fun j => F.ns.getD j 0)
  unfold plc at hp
  rw [isum_flat3, ← hA, ← hl, getD_range_] at hp
  unfold fOut facBy_
  dsimp only
  rw [hS]
  simp only [show (-1 : Int) < 0 from by decide, true_or, if_true]
  exact hp
/-- The numbers of a factor in which a variable has a value, by place; the sums of the first k values, and those with j places of one more. -/
def oc (F : Fac) (v x : Int) (i : Nat) : Int := (fOut F v x).ns.getD i 0
def osum (F : Fac) (v : Int) (k i : Nat) : Int := (if 0 < k then oc F v 0 i else 0) + (if 1 < k then oc F v 1 i else 0) + (if 2 < k then oc F v 2 i else 0)
def oacc (F : Fac) (v : Int) (N k j : Nat) : List Int := (List.range N).map fun i => osum F v (if i < j then k + 1 else k) i
theorem oacc_len (F : Fac) (v : Int) (N k j : Nat) : (oacc F v N k j).length = N := by simp [oacc]
theorem oacc_at (F : Fac) (v : Int) {N : Nat} (k j : Nat) {q : Nat} (hq : q < N) : (oacc F v N k j)[q]? = some (osum F v (if q < j then k + 1 else k) q) := by
  unfold oacc
  rw [List.getElem?_map, List.getElem?_range hq]; rfl
theorem list_ext {a b : List Int} {N : Nat} (ha : a.length = N) (hb : b.length = N) (h : ∀ q, q < N → a[q]? = b[q]?) : a = b := by
  apply List.ext_getElem?
  intro q
  by_cases hq : q < N
  · exact h q hq
  · rw [List.getElem?_eq_none (by omega), List.getElem?_eq_none (by omega)]
theorem oacc_zero (F : Fac) (v : Int) (N : Nat) : oacc F v N 0 0 = List.replicate N 0 := list_ext (oacc_len _ _ _ _ _) (by simp) fun q hq => by
  rw [oacc_at _ _ _ _ hq, List.getElem?_replicate, if_pos hq, if_neg (show ¬ q < 0 by omega)]
  rfl
theorem oacc_next (F : Fac) (v : Int) (N k : Nat) : oacc F v N k N = oacc F v N (k + 1) 0 := list_ext (oacc_len _ _ _ _ _) (oacc_len _ _ _ _ _) fun q hq => by
  rw [oacc_at _ _ _ _ hq, oacc_at _ _ _ _ hq, if_pos hq, if_neg (show ¬ q < 0 by omega)]
theorem osum_next (F : Fac) (v : Int) {k : Nat} (hk : k < 3) (i : Nat) : osum F v (k + 1) i = osum F v k i + oc F v (k : Int) i := by
  obtain rfl | rfl | rfl : k = 0 ∨ k = 1 ∨ k = 2 := by omega
  · simp [osum]
  · simp [osum]
  · simp [osum]
theorem oacc_step (F : Fac) (v : Int) {N k j : Nat} (hk : k < 3) (hj : j < N) : (oacc F v N k j).set j (osum F v k j + oc F v (k : Int) j) = oacc F v N k (j + 1) := list_ext (by rw [List.length_set, oacc_len]) (oacc_len _ _ _ _ _) fun q hq => by
  by_cases he : q = j
  · subst he
    rw [List.getElem?_set_self (by rw [oacc_len]; exact hq), oacc_at _ _ _ _ hq, if_pos (Nat.lt_succ_self q), osum_next F v hk]
  · rw [List.getElem?_set_ne (by omega), oacc_at _ _ _ _ hq, oacc_at _ _ _ _ hq]
    by_cases h3 : q < j
    · rw [if_pos h3, if_pos (show q < j + 1 by omega)]
    · rw [if_neg h3, if_neg (show ¬ q < j + 1 by omega)]
theorem fOut_nlen (F : Fac) (v x y : Int) : (fOut F v x).ns.length = (fOut F v y).ns.length := by simp [fOut, facBy_]
theorem oc_all (F : Fac) (v : Int) {i : Nat} (hi : i < (fOut F v (-1)).ns.length) : (fOut F v (-1)).ns[i]? = some (osum F v 3 i) := by
  have hl : (fOut F v (-1)).ns.length = 3 ^ (over (bdf (setOf F.vs) (bitN v))).length := by simp [fOut, facBy_]
  rw [hl] at hi
  unfold osum oc fOut facBy_
  dsimp only
  simp only [List.getD_eq_getElem?_getD, List.getElem?_map, List.getElem?_range hi, Option.map_some, Option.getD_some]
  simp
theorem oacc_all (F : Fac) (v : Int) : oacc F v (fOut F v (-1)).ns.length 3 0 = (fOut F v (-1)).ns := list_ext (oacc_len _ _ _ _ _) rfl fun q hq => by
  rw [oacc_at _ _ _ _ hq, if_neg (show ¬ q < 0 by omega), oc_all F v hq]
end Go.Proofs.Ytaipdkfbkcknkaa

namespace Go.Proofs.Ytaipdkfbkcknkaa
set_option maxRecDepth 100000
set_option linter.unusedVariables false
open Go.RowKit
set_option maxHeartbeats 2000000 in
theorem wcFactor_any (A1 A2 B1 B2 : Option Addr) (n1 c1 n2 c2 m1 k1 m2 k2 : Nat) (F : Fac) (w : World) (h : FacW w w.heap.size A1 n1 A2 n2 F) (g : FacW w w.heap.size B1 m1 B2 m2 F) (hn1 : n1 ≤ maxLen) (hn2 : n2 ≤ maxLen) (hm1 : m1 ≤ maxLen) (hm2 : m2 ≤ maxLen) :
    Calls Try.prog 40 #[.agg #[.slice A1 n1 c1, .slice A2 n2 c2], .agg #[.slice B1 m1 k1, .slice B2 m2 k2]] w fun e w' => e = .returned (.bool true) ∧ Below w.heap.size w w' := by
  have hB0 : Below w.heap.size w ((w.alloc (.cells #[.slice A1 n1 c1, .slice A2 n2 c2] 36)).alloc (.cells #[.slice B1 m1 k1, .slice B2 m2 k2] 36)) := ((Below.refl _ _).alloc (Nat.le_refl _) _).alloc (by simp) _
  have hf := Lib.hid ((Has.new w 36 #[.slice A1 n1 c1, .slice A2 n2 c2]).alloc (.cells #[.slice B1 m1 k1, .slice B2 m2 k2] 36))
  have hg := Lib.hid (Has.newAt (w := w.alloc (.cells #[.slice A1 n1 c1, .slice A2 n2 c2] 36)) (n := w.heap.size + 1) (t := 36) (cs := #[.slice B1 m1 k1, .slice B2 m2 k2]) (by simp))
  have hF0 := Lib.hid (h.below hB0)
  have hH0 := Lib.hid (g.below hB0)
  have hB := Lib.hid hB0
  have c0 := hf.out.cell
  have c1' := hg.out.cell
  clear h g hB0
  go_enter Try.func40, Try.ntmps40
  go_wp2_with fail
  generalize (w.alloc (.cells #[.slice A1 n1 c1, .slice A2 n2 c2] 36)).alloc (.cells #[.slice B1 m1 k1, .slice B2 m2 k2] 36) = W0 at hf hg hF0 hH0 hB c0 c1' ⊢
  refine (wcInts_any A1 B1 n1 m1 c1 k1 F.vs F.vs _ hF0.out.1 hH0.out.1 hn1 hm1).mono ?_
  rw [decide_eq_true rfl]
  rintro e w1 ⟨rfl, q1, rfl⟩
  have hb1 : Below W0.heap.size W0 (W0.drewN q1) := below_drewN (Below.refl _ _) q1
  have d0 := (hf.out.kept hb1).cell
  have d1 := (hg.out.kept hb1).cell
  have hF1 := Lib.hid (hF0.out.below hb1)
  have hH1 := Lib.hid (hH0.out.below hb1)
  have hB1 := hB.out.trans (hb1.mono hB.out.size)
  clear hf hg hF0 hH0 hB c0 c1' hb1
  generalize W0.drewN q1 = W1 at d0 d1 hF1 hH1 hB1 ⊢
  go_wp2_with fail
  refine (wcInts_any A2 B2 n2 m2 c2 k2 F.ns F.ns _ hF1.out.2 hH1.out.2 hn2 hm2).mono ?_
  rw [decide_eq_true rfl]
  rintro e w2 ⟨rfl, q2, rfl⟩
  have hB2 : Below w.heap.size w (W1.drewN q2) := below_drewN hB1 q2
  go_wp2_with fail
  go_ret
  exact ⟨rfl, hB2⟩
end Go.Proofs.Ytaipdkfbkcknkaa

namespace Go.Proofs.Ytaipdkfbkcknkaa
set_option maxRecDepth 100000
set_option linter.unusedVariables false
open Go.RowKit
theorem l8Told_own (D1 D2 : Option Addr) (l1 e1 l2 e2 base : Nat) (X : Fac) (w : World) (h : FcV w base (.slice D1 l1 e1) (.slice D2 l2 e2) X) :
    Calls Try.prog 94 #[.agg #[.slice D1 l1 e1, .slice D2 l2 e2]] w fun e w' => ∃ u1 u2, e = .returned (.tuple #[.agg #[u1, u2], .bool (facOk 1000000000 X)]) ∧ FcV w' base u1 u2 (if facOk 1000000000 X = true then X else ⟨[], []⟩) ∧ Below w.heap.size w w' := by
  obtain ⟨A1, c1, h1, h2, h3⟩ := h.1.form
  obtain ⟨A2, c2, h4, h5, h6⟩ := h.2.1.form
  injection h1 with _ h1 _
  injection h4 with _ h4 _
  refine (l8Told_any D1 D2 l1 e1 l2 e2 X w h.fac (by omega) (by omega)).mono ?_
  rintro e w' ⟨rfl, hb⟩
  cases hk : facOk 1000000000 X
  · rw [if_neg (by decide), if_neg (by decide)]
    exact ⟨_, _, rfl, FcV.none_ _ _, hb⟩
  · rw [if_pos rfl, if_pos rfl]
    exact ⟨_, _, rfl, h.below hb, hb⟩
end Go.Proofs.Ytaipdkfbkcknkaa
