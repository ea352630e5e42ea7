/- Parts of the proof: Cn. -/
import Derived.Test.YtkggejmamhakaaaZAQ
import Derived.Test.YtkggejmamhakaaaZAP
import Derived.Test.YtkggejmamhakaaaZAT
namespace Go.Proofs.Ytkggejmamhakaaa
set_option maxRecDepth 100000
set_option linter.unusedVariables false
open Go.RowKit
theorem com_three {s : St} (h : s.ok = true) (h6 : s.k < 6) : com s = gcdI (gcdI s.u s.v) s.x := by
  have hw := ok_w h h6
  have e : gcdI 0 s.u = s.u := by
    unfold gcdI
    rw [show (0 : Int).toNat = 0 from rfl, Nat.gcd_zero_left]
    exact Int.toNat_of_nonneg hw.1.1
  unfold com gcdF
  rw [List.foldl_cons, List.foldl_cons, List.foldl_cons, List.foldl_nil, e]
/-- What a statement reads or sets. -/
def touch (s : St) : Int := if 0 ≤ s.sets then bits .or .i64 s.reads (bitN s.sets) else s.reads
theorem shl_bit : ∀ x : Fin 4, wrap64 (2 ^ ((x : Int)).toNat) = bitN x := by decide +kernel
theorem l6Touch_any (s : St) (w : World) (h : s.ok = true) :
    Calls Try.prog 114 #[.agg #[.int .i64 s.k, .int .i64 s.a, .int .i64 s.b, .int .i64 s.c, .int .i64 s.u, .int .i64 s.v, .int .i64 s.x]] w fun e w' => e = .returned (.int .i64 (touch s)) ∧ Below w.heap.size w w' := by
  have hsb := sets_bd s h
  have hrb := reads_bd s
  have cR : Hid (∀ wx : World, Calls Try.prog 94 #[.agg #[.int .i64 s.k, .int .i64 s.a, .int .i64 s.b, .int .i64 s.c, .int .i64 s.u, .int .i64 s.v, .int .i64 s.x]] wx fun e w' => e = .returned (.int .i64 s.reads) ∧ Below wx.heap.size wx w') := Lib.hid (fun wx => specStmtReads_any s.k s.a s.b s.c s.u s.v s.x wx)
  have cS : Hid (∀ wx : World, Calls Try.prog 93 #[.agg #[.int .i64 s.k, .int .i64 s.a, .int .i64 s.b, .int .i64 s.c, .int .i64 s.u, .int .i64 s.v, .int .i64 s.x]] wx fun e w' => e = .returned (.int .i64 s.sets) ∧ Below wx.heap.size wx w') := Lib.hid (fun wx => specStmtSets_any s.k s.a s.b s.c s.u s.v s.x wx)
  have h1 := Has.new w 63 #[.int .i64 s.k, .int .i64 s.a, .int .i64 s.b, .int .i64 s.c, .int .i64 s.u, .int .i64 s.v, .int .i64 s.x]
  have hH := Lib.hid h1
  have hB := Lib.hid (show Below w.heap.size w (w.alloc (.cells #[.int .i64 s.k, .int .i64 s.a, .int .i64 s.b, .int .i64 s.c, .int .i64 s.u, .int .i64 s.v, .int .i64 s.x] 63)) from (Below.refl _ _).alloc (Nat.le_refl _) _)
  clear h1 h
  go_enter Try.func114, Try.ntmps114
  go_wp2_with fail
  refine (cR.out _).mono ?_
  rintro e w1 ⟨rfl, hb1⟩
  have hH1 := Lib.hid (hH.out.kept hb1)
  have hB1 := Lib.hid (hB.out.trans (hb1.mono (by simp)))
  have hcs := hH1.out.cell
  have hz1 := hb1.size
  clear hb1
  go_wp2_with fail
  refine (cS.out _).mono ?_
  rintro e w2 ⟨rfl, hb2⟩
  have hH2 := Lib.hid (hH1.out.kept hb2)
  have hB2 := Lib.hid (hB1.out.trans (hb2.mono (by simp at hz1; omega)))
  clear hcs
  have hcs := hH2.out.cell
  have hz2 := hb2.size
  clear hb2
  by_cases hs : 0 ≤ s.sets
  · have hT := Lib.hid (show touch s = bits .or .i64 s.reads (bitN s.sets) from if_pos hs)
    have hsh := Lib.hid (show wrap64 (2 ^ s.sets.toNat) = bitN s.sets from by
      have := shl_bit ⟨s.sets.toNat, by omega⟩
      dsimp only at this
      rwa [Int.toNat_of_nonneg hs] at this)
    go_wp2_with fail
    refine (cS.out _).mono ?_
    rintro e w3 ⟨rfl, hb3⟩
    have hB3 := Lib.hid (hB2.out.trans (hb3.mono (by simp at hz1; omega)))
    clear hb3
    go_wp2_with fail
    go_ret
    exact ⟨ret_int (by rw [hT.out, ← hsh.out]), hB3.out⟩
  · have hT := Lib.hid (show touch s = s.reads from if_neg hs)
    go_wp2_with fail
    go_ret
    exact ⟨ret_int hT.out, hB2.out⟩
/-- Whether what two statements touch is apart, told by bits. -/
def bitAt (t x : Int) : Int := (t / 2 ^ x.toNat).tmod 2
theorem apart_facts : ∀ x : Fin 5, ∀ rx : Fin 16, ∀ y : Fin 5, ∀ ry : Fin 16,
    (if decide (0 ≤ (x : Int) - 1) && (bitAt (if 0 ≤ (y : Int) - 1 then bits .or .i64 ry (bitN ((y : Int) - 1)) else ry) ((x : Int) - 1) == 1) then false
      else (decide ((y : Int) - 1 < 0) || (bitAt (if 0 ≤ (x : Int) - 1 then bits .or .i64 rx (bitN ((x : Int) - 1)) else rx) ((y : Int) - 1) == 0))) = swapB ((x : Int) - 1) rx ((y : Int) - 1) ry := by decide +kernel
theorem apart_swap {a b : St} (ha : a.ok = true) (hb : b.ok = true) :
    (if decide (0 ≤ a.sets) && (bitAt (touch b) a.sets == 1) then false else (decide (b.sets < 0) || (bitAt (touch a) b.sets == 0))) = swapOk a b := by
  have h1 := sets_bd a ha
  have h2 := sets_bd b hb
  have h3 := reads_bd a
  have h4 := reads_bd b
  have := apart_facts ⟨(a.sets + 1).toNat, by omega⟩ ⟨a.reads.toNat, by omega⟩ ⟨(b.sets + 1).toNat, by omega⟩ ⟨b.reads.toNat, by omega⟩
  dsimp only at this
  rw [Int.toNat_of_nonneg (by omega), Int.toNat_of_nonneg (by omega), Int.toNat_of_nonneg (by omega), Int.toNat_of_nonneg (by omega), Int.add_sub_cancel, Int.add_sub_cancel] at this
  exact this
set_option maxHeartbeats 1000000 in
theorem l6Apart_any (a b : St) (w : World) (ha : a.ok = true) (hb : b.ok = true) :
    Calls Try.prog 92 #[.agg #[.int .i64 a.k, .int .i64 a.a, .int .i64 a.b, .int .i64 a.c, .int .i64 a.u, .int .i64 a.v, .int .i64 a.x], .agg #[.int .i64 b.k, .int .i64 b.a, .int .i64 b.b, .int .i64 b.c, .int .i64 b.u, .int .i64 b.v, .int .i64 b.x]] w fun e w' => e = .returned (.bool (swapOk a b)) ∧ Below w.heap.size w w' := by
  have hR := Lib.hid (apart_swap ha hb)
  have hsa := sets_bd a ha
  have hsb := sets_bd b hb
  have cTa := Lib.hid (fun wx => l6Touch_any a wx ha)
  have cTb := Lib.hid (fun wx => l6Touch_any b wx hb)
  have cSa : Hid (∀ wx : World, Calls Try.prog 93 #[.agg #[.int .i64 a.k, .int .i64 a.a, .int .i64 a.b, .int .i64 a.c, .int .i64 a.u, .int .i64 a.v, .int .i64 a.x]] wx fun e w' => e = .returned (.int .i64 a.sets) ∧ Below wx.heap.size wx w') := Lib.hid (fun wx => specStmtSets_any a.k a.a a.b a.c a.u a.v a.x wx)
  have cSb : Hid (∀ wx : World, Calls Try.prog 93 #[.agg #[.int .i64 b.k, .int .i64 b.a, .int .i64 b.b, .int .i64 b.c, .int .i64 b.u, .int .i64 b.v, .int .i64 b.x]] wx fun e w' => e = .returned (.int .i64 b.sets) ∧ Below wx.heap.size wx w') := Lib.hid (fun wx => specStmtSets_any b.k b.a b.b b.c b.u b.v b.x wx)
  have h1 := ((Has.new w 63 #[.int .i64 a.k, .int .i64 a.a, .int .i64 a.b, .int .i64 a.c, .int .i64 a.u, .int .i64 a.v, .int .i64 a.x]).alloc (.cells #[.int .i64 b.k, .int .i64 b.a, .int .i64 b.b, .int .i64 b.c, .int .i64 b.u, .int .i64 b.v, .int .i64 b.x] 63))
  have h2 := (Has.newAt (w := w.alloc (.cells #[.int .i64 a.k, .int .i64 a.a, .int .i64 a.b, .int .i64 a.c, .int .i64 a.u, .int .i64 a.v, .int .i64 a.x] 63)) (n := w.heap.size + 1) (t := 63) (cs := #[.int .i64 b.k, .int .i64 b.a, .int .i64 b.b, .int .i64 b.c, .int .i64 b.u, .int .i64 b.v, .int .i64 b.x]) (by simp))
  have hB : Below w.heap.size w ((w.alloc (.cells #[.int .i64 a.k, .int .i64 a.a, .int .i64 a.b, .int .i64 a.c, .int .i64 a.u, .int .i64 a.v, .int .i64 a.x] 63)).alloc (.cells #[.int .i64 b.k, .int .i64 b.a, .int .i64 b.b, .int .i64 b.c, .int .i64 b.u, .int .i64 b.v, .int .i64 b.x] 63)) := ((Below.refl _ _).alloc (Nat.le_refl _) _).alloc (by simp) _
  have e1 := h1.cell
  have e2 := h2.cell
  clear ha hb
  generalize swapOk a b = res at hR ⊢
  go_enter Try.func92, Try.ntmps92
  go_wp2_with fail
  generalize ((w.alloc (.cells #[.int .i64 a.k, .int .i64 a.a, .int .i64 a.b, .int .i64 a.c, .int .i64 a.u, .int .i64 a.v, .int .i64 a.x] 63)).alloc (.cells #[.int .i64 b.k, .int .i64 b.a, .int .i64 b.b, .int .i64 b.c, .int .i64 b.u, .int .i64 b.v, .int .i64 b.x] 63)) = W0 at h1 h2 hB e1 e2 ⊢
  refine (cSa.out _).mono ?_
  rintro e w1 ⟨rfl, hb1⟩
  have hB1 := Lib.hid (hB.trans (hb1.mono hB.size))
  have g1 := Lib.hid (h1.kept hb1)
  have g2 := Lib.hid (h2.kept hb1)
  clear e1 e2 hb1 h1 h2 hB
  have e1 := g1.out.cell
  have e2 := g2.out.cell
  go_wp2_with fail
  refine (cSb.out _).mono ?_
  rintro e w2 ⟨rfl, hb2⟩
  have hB2 := Lib.hid (hB1.out.trans (hb2.mono hB1.out.size))
  have i1 := Lib.hid (g1.out.kept hb2)
  have i2 := Lib.hid (g2.out.kept hb2)
  clear e1 e2 hb2
  have e1 := i1.out.cell
  have e2 := i2.out.cell
  by_cases hx : 0 ≤ a.sets
  · go_wp2_with fail
    refine (cTb.out _).mono ?_
    rintro e w3 ⟨rfl, hb3⟩
    have hB3 := Lib.hid (hB2.out.trans (hb3.mono hB2.out.size))
    have j1 := Lib.hid (i1.out.kept hb3)
    clear e1 e2 hb3
    have e1 := j1.out.cell
    cases hq : ((touch b / 2 ^ a.sets.toNat).tmod 2 == 1)
    · by_cases hy : b.sets < 0
      · have hF := Lib.hid (show res = true by have h := hR.out; rw [show bitAt (touch b) a.sets = (touch b / 2 ^ a.sets.toNat).tmod 2 from rfl, hq, Bool.and_false, if_neg (by decide)] at h; simpa [hy] using h.symm)
        go_wp2_with fail
        go_ret
        exact ⟨ret_bool hF.out, hB3.out⟩
      · have hF := Lib.hid (show res = (decide (b.sets < 0) || ((touch a / 2 ^ b.sets.toNat).tmod 2 == 0)) by have h := hR.out; rw [show bitAt (touch b) a.sets = (touch b / 2 ^ a.sets.toNat).tmod 2 from rfl, hq, Bool.and_false, if_neg (by decide)] at h; exact h.symm)
        go_wp2_with fail
        refine (cTa.out _).mono ?_
        rintro e w9 ⟨rfl, hb9⟩
        have hB9 := Lib.hid (hB3.out.trans (hb9.mono hB3.out.size))
        clear hb9
        go_wp2_with fail
        go_ret
        exact ⟨ret_bool hF.out, hB9.out⟩
    · have hF := Lib.hid (show res = false by have h := hR.out; rw [show bitAt (touch b) a.sets = (touch b / 2 ^ a.sets.toNat).tmod 2 from rfl, hq, decide_eq_true hx, Bool.and_self, if_pos rfl] at h; exact h.symm)
      go_wp2_with fail
      go_ret
      exact ⟨ret_bool hF.out, hB3.out⟩
  · by_cases hy : b.sets < 0
    · have hF := Lib.hid (show res = true by have h := hR.out; rw [decide_eq_false hx, Bool.false_and, if_neg (by decide)] at h; simpa [hy] using h.symm)
      go_wp2_with fail
      go_ret
      exact ⟨ret_bool hF.out, hB2.out⟩
    · have hF := Lib.hid (show res = (decide (b.sets < 0) || ((touch a / 2 ^ b.sets.toNat).tmod 2 == 0)) by have h := hR.out; rw [decide_eq_false hx, Bool.false_and, if_neg (by decide)] at h; exact h.symm)
      go_wp2_with fail
      refine (cTa.out _).mono ?_
      rintro e w9 ⟨rfl, hb9⟩
      have hB9 := Lib.hid (hB2.out.trans (hb9.mono hB2.out.size))
      clear hb9
      go_wp2_with fail
      go_ret
      exact ⟨ret_bool hF.out, hB9.out⟩
end Go.Proofs.Ytkggejmamhakaaa
namespace Go.Proofs.Ytkggejmamhakaaa
set_option maxRecDepth 100000
set_option linter.unusedVariables false
open Go.RowKit
theorem l4Common_flip (a b : Int) (w : World) (ha : 0 ≤ a ∧ a ≤ 9223372036854775807) (hb : 0 ≤ b ∧ b ≤ 9223372036854775807) :
    Calls Try.prog 97 #[.int .i64 a, .int .i64 b] w fun e w' => e = .returned (.int .i64 (gcdI a b)) ∧ w' = w := (l4Common_any a b w ha hb).mono fun _ _ h => ⟨h.1, h.2.symm⟩
set_option maxHeartbeats 1000000 in
theorem l6Common_any (u v x : Int) (w : World) (hu : 0 ≤ u ∧ u ≤ 99) (hv : 0 ≤ v ∧ v ≤ 99) (hx : 0 ≤ x ∧ x ≤ 99) :
    Calls Try.prog 66 #[.agg #[.int .i64 u, .int .i64 v, .int .i64 x]] w fun e w' => e = .returned (.int .i64 (gcdI (gcdI u v) x)) ∧ Below w.heap.size w w' := by
  have h1 := Has.new w 61 #[.int .i64 u, .int .i64 v, .int .i64 x]
  have hB : Below w.heap.size w (w.alloc (.cells #[.int .i64 u, .int .i64 v, .int .i64 x] 61)) := (Below.refl _ _).alloc (Nat.le_refl _) _
  have hg := gcdI_bd (M := 99) hu hv
  go_enter Try.func66, Try.ntmps66
  go_wp2_with fail
  generalize w.alloc (.cells #[.int .i64 u, .int .i64 v, .int .i64 x] 61) = W0 at h1 hB ⊢
  have e1 := h1.cell
  go_quiet (first | (go_at_call 97; exact Calls.quiet_of_same (l4Common_flip _ _ _ (by omega) (by omega))))
  go_wp2_with fail
  go_ret
  exact ⟨rfl, below_drewN hB _⟩
/-- The products so far. -/
def prodA (s t : St) : Nat → Array Value
  | 0 => #[.int .i64 0, .int .i64 0, .int .i64 0]
  | 1 => #[.int .i64 (s.u * t.u), .int .i64 0, .int .i64 0]
  | 2 => #[.int .i64 (s.u * t.u), .int .i64 (s.v * t.v), .int .i64 0]
  | _ => #[.int .i64 (s.u * t.u), .int .i64 (s.v * t.v), .int .i64 (s.x * t.x)]
set_option maxHeartbeats 1000000 in
theorem l6Product_any (s t : St) (w : World) (hs : (0 ≤ s.u ∧ s.u ≤ 9) ∧ (0 ≤ s.v ∧ s.v ≤ 9) ∧ (0 ≤ s.x ∧ s.x ≤ 9)) (ht : (0 ≤ t.u ∧ t.u ≤ 9) ∧ (0 ≤ t.v ∧ t.v ≤ 9) ∧ (0 ≤ t.x ∧ t.x ≤ 9)) :
    Calls Try.prog 91 #[.agg #[.int .i64 s.u, .int .i64 s.v, .int .i64 s.x], .agg #[.int .i64 t.u, .int .i64 t.v, .int .i64 t.x]] w
      fun e w' => e = .returned (.tuple #[.agg #[.int .i64 (s.u * t.u), .int .i64 (s.v * t.v), .int .i64 (s.x * t.x)], .bool (wOk (s.u * t.u) (s.v * t.v) (s.x * t.x))]) ∧ Below w.heap.size w w' := by
  have b1 := fold_bd hs.1 ht.1
  have b2 := fold_bd hs.2.1 ht.2.1
  have b3 := fold_bd hs.2.2 ht.2.2
  have x1 : wrap64 (s.u * t.u) = s.u * t.u := w64 (by omega)
  have x2 : wrap64 (s.v * t.v) = s.v * t.v := w64 (by omega)
  have x3 : wrap64 (s.x * t.x) = s.x * t.x := w64 (by omega)
  have cW := Lib.hid (fun wx => l1Weights_any (s.u * t.u) (s.v * t.v) (s.x * t.x) wx)
  have h1 := Lib.hid ((((Has.new w 61 #[.int .i64 s.u, .int .i64 s.v, .int .i64 s.x]).alloc (.cells #[.int .i64 t.u, .int .i64 t.v, .int .i64 t.x] 61)).alloc (.cells #[.int .i64 0, .int .i64 0, .int .i64 0] 61)).alloc (.cells #[.int .i64 0, .int .i64 0, .int .i64 0] 61))
  have h2 := Lib.hid (((Has.newAt (w := w.alloc (.cells #[.int .i64 s.u, .int .i64 s.v, .int .i64 s.x] 61)) (n := w.heap.size + 1) (t := 61) (cs := #[.int .i64 t.u, .int .i64 t.v, .int .i64 t.x]) (by simp)).alloc (.cells #[.int .i64 0, .int .i64 0, .int .i64 0] 61)).alloc (.cells #[.int .i64 0, .int .i64 0, .int .i64 0] 61))
  have h3 := Lib.hid ((Has.newAt (w := (w.alloc (.cells #[.int .i64 s.u, .int .i64 s.v, .int .i64 s.x] 61)).alloc (.cells #[.int .i64 t.u, .int .i64 t.v, .int .i64 t.x] 61)) (n := w.heap.size + 2) (t := 61) (cs := #[.int .i64 0, .int .i64 0, .int .i64 0]) (by simp)).alloc (.cells #[.int .i64 0, .int .i64 0, .int .i64 0] 61))
  have h4 := Lib.hid (Has.newAt (w := ((w.alloc (.cells #[.int .i64 s.u, .int .i64 s.v, .int .i64 s.x] 61)).alloc (.cells #[.int .i64 t.u, .int .i64 t.v, .int .i64 t.x] 61)).alloc (.cells #[.int .i64 0, .int .i64 0, .int .i64 0] 61)) (n := w.heap.size + 3) (t := 61) (cs := #[.int .i64 0, .int .i64 0, .int .i64 0]) (by simp))
  have hB := Lib.hid (show Below w.heap.size w ((((w.alloc (.cells #[.int .i64 s.u, .int .i64 s.v, .int .i64 s.x] 61)).alloc (.cells #[.int .i64 t.u, .int .i64 t.v, .int .i64 t.x] 61)).alloc (.cells #[.int .i64 0, .int .i64 0, .int .i64 0] 61)).alloc (.cells #[.int .i64 0, .int .i64 0, .int .i64 0] 61)) from ((((Below.refl _ _).alloc (Nat.le_refl _) _).alloc (by simp) _).alloc (by simp; omega) _).alloc (by simp; omega) _)
  go_enter Try.func91, Try.ntmps91
  go_wp2_with fail
  go_loopg [7] 3 (fun gn i wr => ∃ k : Nat, k ≤ 3 ∧ gn = 3 - k ∧ i = .int .i64 k ∧ Has wr w.heap.size 61 #[.int .i64 s.u, .int .i64 s.v, .int .i64 s.x] ∧ Has wr (w.heap.size + 1) 61 #[.int .i64 t.u, .int .i64 t.v, .int .i64 t.x] ∧ Has wr (w.heap.size + 2) 61 #[.int .i64 0, .int .i64 0, .int .i64 0] ∧ Has wr (w.heap.size + 3) 61 (prodA s t k) ∧ Below w.heap.size w wr)
  case atStart => exact ⟨0, by decide, rfl, rfl, h1.out, h2.out, h3.out, h4.out, hB.out⟩
  case round =>
    obtain ⟨k, hk, hgn, rfl, i1, i2, i3, i4, hb⟩ := hrel
    have hgk : gk = 3 - k := hgn
    have j1 := Lib.hid i1
    have j2 := Lib.hid i2
    have j3 := Lib.hid i3
    have j4 := Lib.hid i4
    have jb := Lib.hid hb
    clear hgn hb
    obtain rfl | rfl | rfl | rfl : k = 0 ∨ k = 1 ∨ k = 2 ∨ k = 3 := by omega
    · have c1 := i1.cell
      have c2 := i2.cell
      have c4 := i4.cell
      have f4 := i4.frozen
      simp only [prodA] at c4
      have hp := Lib.hid (i4.put 0 (.int .i64 (s.u * t.u)))
      have hq1 := Lib.hid (i1.far (p := ⟨w.heap.size + 3, 0, none⟩) (by simp) (.int .i64 (s.u * t.u)))
      have hq2 := Lib.hid (i2.far (p := ⟨w.heap.size + 3, 0, none⟩) (by simp) (.int .i64 (s.u * t.u)))
      have hq3 := Lib.hid (i3.far (p := ⟨w.heap.size + 3, 0, none⟩) (by simp) (.int .i64 (s.u * t.u)))
      have hqb := Lib.hid (jb.out.setCell (p := ⟨w.heap.size + 3, 0, none⟩) (by simp) (.int .i64 (s.u * t.u)))
      clear i1 i2 i3 i4
      go_wp2_with fail
      go_still_tail 9, (by kernel_rfl)
      repeat still_step
      try (refine wpStill_nil ?_)
      try (change wpList _ _ _ _ _ (World.drew _))
      go_wp2_with fail
      go_roundg (3 - 1)
      case measure => omega
      case rel => exact ⟨1, by decide, rfl, rfl, hq1.out, hq2.out, hq3.out, hp.out, hqb.out.drew⟩
    · have c1 := i1.cell
      have c2 := i2.cell
      have c4 := i4.cell
      have f4 := i4.frozen
      simp only [prodA] at c4
      have hp := Lib.hid (i4.put 1 (.int .i64 (s.v * t.v)))
      have hq1 := Lib.hid (i1.far (p := ⟨w.heap.size + 3, 1, none⟩) (by simp) (.int .i64 (s.v * t.v)))
      have hq2 := Lib.hid (i2.far (p := ⟨w.heap.size + 3, 1, none⟩) (by simp) (.int .i64 (s.v * t.v)))
      have hq3 := Lib.hid (i3.far (p := ⟨w.heap.size + 3, 1, none⟩) (by simp) (.int .i64 (s.v * t.v)))
      have hqb := Lib.hid (jb.out.setCell (p := ⟨w.heap.size + 3, 1, none⟩) (by simp) (.int .i64 (s.v * t.v)))
      clear i1 i2 i3 i4
      go_wp2_with fail
      go_still_tail 9, (by kernel_rfl)
      repeat still_step
      try (refine wpStill_nil ?_)
      try (change wpList _ _ _ _ _ (World.drew _))
      go_wp2_with fail
      go_roundg (3 - 2)
      case measure => omega
      case rel => exact ⟨2, by decide, rfl, rfl, hq1.out, hq2.out, hq3.out, hp.out, hqb.out.drew⟩
    · have c1 := i1.cell
      have c2 := i2.cell
      have c4 := i4.cell
      have f4 := i4.frozen
      simp only [prodA] at c4
      have hp := Lib.hid (i4.put 2 (.int .i64 (s.x * t.x)))
      have hq1 := Lib.hid (i1.far (p := ⟨w.heap.size + 3, 2, none⟩) (by simp) (.int .i64 (s.x * t.x)))
      have hq2 := Lib.hid (i2.far (p := ⟨w.heap.size + 3, 2, none⟩) (by simp) (.int .i64 (s.x * t.x)))
      have hq3 := Lib.hid (i3.far (p := ⟨w.heap.size + 3, 2, none⟩) (by simp) (.int .i64 (s.x * t.x)))
      have hqb := Lib.hid (jb.out.setCell (p := ⟨w.heap.size + 3, 2, none⟩) (by simp) (.int .i64 (s.x * t.x)))
      clear i1 i2 i3 i4
      go_wp2_with fail
      go_still_tail 9, (by kernel_rfl)
      repeat still_step
      try (refine wpStill_nil ?_)
      try (change wpList _ _ _ _ _ (World.drew _))
      go_wp2_with fail
      go_roundg (3 - 3)
      case measure => omega
      case rel => exact ⟨3, by decide, rfl, rfl, hq1.out, hq2.out, hq3.out, hp.out, hqb.out.drew⟩
    · clear i1 i2 i3 i4
      have c4 := j4.out.cell
      simp only [prodA] at c4
      go_wp2_with fail
      have e4 := Lib.hid (show Has wr (w.heap.size + 3) 61 #[.int .i64 (s.u * t.u), .int .i64 (s.v * t.v), .int .i64 (s.x * t.x)] from j4.out)
      have hOk := Lib.hid (fun (wx : World) (hx : Below wr.heap.size wr wx) => (show Below wr.heap.size wr wx ∧ wx.cell? ⟨w.heap.size + 3, 0, none⟩ = some (.int .i64 (s.u * t.u)) ∧ wx.cell? ⟨w.heap.size + 3, 1, none⟩ = some (.int .i64 (s.v * t.v)) ∧ wx.cell? ⟨w.heap.size + 3, 2, none⟩ = some (.int .i64 (s.x * t.x)) from ⟨hx, (e4.out.kept hx).cell 0, (e4.out.kept hx).cell 1, (e4.out.kept hx).cell 2⟩))
      have c3 := j3.out.cell
      have f3 := j3.out.frozen
      go_region_law (first | (go_simp; go_at_call 113; refine (cW.out _).mono ?_; rintro e w5 ⟨rfl, hb5⟩; have k3 := Has.kept (by exact j3.out) hb5; have k3c := k3.cell; have k3f := k3.frozen; have k4 := Has.kept (by exact e4.out) hb5; have k4c := k4.cell))
      all_goals
        go_wp2_with fail
        refine bodyPost_ret (v := .tuple #[.agg #[.int .i64 (s.u * t.u), .int .i64 (s.v * t.v), .int .i64 (s.x * t.x)], .bool (wOk (s.u * t.u) (s.v * t.v) (s.x * t.x))]) (by simp [results, Try.results91, go_sem, k3c]) rfl ⟨rfl, ?_⟩
        have hB5 : Below w.heap.size w w5 := jb.out.drew.trans (hb5.mono (by first | exact jb.out.size | (show w.heap.size ≤ wr.heap.size; exact jb.out.size)))
        exact ((hB5.setCell (p := ⟨w.heap.size + 2, 0, none⟩) (by simp) _).setCell (p := ⟨w.heap.size + 2, 1, none⟩) (by simp) _).setCell (p := ⟨w.heap.size + 2, 2, none⟩) (by simp) _
end Go.Proofs.Ytkggejmamhakaaa
