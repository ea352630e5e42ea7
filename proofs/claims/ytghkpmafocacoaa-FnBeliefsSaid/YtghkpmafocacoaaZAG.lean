/- Parts of the proof: FD, FO, Ry, FC, FS, Rz. -/
import Derived.Test.YtghkpmafocacoaaZAF
import Derived.Test.YtghkpmafocacoaaZAD
import Derived.Deep.RegionLaw
import Derived.Test.YtghkpmafocacoaaZAA
import Derived.Test.YtghkpmafocacoaaZAB
namespace Go.Proofs.Ytghkpmafocacoaa
set_option maxRecDepth 100000
set_option linter.unusedVariables false
open Go.RowKit
theorem idx_append : ∀ (vs : List Int) (v st : Int), idx (vs ++ [v]) st = idx vs st + ((3 ^ vs.length : Nat) : Int) * valueAt st v
  | [], v, st => by simp [idx]
  | u :: r, v, st => by
    have ih := idx_append r v st
    have e1 : idx (u :: r ++ [v]) st = 3 * idx (r ++ [v]) st + valueAt st u := rfl
    have e2 : idx (u :: r) st = 3 * idx r st + valueAt st u := rfl
    have e3 : ((3 ^ (u :: r).length : Nat) : Int) = 3 * ((3 ^ r.length : Nat) : Int) := by
      rw [List.length_cons, Nat.pow_succ, Int.natCast_mul, Int.mul_comm]; rfl
    rw [e1, e2, e3, ih, Int.mul_add, Int.mul_assoc]
    omega
theorem idx_take {vs : List Int} {k : Nat} {v st : Int} (h : vs[k]? = some v) : idx (vs.take (k + 1)) st = idx (vs.take k) st + ((3 ^ k : Nat) : Int) * valueAt st v := by
  obtain ⟨hl, he⟩ := List.getElem?_eq_some_iff.1 h
  rw [List.take_succ_eq_append_getElem hl, idx_append, he, List.length_take, Nat.min_eq_left (by omega)]
/-- The bit of a variable against those of lesser ones. -/
theorem bit_gt : ∀ L : Fin 16, ∀ v : Fin 4, (bitN (v.val : Int) ≤ (L.val : Int)) ↔ ¬ ((over (L.val : Int)).length = 0 ∨ vAt (over (L.val : Int)) ((over (L.val : Int)).length - 1) < (v.val : Int)) := by decide +kernel
theorem vAt_take {vs : List Int} {k i : Nat} (h : i < k) : vAt (vs.take k) i = vAt vs i := by
  unfold vAt
  rw [List.getD_eq_getElem?_getD, List.getD_eq_getElem?_getD, List.getElem?_take, if_pos h]
theorem vars_take {vs : List Int} {k : Nat} (hk : k ≤ vs.length) (h : ∀ i, i < k → vOkAt vs i = true) : varsOk (vs.take k) = true := vars_all fun i hi => by
  have hi' : i < k := by rw [List.length_take] at hi; omega
  have := h i hi'
  unfold vOkAt at this ⊢
  rw [vAt_take hi', vAt_take (show i - 1 < k by omega)]
  exact this
theorem vOk_bit {vs : List Int} {k : Nat} {v : Int} (hk : vs[k]? = some v) (h : ∀ i, i < k → vOkAt vs i = true) : vOkAt vs k = !decide (bitN v ≤ setOf (vs.take k)) := by
  have hl := (List.getElem?_eq_some_iff.1 hk).1
  have ht := vars_take (by omega) h
  obtain ⟨L, hL⟩ := vars_over ht
  have hlen : (over (L.val : Int)).length = k := by rw [← hL, List.length_take]; omega
  have hv : vAt vs k = v := by
    unfold vAt
    rw [List.getD_eq_getElem?_getD, hk]
    rfl
  rw [hL, (over_ok L).2.1]
  unfold vOkAt
  rw [hv]
  cases hin : inB v 0 3
  · have hb : bitN v = 0 := by unfold bitN; rw [hin]; rfl
    rw [hb, decide_eq_true (show (0 : Int) ≤ (L.val : Int) by omega)]
    rfl
  · obtain ⟨V, rfl, _⟩ := nat_three (inB_iff.1 hin)
    have hg := bit_gt L V
    rw [hlen] at hg
    rw [Bool.true_and, Bool.eq_iff_iff, Bool.or_eq_true, decide_eq_true_eq, decide_eq_true_eq, Bool.not_eq_true', decide_eq_false_iff_not, hg, Classical.not_not]
    by_cases h0 : k = 0
    · exact ⟨fun _ => .inl h0, fun _ => .inl h0⟩
    · rw [← hL, vAt_take (show k - 1 < k by omega)]
/-- Counted up: what the values of a set's last variables are next. -/
def cu (L : Int) : Nat → Int → Int
  | 0, st => st
  | j + 1, st => if tb L (4 - (j + 1)) = false then cu L j st else if 0 < (valueAt st ((4 - (j + 1) : Nat) : Int) + 1) % 3 then withValue st ((4 - (j + 1) : Nat) : Int) ((valueAt st ((4 - (j + 1) : Nat) : Int) + 1) % 3) else cu L j (withValue st ((4 - (j + 1) : Nat) : Int) ((valueAt st ((4 - (j + 1) : Nat) : Int) + 1) % 3))
theorem cu_st : ∀ L : Fin 16, ∀ i : Fin 81, i.val < 3 ^ (over (L.val : Int)).length → cu (L.val : Int) 4 (stOf (over (L.val : Int)) (i.val : Int)) = stOf (over (L.val : Int)) ((i.val : Int) + 1) := by decide +kernel
theorem cu_st_ {L : Int} (hL : 0 ≤ L ∧ L ≤ 15) {i : Nat} (hi : i < 3 ^ (over L).length) : cu L 4 (stOf (over L) (i : Int)) = stOf (over L) ((i + 1 : Nat) : Int) := by
  obtain ⟨n, rfl⟩ := fin16 hL
  have := pow_four (over_ok n).2.2
  have := cu_st n ⟨i, by omega⟩ hi
  rw [Int.natCast_add]
  exact this
theorem stOf_zero {L : Int} : ∀ (vs : List Int), (∀ v ∈ vs, 0 ≤ v ∧ v ≤ 3) → stOf vs 0 = 0 := by
  intro vs h
  unfold stOf
  induction vs with
  | nil => rfl
  | cons v r ih =>
    have e : stF (v :: r) 0 0 = stF r (0 / 3) (withValue 0 v (0 % 3)) := rfl
    obtain ⟨V, rfl, _⟩ := nat_three (h v List.mem_cons_self)
    have hw : ∀ V : Fin 4, withValue 0 (V.val : Int) (0 % 3) = 0 := by decide +kernel
    rw [e, hw V]
    exact ih fun u hu => h u (List.mem_cons_of_mem _ hu)
theorem over_in {L : Int} (hL : 0 ≤ L ∧ L ≤ 15) : ∀ v ∈ over L, 0 ≤ v ∧ v ≤ 3 := by
  obtain ⟨n, rfl⟩ := fin16 hL
  exact (vars_len (over_ok n).1).2
theorem over_len {L : Int} (hL : 0 ≤ L ∧ L ≤ 15) : (over L).length ≤ 4 := by
  obtain ⟨n, rfl⟩ := fin16 hL
  exact (over_ok n).2.2
theorem stOver_bd {L : Int} (hL : 0 ≤ L ∧ L ≤ 15) {i : Nat} : 0 ≤ stOf (over L) (i : Int) ∧ stOf (over L) (i : Int) ≤ 80 := stF_bd (over_in hL) (Int.natCast_nonneg _) (by decide)
/-- The first numbers of a factor by states. -/
def facPre (L : Int) (g : Int → Int) (k : Nat) : List Int := (List.range k).map fun (i : Nat) => g (stOf (over L) (i : Int))
theorem facPre_succ (L : Int) (g : Int → Int) (k : Nat) : facPre L g (k + 1) = facPre L g k ++ [g (stOf (over L) (k : Int))] := by
  unfold facPre
  rw [List.range_succ, List.map_append]
  rfl
theorem facPre_len (L : Int) (g : Int → Int) (k : Nat) : (facPre L g k).length = k := by unfold facPre; simp
theorem facPre_all (L : Int) (g : Int → Int) : facPre L g (3 ^ (over L).length) = (facBy_ L g).ns := rfl
/-- The product of many factors' numbers. -/
def prodAt (Fs : List Fac) (st : Int) : Int := Fs.foldl (fun m F => m * fAt F st) 1
theorem prod_take {Fs : List Fac} {k : Nat} {F : Fac} (h : Fs[k]? = some F) (st : Int) : prodAt (Fs.take (k + 1)) st = prodAt (Fs.take k) st * fAt F st := by
  obtain ⟨hl, he⟩ := List.getElem?_eq_some_iff.1 h
  unfold prodAt
  rw [List.take_succ_eq_append_getElem hl, List.foldl_append, he]
  rfl
theorem fAt_bd {M : Int} {F : Fac} (h : facOk M F = true) (hM : 0 ≤ M) (st : Int) : 0 ≤ fAt F st ∧ fAt F st ≤ M := by
  obtain ⟨_, h2, _, _, _⟩ := fac_parts h
  unfold fAt
  rw [List.getD_eq_getElem?_getD]
  cases hg : F.ns[(idx F.vs st).toNat]? with
  | none => exact ⟨Int.le_refl 0, hM⟩
  | some d => exact inB_iff.1 (List.all_eq_true.1 h2 d (List.mem_of_getElem? hg))
theorem prod_bd {M : Int} {Fs : List Fac} (hM : 1 ≤ M) (h : ∀ F ∈ Fs, facOk M F = true) (st : Int) : ∀ k, 0 ≤ prodAt (Fs.take k) st ∧ prodAt (Fs.take k) st ≤ M ^ k
  | 0 => by simp [prodAt]
  | k + 1 => by
    have ih := prod_bd hM h st k
    have hp : (0 : Int) ≤ M ^ k := Int.pow_nonneg (by omega)
    cases hk : Fs[k]? with
    | none =>
      have hl := List.getElem?_eq_none_iff.1 hk
      rw [List.take_of_length_le (by omega)] at ih ⊢
      refine ⟨ih.1, Int.le_trans ih.2 ?_⟩
      rw [Int.pow_succ]
      have := Int.mul_le_mul_of_nonneg_left hM hp
      omega
    | some F =>
      have hF := fAt_bd (h F (List.mem_of_getElem? hk)) (by omega) st
      rw [prod_take hk, Int.pow_succ]
      exact ⟨Int.mul_nonneg ih.1 hF.1, Int.mul_le_mul ih.2 hF.2 hF.1 hp⟩
end Go.Proofs.Ytghkpmafocacoaa

namespace Go.Proofs.Ytghkpmafocacoaa
set_option maxRecDepth 100000
set_option linter.unusedVariables false
open Go.RowKit
theorem p3_bd4 {k : Nat} (h : k ≤ 4) : 1 ≤ p3 k ∧ p3 k ≤ 81 := by
  have h1 := pow_four h
  have h2 : 0 < 3 ^ k := Nat.pow_pos (by decide)
  rw [p3_pow]
  omega
set_option maxHeartbeats 1000000 in
theorem FactorOk_any (A1 A2 : Option Addr) (n1 c1 n2 c2 : Nat) (F : Fac) (w : World) (h : FacW w w.heap.size A1 n1 A2 n2 F) (hn1 : n1 ≤ maxLen) (hn2 : n2 ≤ maxLen) :
    Calls Try.prog 99 #[.agg #[.slice A1 n1 c1, .slice A2 n2 c2]] w fun e w' => e = .returned (.bool (facOk 1000000000 F)) ∧ Below w.heap.size w w' := by
  have hB0 : Below w.heap.size w (w.alloc (.cells #[.slice A1 n1 c1, .slice A2 n2 c2] 56)) := (Below.refl _ _).alloc (Nat.le_refl _) _
  have hl1 := h.1.1
  have hl2 := h.2.1
  have hF := Lib.hid (h.below hB0)
  have hH := Lib.hid (Has.new w 56 #[.slice A1 n1 c1, .slice A2 n2 c2])
  have hB := Lib.hid hB0
  have cN := Lib.hid (fun wx hx => numbersOk_any A2 n2 c2 F.ns 1000000000 wx hx hn2)
  unfold maxLen at hn1 hn2
  clear h hB0
  go_enter Try.func99, Try.ntmps99
  go_wp2_with fail
  generalize w.alloc (.cells #[.slice A1 n1 c1, .slice A2 n2 c2] 56) = W0 at hF hH hB ⊢
  generalize hG : w.heap.size = G at hH ⊢
  have hc0 := hH.out.cell
  go_wp2_with fail
  clear hc0
  go_loopg [3, 4, 10] n1 (fun gn s m v wr => ∃ k : Nat, k ≤ n1 ∧ gn = n1 - k ∧ v = .int .i64 k ∧ s = .int .i64 (setOf (F.vs.take k)) ∧ m = .int .i64 (p3 k) ∧ (∀ i, i < k → vOkAt F.vs i = true) ∧ ∃ q, wr = W0.drewN q)
  case atStart => exact ⟨0, Nat.zero_le _, rfl, rfl, rfl, rfl, fun i hi => absurd hi (by omega), 0, rfl⟩
  case round =>
    obtain ⟨k, hk, hgn, rfl, rfl, rfl, hno, q, rfl⟩ := hrel
    have hgk : gk = n1 - k := hgn
    clear hgn
    have hNo := Lib.hid hno
    have hvt := vars_take (show k ≤ F.vs.length by omega) hno
    have hk4 : k ≤ 4 := by
      have := (vars_len hvt).1
      rw [List.length_take] at this
      omega
    have hp := pow_four hk4
    have hsb := setOf_bd (vars_len hvt).2 k
    rw [List.take_take, Nat.min_self] at hsb
    clear hno hvt
    by_cases hlt : k < n1
    · obtain ⟨g, off, d, rfl, hg, hd, cd⟩ := hF.out.1.at_ hlt
      have cd' : (W0.drewN q).cell? ⟨g, off + k, none⟩ = some (.int .i64 d) := cd
      have hk0 : (0 : Int) ≤ (k : Int) := by omega
      have hk1 : (k : Int) < (n1 : Int) := by omega
      have hvk := Lib.hid (vOk_bit hd hNo.out)
      have hst := Lib.hid (setOf_take hd)
      have cB := Lib.hid (fun wx => bitOf_any d wx)
      clear cd hd
      by_cases hbl : bitN d ≤ setOf (F.vs.take k)
      · have hR := Lib.hid (facOk_no (M := 1000000000) (k := k) (F := F) (by omega) (by rw [hvk.out, decide_eq_true hbl]; rfl))
        have hbl' : ¬ setOf (F.vs.take k) < bitN d := by omega
        go_wp2_with fail
        refine (cB.out _).mono ?_
        rintro e w' ⟨rfl, rfl⟩
        go_wp2_with fail
        go_ret
        exact ⟨ret_bool hR.out, hB.out.trans ((below_drewN (Below.refl _ _) _).mono hB.out.size)⟩
      · have hO := Lib.hid (show vOkAt F.vs k = true by rw [hvk.out, decide_eq_false hbl]; rfl)
        have hbd := bitN_le d
        have hbo := bits_or hsb hbd
        have hp3 := p3_bd4 hk4
        go_wp2_with fail
        refine (cB.out _).mono ?_
        rintro e w' ⟨rfl, rfl⟩
        go_wp2_with fail
        refine (cB.out _).mono ?_
        rintro e w' ⟨rfl, rfl⟩
        go_wp2_with fail
        go_roundg (n1 - (k + 1))
        case measure => omega
        case rel => exact ⟨k + 1, by omega, rfl, by go_num, by rw [hst.out, ← hbo], rfl, fun i hi => by
          by_cases he : i = k
          · rw [he]; exact hO.out
          · exact hNo.out i (by omega), _, rfl⟩
    · obtain rfl : k = n1 := by omega
      have hvo : varsOk F.vs = true := vars_all fun i hi => hNo.out i (by omega)
      have hcm := (hH.out.drewN q).cell
      have hF2 := Lib.hid ((hF.out.2.below (below_drewN (Below.refl W0.heap.size W0) q)).more (below_drewN (Below.refl W0.heap.size W0) q).size)
      cases hln : ((n2 : Int) == p3 k)
      · have hR := Lib.hid (show facOk 1000000000 F = false by
          unfold facOk
          rw [hvo, hl2, hl1, decide_eq_false (by intro e; rw [e, p3_pow] at hln; simp at hln), Bool.and_false, Bool.and_false])
        go_wp2_with fail
        go_ret
        exact ⟨ret_bool hR.out, hB.out.trans ((below_drewN (Below.refl _ _) _).mono hB.out.size)⟩
      · have hR := Lib.hid (show facOk 1000000000 F = numsOk 1000000000 F.ns by
          unfold facOk
          rw [hvo, hl2, hl1, decide_eq_true (by have h4 := p3_pow k; have h5 : (n2 : Int) = p3 k := (by simpa using hln); omega), Bool.and_true, Bool.true_and])
        go_wp2_with fail
        refine (cN.out _ hF2.out).mono ?_
        rintro e w3 ⟨rfl, hb3⟩
        have hB3 := Lib.hid (hB.out.trans ((below_drewN (Below.refl _ _) q).mono hB.out.size))
        go_wp2_with fail
        go_ret
        exact ⟨ret_bool hR.out, hB3.out.trans (hb3.mono hB3.out.size)⟩
set_option maxHeartbeats 1000000 in
theorem numberIn_any (A1 A2 : Option Addr) (n1 c1 n2 c2 : Nat) (F : Fac) (st : Int) (w : World) (h : FacW w w.heap.size A1 n1 A2 n2 F) (hn : n1 ≤ 4) (hln : F.ns.length = 3 ^ F.vs.length) (hv : ∀ v ∈ F.vs, 0 ≤ v ∧ v ≤ 3) (hs : 0 ≤ st ∧ st ≤ 80) :
    Calls Try.prog 100 #[.agg #[.slice A1 n1 c1, .slice A2 n2 c2], .int .i64 st] w fun e w' => e = .returned (.int .i64 (fAt F st)) ∧ Below w.heap.size w w' := by
  have hB0 : Below w.heap.size w (w.alloc (.cells #[.slice A1 n1 c1, .slice A2 n2 c2] 56)) := (Below.refl _ _).alloc (Nat.le_refl _) _
  have hl1 := h.1.1
  have hl2 := h.2.1
  have hF := Lib.hid (h.below hB0)
  have hV := Lib.hid hv
  have hH := Lib.hid (Has.new w 56 #[.slice A1 n1 c1, .slice A2 n2 c2])
  have hB := Lib.hid hB0
  have hT := Lib.hid (show F.vs.take n1 = F.vs from List.take_of_length_le (by omega))
  obtain ⟨q, hq, hqn, hd0⟩ := fAt_get hln hv hs
  have hD := Lib.hid hd0
  have hq9 : (q : Int) < (n2 : Int) := by omega
  have hq0 : (0 : Int) ≤ (q : Int) := by omega
  have hQ := Lib.hid hq
  clear h hB0 hv hq hd0
  go_enter Try.func100, Try.ntmps100
  go_wp2_with fail
  generalize w.alloc (.cells #[.slice A1 n1 c1, .slice A2 n2 c2] 56) = W0 at hF hH hB ⊢
  generalize hG : w.heap.size = G at hH ⊢
  have hc0 := hH.out.cell
  go_wp2_with fail
  go_loopg [5, 6, 12] n1 (fun gn a m v wr => ∃ k : Nat, k ≤ n1 ∧ gn = n1 - k ∧ v = .int .i64 k ∧ a = .int .i64 (idx (F.vs.take k) st) ∧ m = .int .i64 (p3 k) ∧ wr = W0)
  case atStart => exact ⟨0, Nat.zero_le _, rfl, rfl, rfl, rfl, rfl⟩
  case round =>
    obtain ⟨k, hk, hgn, rfl, rfl, rfl, rfl⟩ := hrel
    have hgk : gk = n1 - k := hgn
    clear hgn
    by_cases hlt : k < n1
    · obtain ⟨g, off, d, rfl, hg, hd, cd⟩ := hF.out.1.at_ hlt
      have hk0 : (0 : Int) ≤ (k : Int) := by omega
      have hk1 : (k : Int) < (n1 : Int) := by omega
      have hst := Lib.hid (show idx (F.vs.take (k + 1)) st = idx (F.vs.take k) st + p3 k * valueAt st d by rw [p3_pow]; exact idx_take (st := st) hd)
      have hdb := hV.out d (List.mem_of_getElem? hd)
      have hvb := value_bd hs hdb
      have cA := Lib.hid (fun wx => ValueAt_any st d wx)
      have hib := idx_bd (vs := F.vs.take k) (fun v hx => hV.out v (List.mem_of_mem_take hx)) hs
      have hp4 := pow_four (n := (F.vs.take k).length) (by rw [List.length_take]; omega)
      have hp := pow_four (n := k) (by omega)
      have hp0 : 0 < 3 ^ k := Nat.pow_pos (by decide)
      have hp3 := p3_bd4 (k := k) (by omega)
      generalize idx (F.vs.take k) st = q0 at hst hib ⊢
      generalize valueAt st d = y at hst hvb cA
      have hm : 0 ≤ p3 k * y ∧ p3 k * y ≤ 162 := by
        obtain rfl | rfl | rfl : y = 0 ∨ y = 1 ∨ y = 2 := by omega
        all_goals omega
      have hst' := Lib.hid hst.out.symm
      generalize hP : p3 k * y = z at hm hst'
      have hw1 : IntKind.i64.wrap (p3 k * y) = z := by rw [hP, IntKind.wrap_i64]; omega
      have hw2 : IntKind.i64.wrap (q0 + z) = q0 + z := by rw [IntKind.wrap_i64]; omega
      clear hd hst hdb
      go_wp2_with fail
      refine (cA.out _).mono ?_
      rintro e w' ⟨rfl, rfl⟩
      go_wp2_with fail
      go_roundg (n1 - (k + 1))
      case measure => omega
      case rel => exact ⟨k + 1, by omega, rfl, by go_num, by first | (rw [← hst'.out, hw1, hw2]) | (rw [← hst'.out, hw2]) | rw [← hst'.out], rfl, rfl⟩
    · obtain rfl : k = n1 := by omega
      rw [hT.out, hQ.out]
      obtain ⟨g2, o2, d2, rfl, hg2, hd2, cd⟩ := hF.out.2.at_ (k := q) (by omega)
      obtain rfl : d2 = fAt F st := by have := hD.out; rw [hd2] at this; injection this
      go_wp2_with fail
      go_ret
      exact ⟨rfl, hB.out⟩
end Go.Proofs.Ytghkpmafocacoaa

namespace Go.Proofs.Ytghkpmafocacoaa
set_option maxRecDepth 100000
set_option linter.unusedVariables false
open Go.RowKit
section
variable {P : Program} {ops : Array Oper} {Q : Exit → Act → World → Prop} {md : Region.Mode}
def openOps (listed : Array Bool) : Nat := (listed.toList.filter fun b => !b).length
theorem open_list : ∀ (l : List Bool) (i : Nat), l[i]? = some false → ((l.set i true).filter fun b => !b).length + 1 = (l.filter fun b => !b).length
  | [], i, h => by simp at h
  | b :: l, 0, h => by
    have e : b = false := by simpa using h
    subst e
    simp
  | b :: l, i + 1, h => by
    have ih := open_list l i (by simpa using h)
    cases b <;> simp <;> omega
theorem open_set {listed : Array Bool} {i : Nat} (h : listed[i]? = some false) : openOps (listed.setIfInBounds i true) + 1 = openOps listed := by
  unfold openOps
  rw [Array.toList_setIfInBounds]
  exact open_list _ _ (by simpa using h)
theorem getD_false {listed : Array Bool} {i : Nat} (h : listed.getD i true = false) : listed[i]? = some false := by
  rw [Array.getD_eq_getD_getElem?] at h
  cases he : listed[i]? with
  | none => rw [he] at h; cases h
  | some b => rw [he] at h; simp at h; rw [h]
theorem open_none {listed : Array Bool} (h : openOps listed = 0) {i : Nat} : listed[i]? ≠ some false := fun e => by
  have := open_set e
  omega
/-- A REGION THAT DRAWS ITS ORDER, by what holds of what is listed: one proof for each operation. -/
theorem wpAny_inv {I : Array Bool → Act → World → Prop} (hs : ∀ listed a w, I listed a w → ∀ i ∈ Region.ready md ops listed, wpOp P ops Q i (I (listed.setIfInBounds i true)) a w)
    (he : ∀ listed a w, I listed a w → Region.ready md ops listed = [] → Q .normal a w) : ∀ (fuel : Nat) (listed : Array Bool) (a : Act) (w : World), I listed a w → openOps listed ≤ fuel → wpAny P md ops Q fuel listed a w
  | 0, listed, a, w, h, hf => by
    have hr : Region.ready md ops listed = [] := by
      apply List.eq_nil_iff_forall_not_mem.2
      intro i hi
      exact open_none (by omega) (getD_false (mem_ready.1 hi).1)
    exact ⟨hr, he listed a w h hr⟩
  | fuel + 1, listed, a, w, h, hf => by
    refine ⟨fun hr => he listed a w h hr, fun i hi => wpOp_mono (fun a' w' h' => ?_) (hs listed a w h i hi)⟩
    have := open_set (getD_false (mem_ready.1 hi).1)
    exact wpAny_inv hs he fuel _ a' w' h' (by omega)
/-- Where nothing is ready, all is listed. -/
theorem ready_done {listed : Array Bool} (hz : listed.size = ops.size) (hlt : (List.range ops.size).all (fun k => ((ops[k]?).map fun o => o.after.all fun e => decide (e.on < k)).getD true) = true) (hr : Region.ready md ops listed = []) :
    ∀ k, k < ops.size → listed.getD k false = true := by
  intro k
  induction k using Nat.strongRecOn with
  | _ k ih =>
    intro hk
    apply Classical.byContradiction
    intro h0
    have hkl : k < listed.size := by omega
    have hb : listed[k]? = some false := by
      rw [Array.getElem?_eq_getElem hkl]
      rw [Array.getD_eq_getD_getElem?, Array.getElem?_eq_getElem hkl] at h0
      simp at h0
      rw [h0]
    have hm : k ∈ Region.ready md ops listed := by
      refine mem_ready.2 ⟨by rw [Array.getD_eq_getD_getElem?, hb]; rfl, ops[k], Array.getElem?_eq_getElem hk, fun e he _ => ?_⟩
      have h1 := List.all_eq_true.1 hlt k (List.mem_range.2 hk)
      rw [Array.getElem?_eq_getElem hk] at h1
      have h2 : ops[k].after.all (fun e => decide (e.on < k)) = true := h1
      have h3 := Array.all_eq_true_iff_forall_mem.1 h2 e he
      have h4 : e.on < k := by simpa using h3
      exact ih e.on h4 (by omega)
    rw [hr] at hm
    cases hm
theorem listed_ne {listed : Array Bool} {i k : Nat} (hk : i ≠ k) (e : (listed.setIfInBounds i true).getD k false = true) : listed.getD k false = true := by
  rwa [getD_set_ne false hk] at e
end
/-- All blocks that are known are as they were. -/
def Kp (w w' : World) : Prop := ∀ b t cs, Has w b t cs → Has w' b t cs
theorem Kp.alloc (w : World) (o : Obj) : Kp w (w.alloc o) := fun _ _ _ h => h.alloc o
theorem Kp.below {w w' : World} (h : Below w.heap.size w w') : Kp w w' := fun _ _ _ k => k.kept h
end Go.Proofs.Ytghkpmafocacoaa

namespace Go.Proofs.Ytghkpmafocacoaa
set_option maxRecDepth 100000
set_option linter.unusedVariables false
open Go.RowKit
/-- A factor of the call's own. -/
def FcV (w : World) (base : Nat) (v1 v2 : Value) (F : Fac) : Prop := IOwn w base v1 F.vs ∧ IOwn w base v2 F.ns ∧ ∀ b, v1.ownBlock = some b → v2.ownBlock ≠ some b
def Fcd (w : World) (F : Fac) (e : Ending) (w' : World) : Prop := ∃ v1 v2, e = .returned (.agg #[v1, v2]) ∧ FcV w' w.heap.size v1 v2 F ∧ Below w.heap.size w w'
theorem iown_ne {w : World} {base g : Nat} {v : Value} {ds : List Int} {t : TypeId} {cs : Array Value} (h : IOwn w base v ds) (hg : Has w g t cs) (ht : 3 ≠ t) (k : Nat) (hk : v.ownBlock = some k) : k ≠ g := by
  rcases h.2 with ⟨hv, _⟩ | ⟨g', cap, cur, hv, _, hh, _⟩
  · subst hv
    cases hk
  · subst hv
    have e : g' = k := by injection hk
    subst e
    exact has_ne hh hg ht
end Go.Proofs.Ytghkpmafocacoaa

namespace Go.Proofs.Ytghkpmafocacoaa
set_option maxRecDepth 100000
set_option linter.unusedVariables false
open Go.RowKit
theorem cu_step (L x : Int) {k : Nat} (hk : k < 4) : cu L (4 - k) x = if tb L k = false then cu L (4 - (k + 1)) x else if 0 < (valueAt x (k : Int) + 1) % 3 then withValue x (k : Int) ((valueAt x (k : Int) + 1) % 3) else cu L (4 - (k + 1)) (withValue x (k : Int) ((valueAt x (k : Int) + 1) % 3)) := by
  obtain rfl | rfl | rfl | rfl : k = 0 ∨ k = 1 ∨ k = 2 ∨ k = 3 := by omega
  all_goals rfl
theorem countedUp_any (st L : Int) (w : World) (hs : 0 ≤ st ∧ st ≤ 80) (hL : 0 ≤ L ∧ L ≤ 15) :
    Calls Try.prog 148 #[.int .i64 st, .int .i64 L] w fun e w' => e = .returned (.int .i64 (cu L 4 st)) ∧ w = w' := by
  have hLh := Lib.hid hL
  go_enter Try.func148, Try.ntmps148
  go_wp2_with fail
  go_loopg [0, 5] 4 (fun gn o v wr => ∃ (k : Nat) (x : Int), k ≤ 4 ∧ gn = 4 - k ∧ v = .int .i64 k ∧ o = .int .i64 x ∧ (0 ≤ x ∧ x ≤ 80) ∧ cu L (4 - k) x = cu L 4 st ∧ wr = w)
  case atStart => exact ⟨0, st, Nat.zero_le _, rfl, rfl, rfl, hs, rfl, rfl⟩
  case round =>
    obtain ⟨k, x, hk, hgn, rfl, rfl, hx, hcu, rfl⟩ := hrel
    have hgk : gk = 4 - k := hgn
    clear hgn
    by_cases hlt : k < 4
    · rw [cu_step L x hlt] at hcu
      have cB := Lib.hid (fun wx => bitOf_any (k : Int) wx)
      have hba := bits_and hLh.out (show k ≤ 3 by omega)
      have hk0 : (0 : Int) ≤ (k : Int) := by omega
      have hk4 : (k : Int) < 4 := by omega
      cases ht : tb L k
      · rw [ht, if_pos rfl] at hcu
        rw [ht] at hba
        have hC := Lib.hid hcu
        clear hcu ht
        go_wp2_with fail
        refine (cB.out _).mono ?_
        rintro e w' ⟨rfl, rfl⟩
        go_wp2_with fail
        go_roundg (4 - (k + 1))
        case measure => omega
        case rel => exact ⟨k + 1, x, by omega, rfl, by go_num, rfl, hx, hC.out, rfl⟩
      · rw [ht, if_neg (by decide)] at hcu
        rw [ht] at hba
        have hvb := value_bd hx (show 0 ≤ (k : Int) ∧ (k : Int) ≤ 3 by omega)
        have cA := Lib.hid (fun wx => ValueAt_any x (k : Int) wx)
        have cW := Lib.hid (fun wx => WithValue_any x (k : Int) ((valueAt x (k : Int) + 1) % 3) wx)
        have hwb := with_bd hx (show 0 ≤ (k : Int) ∧ (k : Int) ≤ 3 by omega) (show 0 ≤ (valueAt x (k : Int) + 1) % 3 ∧ (valueAt x (k : Int) + 1) % 3 ≤ 2 by omega)
        have hmm : (valueAt x (k : Int) + 1).tmod 3 = (valueAt x (k : Int) + 1) % 3 := Int.tmod_eq_emod_of_nonneg (by omega)
        generalize valueAt x (k : Int) = y at *
        have hz : 0 ≤ (y + 1) % 3 ∧ (y + 1) % 3 ≤ 2 := by omega
        generalize (y + 1) % 3 = z at *
        by_cases hz0 : 0 < z
        · rw [if_pos hz0] at hcu
          have hC := Lib.hid hcu
          clear hcu ht
          go_wp2_with fail
          refine (cB.out _).mono ?_
          rintro e w' ⟨rfl, rfl⟩
          go_wp2_with fail
          refine (cA.out _).mono ?_
          rintro e w' ⟨rfl, rfl⟩
          go_wp2_with fail
          refine (cW.out _).mono ?_
          rintro e w' ⟨rfl, rfl⟩
          go_wp2_with fail
          go_ret
          exact ⟨ret_int hC.out.symm, rfl⟩
        · rw [if_neg hz0] at hcu
          have hC := Lib.hid hcu
          clear hcu ht
          go_wp2_with fail
          refine (cB.out _).mono ?_
          rintro e w' ⟨rfl, rfl⟩
          go_wp2_with fail
          refine (cA.out _).mono ?_
          rintro e w' ⟨rfl, rfl⟩
          go_wp2_with fail
          refine (cW.out _).mono ?_
          rintro e w' ⟨rfl, rfl⟩
          go_wp2_with fail
          go_roundg (4 - (k + 1))
          case measure => omega
          case rel => exact ⟨k + 1, _, by omega, rfl, by go_num, rfl, hwb, hC.out, rfl⟩
    · obtain rfl : k = 4 := by omega
      have hR : x = cu L 4 st := hcu
      have hR' := Lib.hid hR
      clear hcu hR
      go_wp2_with fail
      go_ret
      exact ⟨ret_int hR'.out.symm, rfl⟩
/-- A factor over a set of variables, with noughts alone. -/
def blankF (L : Int) : Fac := ⟨over L, zs (3 ^ (over L).length)⟩
theorem made_zs (n : Nat) : (madeCells #[Value.int .i64 0] n).toList = ints (zs n) := by
  apply List.ext_getElem?
  intro i
  rw [Array.getElem?_toList]
  by_cases h : i < n
  · rw [ints_get (d := 0) (by unfold zs; rw [List.getElem?_replicate, if_pos h])]
    unfold madeCells
    simp [h, Nat.mod_one]
  · rw [List.getElem?_eq_none (by rw [ints_length, zs_len]; omega), Array.getElem?_eq_none (by rw [size_madeCells]; omega)]
set_option maxHeartbeats 1000000 in
theorem varsIn_any (L : Int) (w : World) (hL : 0 ≤ L ∧ L ≤ 15) :
    Calls Try.prog 107 #[.int .i64 L] w (Wtsd w (over L)) := by
  have hLh := Lib.hid hL
  have hB0h := Lib.hid (Below.refl w.heap.size w)
  obtain ⟨i0, hi0, hz0, hz1', hz2'⟩ := info_parts info_int
  have hN := Lib.hid (IOwn.nil w w.heap.size)
  go_enter Try.func107, Try.ntmps107
  go_wp2_with fail
  go_loopg [3, 4] 4 (fun gn o v wr => ∃ k : Nat, k ≤ 4 ∧ gn = 4 - k ∧ v = .int .i64 k ∧ IOwn wr w.heap.size o (overT L k) ∧ Below w.heap.size w wr)
  case atStart => exact ⟨0, Nat.zero_le _, rfl, rfl, hN.out, hB0h.out⟩
  case round =>
    obtain ⟨k, hk, hgn, rfl, hO, hb⟩ := hrel
    have hgk : gk = 4 - k := hgn
    obtain ⟨Ao, co, hvo, _, _⟩ := hO.form
    subst hvo
    have hz := hb.size
    have hOh := Lib.hid hO
    have hbh := Lib.hid hb
    have hol := overT_len L k
    clear hgn hO hb
    by_cases hlt : k < 4
    · have cB := Lib.hid (fun wx => bitOf_any (k : Int) wx)
      have hba := bits_and hLh.out (show k ≤ 3 by omega)
      have hst := Lib.hid (overT_succ L k)
      have hk0 : (0 : Int) ≤ (k : Int) := by omega
      have hk4 : (k : Int) < 4 := by omega
      cases ht : tb L k
      · rw [ht] at hba
        have hE := Lib.hid (show overT L (k + 1) = overT L k by rw [hst.out, ht, if_neg (by decide), List.append_nil])
        have hbn : (bits .and .i64 L (bitN (k : Int)) != 0) = false := by rw [bne, hba]; rfl
        clear ht
        go_wp2_with fail
        refine (cB.out _).mono ?_
        rintro e w' ⟨rfl, rfl⟩
        go_wp2_with fail
        go_roundg (4 - (k + 1))
        case measure => omega
        case rel => exact ⟨k + 1, by omega, rfl, by go_num, by rw [hE.out]; exact hOh.out, hbh.out⟩
      · rw [ht] at hba
        have hE := Lib.hid (show overT L (k + 1) = overT L k ++ [(k : Int)] by rw [hst.out, ht, if_pos rfl])
        have hO3 := Lib.hid (hOh.out.alloc (.cells #[.int .i64 k] 3))
        have hnw := Lib.hid (new_one wr (.int .i64 k) 3)
        have hB3 := Lib.hid (hbh.out.alloc hz (.cells #[.int .i64 k] 3))
        have hbn : (bits .and .i64 L (bitN (k : Int)) != 0) = true := by rw [bne, hba]; rfl
        clear ht
        go_wp2_with fail
        refine (cB.out _).mono ?_
        rintro e w' ⟨rfl, rfl⟩
        go_wp2_with (at_builtin; refine wpList_append_lies _ rfl (.tmp 14) (.tmp 16) 31 rfl w.heap.size 3 i0 _ 1 8 Try.underlying31 hi0 hz0 hz1' hz2' rfl (by decide) (.slice Ao (overT L k).length co) (overT L k).length (ints (overT L k)) rfl (by exact hO3.out) ⟨wr.heap.size, 0, none⟩ 1 1 [.int .i64 k] rfl rfl (by exact hnw.out) (by simp [Value.oneCell']) (by omega) (by unfold maxLen; omega) (by omega) (by exact hB3.out.size) (wr.heap.size + 1) (by simp) ?_; intro gr cr2 w4 hown4 hgrow4 hat4 hlt4)
        have hF := Lib.hid (IOwn.append_ (news := [(k : Int)]) hO3.out hown4 hgrow4 hB3.out (by exact hB3.out.size))
        clear hown4 hgrow4 hat4
        go_wp2_with fail
        go_roundg (4 - (k + 1))
        case measure => omega
        case rel => exact ⟨k + 1, by omega, rfl, by go_num, by rw [hE.out]; exact hF.out.1, hF.out.2⟩
    · obtain rfl : k = 4 := by omega
      have hF := Lib.hid (show Wtsd w (over L) (.returned (.slice Ao (overT L 4).length co)) wr from ⟨_, rfl, hOh.out, hbh.out⟩)
      clear hOh hbh
      go_wp2_with fail
      go_ret
      exact hF.out
set_option maxHeartbeats 1000000 in
theorem blankOver_any (L : Int) (w : World) (hL : 0 ≤ L ∧ L ≤ 15) :
    Calls Try.prog 147 #[.int .i64 L] w (Fcd w (blankF L)) := by
  have hLh := Lib.hid hL
  have hB0 : Below w.heap.size w (w.alloc (.cells #[.slice none 0 0, .slice none 0 0] 56)) := (Below.refl _ _).alloc (Nat.le_refl _) _
  have hR0 := Lib.hid (Has.new w 56 #[.slice none 0 0, .slice none 0 0])
  have hB0h := Lib.hid hB0
  have cV := Lib.hid (fun wx => varsIn_any L wx hL)
  obtain ⟨i0, hi0, hz0, hz1', hz2'⟩ := info_parts info_int
  go_enter Try.func147, Try.ntmps147
  go_wp2_with fail
  generalize w.alloc (.cells #[.slice none 0 0, .slice none 0 0] 56) = W0 at hR0 hB0h ⊢
  clear hB0
  refine (cV.out _).mono ?_
  rintro e wr ⟨v, rfl, hO, hb⟩
  have hzb := hB0h.out.size
  obtain ⟨Ao, co, hvo, _, _⟩ := hO.form
  subst hvo
  have hOh : Hid (IOwn wr w.heap.size (.slice Ao (over L).length co) (over L)) := Lib.hid (owns_le hO hzb)
  have hRh := Lib.hid (hR0.out.kept hb)
  have hbh := Lib.hid (hB0h.out.trans (hb.mono hzb))
  have hz := hbh.out.size
  clear hO hb hR0 hB0h
  have hlb := over_len hLh.out
  go_wp2_with fail
  go_loopg [4, 9] (over L).length (fun gn m v wr' => ∃ k : Nat, k ≤ (over L).length ∧ gn = (over L).length - k ∧ v = .int .i64 k ∧ m = .int .i64 (p3 k) ∧ wr' = wr)
  case atStart => exact ⟨0, Nat.zero_le _, rfl, rfl, rfl, rfl⟩
  case round =>
    obtain ⟨k, hk, hgn, rfl, rfl, rfl⟩ := hrel
    have hgk : gk = (over L).length - k := hgn
    clear hgn
    by_cases hlt : k < (over L).length
    · have hk0 : (0 : Int) ≤ (k : Int) := by omega
      have hk1 : (k : Int) < ((over L).length : Int) := by omega
      have hp3 := p3_bd4 (k := k) (by omega)
      go_wp2_with fail
      go_roundg ((over L).length - (k + 1))
      case measure => omega
      case rel => exact ⟨k + 1, by omega, rfl, by go_num, rfl, rfl⟩
    obtain rfl : k = (over L).length := by omega
    have hp := p3_pow (over L).length
    have hpb := pow_four hlb
    rw [hp]
    obtain ⟨M, hM⟩ : ∃ M : Nat, 3 ^ (over L).length = M := ⟨_, rfl⟩
    rw [hM]
    have hmk : ∀ wx : World, (Instr.makeSlice 31 (.int .i64 (M : Int)) (.int .i64 (M : Int))).run Try.prog wx = .ok (.slice (some ⟨wx.heap.size, 0, none⟩) M M) (wx.alloc (.cells (madeCells (Value.int .i64 0).cells (M * 1)) 3)) := by
      intro wx
      have hr := run_make (P := Try.prog) wx 31 3 i0 _ Try.underlying31 hi0 hz0 .i64 .i64 (M : Int) (M : Int) (by omega) (by omega) (by rw [hz2']; omega) (by omega)
      rw [hz1'] at hr
      simp only [Int.toNat_natCast] at hr
      exact hr
    have hn := Lib.hid (IOwn.of_has (base := w.heap.size) (ds := zs M) (n := M) (Has.new wr 3 (madeCells #[.int .i64 0] M)) (made_zs M) (by rw [zs_len]) hz (by unfold maxLen; omega))
    have hO5 := Lib.hid (hOh.out.alloc (.cells (madeCells #[.int .i64 0] M) 3))
    have hR5 := Lib.hid (hRh.out.alloc (.cells (madeCells #[.int .i64 0] M) 3))
    have hB5 := Lib.hid (hbh.out.alloc hz (.cells (madeCells #[.int .i64 0] M) 3))
    have hap := Lib.hid (fun b (hb : (Value.slice Ao (over L).length co).ownBlock = some b) => show b < wr.heap.size from by obtain ⟨c1, g1⟩ := owns_has hOh.out hb; exact g1.lt)
    have cr := hR5.out.cell
    have fr := hR5.out.frozen
    go_wp2_with fail
    generalize wr.alloc (.cells (madeCells #[.int .i64 0] M) 3) = W5 at hn hO5 hR5 hB5 ⊢
    have hKp := Lib.hid ((((KeptBut.refl W5 (fun i => i = w.heap.size)).put (p := ⟨w.heap.size, 0, none⟩) (fun _ => rfl) (.slice Ao (over L).length co)).put (p := ⟨w.heap.size, 1, none⟩) (fun _ => rfl) (.slice (some ⟨wr.heap.size, 0, none⟩) M M)))
    have hr1 := (hR5.out.put 0 (.slice Ao (over L).length co)).cell 0
    have hr2 := ((hR5.out.put 0 (.slice Ao (over L).length co)).put 1 (.slice (some ⟨wr.heap.size, 0, none⟩) M M)).cell 1
    refine bodyPost_ret (v := .agg #[.slice Ao (over L).length co, .slice (some ⟨wr.heap.size, 0, none⟩) M M]) (by simp [results, Try.results147, go_sem, hr1, hr2]) rfl ⟨_, _, rfl, ⟨?_, ?_, ?_⟩, ?_⟩
    · exact hO5.out.but hKp.out (fun k hk e => iown_ne hO5.out hR5.out (by decide) k hk e)
    · unfold blankF
      rw [hM]
      exact hn.out.but hKp.out (fun k hk e => iown_ne hn.out hR5.out (by decide) k hk e)
    · intro b hb1 hb2
      have h1 := hap.out b hb1
      have h2 : wr.heap.size = b := by simpa [Value.ownBlock] using hb2
      omega
    · exact (hB5.out.setCell (p := ⟨w.heap.size, 0, none⟩) (Nat.le_refl _) _).setCell (p := ⟨w.heap.size, 1, none⟩) (Nat.le_refl _) _
end Go.Proofs.Ytghkpmafocacoaa

namespace Go.Proofs.Ytghkpmafocacoaa
open Go.RowKit Region
section
variable {P : Program} {ops : Array Oper} {Q : Exit → Act → World → Prop} {md : Region.Mode}
/-- What is listed has all that it needs listed. -/
def Clsd (md : Region.Mode) (ops : Array Oper) (listed : Array Bool) : Prop := ∀ k o, ops[k]? = some o → listed.getD k false = true → ∀ e ∈ o.after, Region.binds md e = true → listed.getD e.on false = true
/-- All but the last one are needed by a later one. -/
def feeds (md : Region.Mode) (ops : Array Oper) : Bool := (List.range (ops.size - 1)).all fun k => (List.range ops.size).any fun j => decide (k < j) && ((ops[j]?).map fun o => o.after.any fun e => Region.binds md e && decide (e.on = k)).getD false
theorem set_true_getD {listed : Array Bool} {i k : Nat} (h : (listed.setIfInBounds i true).getD k false = true) : k = i ∨ listed.getD k false = true := by
  by_cases hk : i = k
  · exact .inl hk.symm
  · exact .inr (listed_ne hk h)
theorem clsd_set {listed : Array Bool} {i : Nat} (h : Clsd md ops listed) (hi : i ∈ Region.ready md ops listed) : Clsd md ops (listed.setIfInBounds i true) := by
  intro k o ho hk e he hb
  obtain ⟨_, o', ho', hd⟩ := mem_ready.1 hi
  rcases set_true_getD hk with rfl | hk'
  · rw [ho] at ho'
    injection ho' with ho'
    subst ho'
    exact getD_set_true (hd e he hb)
  · exact getD_set_true (h k o ho hk' e he hb)
theorem feeds_all {listed : Array Bool} {n : Nat} (hn : ops.size = n + 1) (hf : feeds md ops = true) (hc : Clsd md ops listed) (hl : ∀ o, ops[n]? = some o → ∀ e ∈ o.after, Region.binds md e = true → listed.getD e.on false = true) : ∀ d k, n ≤ k + d → k < n → listed.getD k false = true
  | 0, k, h1, h2 => by omega
  | d + 1, k, h1, h2 => by
    have h3 := List.all_eq_true.1 hf k (List.mem_range.2 (by omega))
    obtain ⟨j, hj, h4⟩ := List.any_eq_true.1 h3
    rw [Bool.and_eq_true] at h4
    have hjn := List.mem_range.1 hj
    have hkj := of_decide_eq_true h4.1
    obtain ⟨o, ho⟩ : ∃ o, ops[j]? = some o := ⟨_, Array.getElem?_eq_getElem hjn⟩
    have h5 := h4.2
    rw [ho] at h5
    have h6 : (o.after.any fun e => Region.binds md e && decide (e.on = k)) = true := h5
    obtain ⟨e, he, h7⟩ : ∃ e ∈ o.after, (Region.binds md e && decide (e.on = k)) = true := by
      rw [← Array.any_toList] at h6
      obtain ⟨e, he, h7⟩ := List.any_eq_true.1 h6
      exact ⟨e, Array.mem_toList_iff.1 he, h7⟩
    rw [Bool.and_eq_true] at h7
    have hk := of_decide_eq_true h7.2
    rw [← hk]
    by_cases hjl : j = n
    · subst hjl
      exact hl o ho e he h7.1
    · exact hc j o ho (feeds_all hn hf hc hl d j (by omega) (by omega)) e he h7.1
theorem wpAny_last {I : Array Bool → Act → World → Prop} {n : Nat} (hn : ops.size = n + 1) (hf : feeds md ops = true)
    (hlt : (List.range ops.size).all (fun k => ((ops[k]?).map fun o => o.after.all fun e => decide (e.on < k)).getD true) = true)
    (hs : ∀ listed a w, I listed a w → ∀ i, i < n → i ∈ Region.ready md ops listed → wpOp P ops Q i (I (listed.setIfInBounds i true)) a w)
    (hl : ∀ listed a w, I listed a w → (∀ k, k < n → listed.getD k false = true) → wpOp P ops Q n (fun a w => Q .normal a w) a w) (listed : Array Bool) (a : Act) (w : World) (hI : I listed a w) (hz : listed.size = n + 1) (h0 : (List.range (n + 1)).all (fun k => !listed.getD k true) = true) (fuel : Nat) (hfu : openOps listed ≤ fuel) : wpAny P md ops Q fuel listed a w := by
  have hfalse : ∀ k, k < n + 1 → listed.getD k false = false := fun k hk => by
    have := List.all_eq_true.1 h0 k (List.mem_range.2 hk)
    rw [Array.getD_eq_getD_getElem?, Array.getElem?_eq_getElem (by omega)] at this ⊢
    simpa using this
  refine wpAny_inv (I := fun li a w => (li.size = n + 1 ∧ li.getD n false = false ∧ Clsd md ops li ∧ I li a w) ∨ ((∀ k, k < n + 1 → li.getD k true = true) ∧ Q .normal a w)) ?_ ?_ fuel listed a w (.inl ⟨hz, hfalse n (by omega), ?_, hI⟩) hfu
  · rintro li a w (⟨hz, hno, hc, hI⟩ | ⟨hall, hq⟩) i hi
    · obtain ⟨h0, o, ho, hd⟩ := mem_ready.1 hi
      have hin : i < n + 1 := by
        have := (Array.getElem?_eq_some_iff.1 ho).1
        omega
      by_cases hil : i = n
      · subst hil
        have hA := feeds_all hn hf hc (fun o' ho' => by
          rw [ho] at ho'
          injection ho' with ho'
          subst ho'
          exact hd) i
        have hB := fun k (hk : k < i) => hA k (by omega) hk
        refine wpOp_mono (fun a' w' h' => .inr ⟨fun k hk => ?_, h'⟩) (hl li a w hI hB)
        by_cases hki : k = i
        · subst hki
          rw [Array.getD_eq_getD_getElem?, Array.getElem?_setIfInBounds_self_of_lt (by omega)]
          rfl
        · have h1 := getD_set_true (i := i) (hB k (by omega))
          rw [Array.getD_eq_getD_getElem?, Array.getElem?_eq_getElem (by simp; omega)] at h1 ⊢
          exact h1
      · refine wpOp_mono (fun a' w' h' => .inl ⟨by simpa using hz, ?_, clsd_set hc hi, h'⟩) (hs li a w hI i (by omega) hi)
        cases hx : (li.setIfInBounds i true).getD n false
        · rfl
        · rw [listed_ne hil hx] at hno
          cases hno
    · obtain ⟨h0, o, ho, hd⟩ := mem_ready.1 hi
      have hin : i < n + 1 := by
        have := (Array.getElem?_eq_some_iff.1 ho).1
        omega
      rw [hall i hin] at h0
      cases h0
  · rintro li a w (⟨hz, hno, hc, hI⟩ | ⟨hall, hq⟩) hr
    · exfalso
      have := ready_done (by omega) hlt hr n (by omega)
      rw [this] at hno
      cases hno
    · exact hq
  · intro k o ho hk
    have hkn : k < n + 1 := by
      have := (Array.getElem?_eq_some_iff.1 ho).1
      omega
    rw [hfalse k hkn] at hk
    cases hk
end
end Go.Proofs.Ytghkpmafocacoaa
