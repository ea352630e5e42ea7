/- For every two lists of bytes: of the drawn numbers the program's Reduced returns what the model's returns, and that again when it is done again, each two of its numbers as the two that were there; of the drawn two numbers the program's FractionOf returns what the model's returns, the same fraction in lowest terms. No condition. -/
import Derived.Test.YtcdajplmheladaaRows
import Derived.Test.YtcdajplmheladaaAm
import Derived.Test.YtcdajplmheladaaAa
import Derived.Test.YtcdajplmheladaaDx
import Derived.Test.YtcdajplmheladaaNm
import Derived.Test.YtcdajplmheladaaKt
import Derived.Test.YtcdajplmheladaaOpB
import Derived.ProofKit
import Derived.OpenShut
import Derived.ShutString
import Derived.ChangeOld
import Derived.Below
namespace Go.Proofs.Ytcdajplmheladaa.fnReduced
open Go.ChangeShapes Go.WideShapes Go.ChangeAt Go.RowKit 
set_option linter.unusedVariables false
set_option maxRecDepth 100000

theorem own : ownKnob Try.prog.godebug = none := by kernel_rfl
theorem laidOut : laidOutB Try.prog = true := by kernel_rfl

theorem gcdI_mul {a b g : Int} (ha : 0 ≤ a) (hb : 0 ≤ b) (hg : 0 ≤ g) : gcdI (a * g) (b * g) = gcdI a b * g := by
  obtain ⟨x, rfl⟩ := Int.eq_ofNat_of_zero_le ha
  obtain ⟨y, rfl⟩ := Int.eq_ofNat_of_zero_le hb
  obtain ⟨z, rfl⟩ := Int.eq_ofNat_of_zero_le hg
  unfold gcdI
  rw [← Int.natCast_mul, ← Int.natCast_mul, Int.toNat_natCast, Int.toNat_natCast, Int.toNat_natCast, Int.toNat_natCast, Nat.gcd_mul_right, Int.natCast_mul]
theorem foldl_gcd_mul {g : Int} (hg : 0 ≤ g) : ∀ {es : List Int} {a : Int}, (∀ x ∈ es, 0 ≤ x) → 0 ≤ a → (es.map fun e => e * g).foldl gcdI (a * g) = es.foldl gcdI a * g
  | [], a, _, _ => rfl
  | u :: r, a, h, ha => by
    have hu := h u List.mem_cons_self
    show (r.map fun e => e * g).foldl gcdI (gcdI (a * g) (u * g)) = r.foldl gcdI (gcdI a u) * g
    rw [gcdI_mul ha hu hg]
    exact foldl_gcd_mul hg (fun x hx => h x (List.mem_cons_of_mem _ hx)) (by unfold gcdI; exact Int.natCast_nonneg _)
theorem back_mul {ds : List Int} {g : Int} (hg : 0 < g) (hd : ∀ x ∈ ds, g ∣ x) : (ds.map fun d => d / g).map (fun e => e * g) = ds := by
  rw [List.map_map]
  conv => rhs; rw [← List.map_id ds]
  exact List.map_congr_left fun d hx => Int.ediv_mul_cancel (hd d hx)
theorem gcdF_one {M : Int} {ds : List Int} (h : ∀ x ∈ ds, 0 ≤ x ∧ x ≤ M) (hM : 0 ≤ M) (hg : 0 < gcdF ds) : gcdF (ds.map fun d => d / gcdF ds) = 1 := by
  have hb := back_mul hg (gcdF_dvd h hM)
  have h1 := foldl_gcd_mul (Int.le_of_lt hg) (es := ds.map fun d => d / gcdF ds) (a := 0) (fun x hx => by
    obtain ⟨d, hd, rfl⟩ := List.mem_map.1 hx
    exact Int.ediv_nonneg (h d hd).1 (Int.le_of_lt hg)) (Int.le_refl _)
  rw [hb, Int.zero_mul] at h1
  have h2 : gcdF (ds.map fun d => d / gcdF ds) * gcdF ds = 1 * gcdF ds := by rw [Int.one_mul]; exact h1.symm
  exact Int.eq_of_mul_eq_mul_right (by omega) h2
theorem divL_one (ds : List Int) : divL ds 1 = ds := by
  unfold divL
  rw [if_neg (by decide)]
  conv => rhs; rw [← List.map_id ds]
  exact List.map_congr_left fun d _ => Int.ediv_one d
/-- Done again it is the same. -/
theorem reduced_again (ds : List Int) : reduced (reduced ds) = reduced ds := by
  by_cases hk : numsOk 1000000000 ds = true
  · have hR : reduced ds = redL ds := if_pos hk
    have hb := numsOk_bd hk
    have hg := gcdF_bd hb (by decide)
    by_cases h0 : gcdF ds = 0
    · have e : redL ds = ds := by unfold redL divL; exact if_pos h0
      rw [hR, e, hR, e]
    · have e : redL ds = ds.map fun d => d / gcdF ds := by unfold redL divL; exact if_neg h0
      have hn : numsOk 1000000000 (redL ds) = true := by
        rw [e]
        unfold numsOk
        rw [List.all_eq_true]
        intro x hx
        obtain ⟨d, hd, rfl⟩ := List.mem_map.1 hx
        exact inB_iff.2 (div_bd (hb d hd) (by omega))
      rw [hR]
      show (if numsOk 1000000000 (redL ds) = true then redL (redL ds) else []) = _
      rw [if_pos hn]
      show divL (redL ds) (gcdF (redL ds)) = redL ds
      rw [e, gcdF_one hb (by decide) (by omega), divL_one]
  · have hR : reduced ds = [] := if_neg hk
    rw [hR]
    rfl
/-- Each two numbers as the two that were there. -/
theorem reduced_cross {ds : List Int} {i k : Nat} {a b : Int} (ha : (reduced ds)[i]? = some a) (hb : (reduced ds)[k]? = some b) :
    ∃ d e, ds[i]? = some d ∧ ds[k]? = some e ∧ (0 ≤ a ∧ a ≤ 1000000000) ∧ (0 ≤ b ∧ b ≤ 1000000000) ∧ (0 ≤ d ∧ d ≤ 1000000000) ∧ (0 ≤ e ∧ e ≤ 1000000000) ∧ a * e = b * d := by
  by_cases hk : numsOk 1000000000 ds = true
  · have hR : reduced ds = redL ds := if_pos hk
    have hbd := numsOk_bd hk
    have hg := gcdF_bd hbd (by decide)
    by_cases h0 : gcdF ds = 0
    · have e : redL ds = ds := by unfold redL divL; exact if_pos h0
      rw [hR, e] at ha hb
      have b1 := hbd a (List.mem_of_getElem? ha)
      have b2 := hbd b (List.mem_of_getElem? hb)
      exact ⟨a, b, ha, hb, b1, b2, b1, b2, Int.mul_comm a b⟩
    · have e : redL ds = ds.map fun d => d / gcdF ds := by unfold redL divL; exact if_neg h0
      rw [hR, e, List.getElem?_map] at ha hb
      obtain ⟨d, hd, rfl⟩ := Option.map_eq_some_iff.1 ha
      obtain ⟨x, hx, rfl⟩ := Option.map_eq_some_iff.1 hb
      have m1 := List.mem_of_getElem? hd
      have m2 := List.mem_of_getElem? hx
      have b1 := hbd d m1
      have b2 := hbd x m2
      have g1 := Int.ediv_mul_cancel (gcdF_dvd hbd (by decide) d m1)
      have g2 := Int.ediv_mul_cancel (gcdF_dvd hbd (by decide) x m2)
      refine ⟨d, x, hd, hx, div_bd b1 (by omega), div_bd b2 (by omega), b1, b2, ?_⟩
      generalize gcdF ds = g at g1 g2
      generalize hu : d / g = u at g1
      generalize hv : x / g = v at g2
      rw [← g1, ← g2, Int.mul_left_comm]
  · have hR : reduced ds = [] := if_neg hk
    rw [hR] at ha
    simp at ha
theorem frac_facts {a b : Int} (h : fracOk a b = true) : (0 ≤ low1 a b ∧ low1 a b ≤ 1000000000) ∧ (0 ≤ low2 a b ∧ low2 a b ≤ 1000000000) ∧ (0 ≤ a ∧ a ≤ 1000000000) ∧ (0 ≤ b ∧ b ≤ 1000000000) ∧ low1 a b * b = low2 a b * a ∧ reduced [low1 a b, low2 a b] = [low1 a b, low2 a b] := by
  unfold fracOk at h
  rw [Bool.and_eq_true] at h
  have ha := inB_iff.1 h.1
  have hb := inB_iff.1 h.2
  have hg := gcdI_pos (a := a) (show 0 < b by omega)
  obtain ⟨d1, d2⟩ := gcdI_dvd ha.1 (show 0 ≤ b by omega)
  have l1 := div_bd ha hg
  have l2 := div_bd (d := b) (M := 1000000000) (by omega) hg
  have m1 := Int.ediv_mul_cancel d1
  have m2 := Int.ediv_mul_cancel d2
  have e1 : low1 a b = a / gcdI a b := rfl
  have e2 : low2 a b = b / gcdI a b := rfl
  have hone : gcdI (low1 a b) (low2 a b) = 1 := by
    have h1 := gcdI_mul l1.1 l2.1 (Int.le_of_lt hg)
    rw [m1, m2] at h1
    rw [e1, e2]
    have h2 : gcdI (a / gcdI a b) (b / gcdI a b) * gcdI a b = 1 * gcdI a b := by rw [Int.one_mul]; exact h1.symm
    exact Int.eq_of_mul_eq_mul_right (by omega) h2
  refine ⟨l1, l2, ha, by omega, ?_, ?_⟩
  · rw [e1, e2]
    generalize gcdI a b = g at m1 m2
    generalize hu : a / g = u at m1
    generalize hv : b / g = v at m2
    rw [← m1, ← m2, Int.mul_left_comm]
  · rw [← e1] at l1
    rw [← e2] at l2
    generalize low1 a b = u at *
    generalize low2 a b = v at *
    have hn : numsOk 1000000000 [u, v] = true := by
      unfold numsOk
      rw [List.all_eq_true]
      intro x hx
      rcases List.mem_cons.1 hx with rfl | hx
      · exact inB_iff.2 l1
      · rcases List.mem_cons.1 hx with rfl | hx
        · exact inB_iff.2 l2
        · simp at hx
    have hF : gcdF [u, v] = 1 := by
      show gcdI (gcdI 0 u) v = 1
      have h0 : gcdI 0 u = u := by
        unfold gcdI
        rw [show (0 : Int).toNat = 0 from rfl, Nat.gcd_zero_left]
        omega
      rw [h0, hone]
    show (if numsOk 1000000000 [u, v] = true then divL [u, v] (gcdF [u, v]) else []) = _
    rw [if_pos hn, hF, divL_one]

/-- The fraction, told whether there is one or not. -/
def fr1 (x y : Int) : Int := if fracOk x y = true then low1 x y else 0
def fr2 (x y : Int) : Int := if fracOk x y = true then low2 x y else 0
theorem fr_eq (x y : Int) : (if fracOk x y = true then Value.tuple #[.int .i64 (low1 x y), .int .i64 (low2 x y), .bool true] else .tuple #[.int .i64 0, .int .i64 0, .bool false]) = .tuple #[.int .i64 (fr1 x y), .int .i64 (fr2 x y), .bool (fracOk x y)] := by
  unfold fr1 fr2
  cases h : fracOk x y <;> simp
theorem two_ils (w : World) (a b : Int) : Ils (w.alloc (.cells #[.int .i64 a, .int .i64 b] 3)) (w.alloc (.cells #[.int .i64 a, .int .i64 b] 3)).heap.size (some ⟨w.heap.size, 0, none⟩) 2 [a, b] := by
  refine ⟨rfl, fun _ => ⟨w.heap.size, 0, rfl, by simp, fun k d hd => ?_⟩⟩
  have hc := (Has.new w 3 #[.int .i64 a, .int .i64 b]).cell (0 + k)
  rw [hc]
  obtain ⟨hl, _⟩ := List.getElem?_eq_some_iff.1 hd
  obtain rfl | rfl : k = 0 ∨ k = 1 := by simp at hl; omega
  · simpa using hd
  · simpa using hd

set_option maxHeartbeats 2000000 in
theorem walk {H : Type} (enc : TypeId × Value → H) (W : World) (base : Nat) (v0 : Value) (d0 : DataW H) (p0 : List MemPlace) (hv0 : Value.okWide Try.prog W .any base 35 v0)
    (h0 : DataW.Trod enc Try.prog W 0 (fun _ => true) true 35 v0 d0 p0) (_ : ∀ x ∈ p0, x.block < W.heap.size) (v1 : Value) (d1 : DataW H) (p1 : List MemPlace) (hv1 : Value.okWide Try.prog W .any base 35 v1)
    (h1 : DataW.Trod enc Try.prog W 0 (fun _ => true) true 35 v1 d1 p1) (_ : ∀ x ∈ p1, x.block < W.heap.size) :
    Calls Try.prog 6 #[v0, v1] W fun e w' => e = .returned (.bool true) ∧ Below W.heap.size W w' := by
  obtain ⟨A, n, c, rfl, hn, hc, hb⟩ := open_bytes hv0 h0
  obtain ⟨B, m, d, rfl, hm, hd, hb'⟩ := open_bytes hv1 h1
  clear hv0 h0 hv1 h1
  have hcM := Lib.hid hc
  have hdM := Lib.hid hd
  have hnn : n ≤ 9223372036854775807 := by unfold maxLen at hc; omega
  have hmm : m ≤ 9223372036854775807 := by unfold maxLen at hd; omega
  clear hc hd
  by_cases h2 : 1048576 < n
  · go_enter Try.func6, Try.ntmps6
    go_wp2_with fail
    go_ret
    exact ⟨rfl, Below.refl _ _⟩
  by_cases h3 : 1048576 < m
  · go_enter Try.func6, Try.ntmps6
    go_wp2_with fail
    go_ret
    exact ⟨rfl, Below.refl _ _⟩
  go_enter Try.func6, Try.ntmps6
  go_wp2_with fail
  refine (DrawReduced_any A n c _ hb hn hcM.out).mono ?_
  rintro e w1 ⟨v, ds, rfl, hI, hl82, hB1⟩
  obtain ⟨A1, c1, hv, _, _⟩ := hI.form
  subst hv
  have hI1 := Lib.hid hI.lst
  have hb1 := Lib.hid ((hb'.keep hB1).more hB1.size)
  have hB1' := Lib.hid hB1
  clear hI hB1 hb hb'
  go_wp2_with fail
  refine (DrawFractionOf_any B m d _ hb1.out hm hdM.out).mono ?_
  rintro e w2 ⟨x, y, rfl, hB2⟩
  have hI2 := Lib.hid ((hI1.out.below hB2).more hB2.size)
  have hB2' := Lib.hid (hB1'.out.trans (hB2.mono hB1'.out.size))
  clear hB2
  have hLd : ds.length ≤ 1048576 := by omega
  have cR := Lib.hid (Reduced_any A1 ds.length c1 ds w2 hI2.out hLd)
  have cRs := Lib.hid (fun wx hx => specReduced_any A1 ds.length c1 ds wx hx hLd)
  have cR2 := Lib.hid (fun A5 c5 wx hx => Reduced_any A5 (reduced ds).length c5 (reduced ds) wx hx (Nat.le_trans (reduced_len ds) hLd))
  have hAg := reduced_again ds
  rw [hAg] at cR2
  have hrl : (reduced ds).length ≤ ds.length := reduced_len ds
  have hX := Lib.hid (fun i k a b h1 h2 => reduced_cross (ds := ds) (i := i) (k := k) (a := a) (b := b) h1 h2)
  unfold Wtsd at cR cRs cR2
  generalize reduced ds = xs at cR cRs cR2 hrl hX
  have cF := Lib.hid (fun wx => FractionOf_any x y wx)
  have cG := Lib.hid (fun wx => specFractionOf_any x y wx)
  unfold Frd at cF cG
  rw [fr_eq] at cF cG
  have hFr := Lib.hid (show (fracOk x y = false → fr1 x y = 0 ∧ fr2 x y = 0) ∧ (fracOk x y = true → (0 ≤ fr1 x y ∧ fr1 x y ≤ 1000000000) ∧ (0 ≤ fr2 x y ∧ fr2 x y ≤ 1000000000) ∧ (0 ≤ x ∧ x ≤ 1000000000) ∧ (0 ≤ y ∧ y ≤ 1000000000) ∧ fr1 x y * y = fr2 x y * x ∧ reduced [fr1 x y, fr2 x y] = [fr1 x y, fr2 x y]) from by
    unfold fr1 fr2
    refine ⟨fun h => by rw [h]; exact ⟨rfl, rfl⟩, fun h => ?_⟩
    rw [if_pos h, if_pos h]
    exact frac_facts h)
  generalize fr1 x y = fa at cF cG hFr
  generalize fr2 x y = fb at cF cG hFr
  generalize fracOk x y = ok at cF cG hFr
  have n1 : (fa != fa) = false := by simp
  have n2 : (fb != fb) = false := by simp
  have n3 : (ok != ok) = false := by simp
  clear hAg
  go_wp2_with fail
  refine cR.out.mono ?_
  rintro e w3 ⟨v3, rfl, hI3, hb3⟩
  obtain ⟨A3, c3, hv, _, _⟩ := hI3.form
  subst hv
  have hB3 := Lib.hid (hB2'.out.trans (hb3.mono hB2'.out.size))
  have hD3 := Lib.hid ((hI2.out.below hb3).more hb3.size)
  have hX3 := Lib.hid hI3.lst
  clear hI3 hb3 cR
  go_wp2_with fail
  refine (cF.out _).mono ?_
  rintro e w4 ⟨rfl, hq⟩
  have hb4 : Below w3.heap.size w3 w4 := by obtain ⟨q, rfl⟩ := hq; exact below_drewN (Below.refl _ _) q
  have hB4 := Lib.hid (hB3.out.trans (hb4.mono hB3.out.size))
  have hD4 := Lib.hid ((hD3.out.below hb4).more hb4.size)
  have hX4 := Lib.hid ((hX3.out.below hb4).more hb4.size)
  clear hq hb4
  go_wp2_with fail
  refine (cG.out _).mono ?_
  rintro e w5 ⟨rfl, hq⟩
  have hb5 : Below w4.heap.size w4 w5 := by obtain ⟨q, rfl⟩ := hq; exact below_drewN (Below.refl _ _) q
  have hB5 := Lib.hid (hB4.out.trans (hb5.mono hB4.out.size))
  have hD5 := Lib.hid ((hD4.out.below hb5).more hb5.size)
  have hX5 := Lib.hid ((hX4.out.below hb5).more hb5.size)
  clear hq hb5
  go_wp2_with fail
  refine (cRs.out _ hD5.out).mono ?_
  rintro e w6 ⟨v6, rfl, hI6, hb6⟩
  obtain ⟨A6, c6, hv, _, _⟩ := hI6.form
  subst hv
  have hB6 := Lib.hid (hB5.out.trans (hb6.mono hB5.out.size))
  have hD6 := Lib.hid ((hD5.out.below hb6).more hb6.size)
  have hX6 := Lib.hid ((hX5.out.below hb6).more hb6.size)
  have hY6 := Lib.hid hI6.lst
  clear hI6 hb6
  have hxm : xs.length ≤ maxLen := by unfold maxLen; omega
  go_wp2_with fail
  refine (wcInts_any A3 A6 xs.length xs.length c3 c6 xs xs _ hX6.out hY6.out hxm hxm).mono ?_
  rw [decide_eq_true (rfl : xs = xs)]
  rintro e w7 ⟨rfl, hq⟩
  have hb7 : Below w6.heap.size w6 w7 := by obtain ⟨q, rfl⟩ := hq; exact below_drewN (Below.refl _ _) q
  have hB7 := Lib.hid (hB6.out.trans (hb7.mono hB6.out.size))
  have hD7 := Lib.hid ((hD6.out.below hb7).more hb7.size)
  have hX7 := Lib.hid ((hX6.out.below hb7).more hb7.size)
  clear hq hb7
  go_wp2_with fail
  refine (cR2.out A3 c3 _ hX7.out).mono ?_
  rintro e w8 ⟨v8, rfl, hI8, hb8⟩
  obtain ⟨A8, c8, hv, _, _⟩ := hI8.form
  subst hv
  have hB8 := Lib.hid (hB7.out.trans (hb8.mono hB7.out.size))
  have hD8 := Lib.hid ((hD7.out.below hb8).more hb8.size)
  have hX8 := Lib.hid ((hX7.out.below hb8).more hb8.size)
  have hY8 := Lib.hid hI8.lst
  clear hI8 hb8
  go_wp2_with fail
  refine (wcInts_any A8 A3 xs.length xs.length c8 c3 xs xs _ hY8.out hX8.out hxm hxm).mono ?_
  rw [decide_eq_true (rfl : xs = xs)]
  rintro e w9 ⟨rfl, hq⟩
  have hb9 : Below w8.heap.size w8 w9 := by obtain ⟨q, rfl⟩ := hq; exact below_drewN (Below.refl _ _) q
  have hB9 := Lib.hid (hB8.out.trans (hb9.mono hB8.out.size))
  have hD9 := Lib.hid ((hD8.out.below hb9).more hb9.size)
  have hX9 := Lib.hid ((hX8.out.below hb9).more hb9.size)
  clear hq hb9
  have hz9 := hB9.out.size
  go_wp2_with fail
  go_loopg [77] xs.length (fun gn o wr => ∃ k : Nat, k ≤ xs.length ∧ gn = xs.length - k ∧ o = .int .i64 k ∧ Below w9.heap.size w9 wr)
  case atStart => exact ⟨0, Nat.zero_le _, rfl, rfl, Below.refl _ _⟩
  case round =>
    obtain ⟨k, hk, hgn, rfl, hB⟩ := hrel
    have hgk : gk = xs.length - k := hgn
    clear hgn
    obtain ⟨wq, rfl⟩ : ∃ x, x = wr := ⟨_, rfl⟩
    obtain ⟨gq, rfl⟩ : ∃ x, x = gk := ⟨_, rfl⟩
    have hBq := Lib.hid hB
    have hBW := Lib.hid (hB9.out.trans (hB.mono hz9))
    clear hB
    by_cases hlt : k < xs.length
    · have hk0 : (0 : Int) ≤ (k : Int) := by omega
      have hk1 : (k : Int) < (xs.length : Int) := by omega
      go_wp2_with fail
      go_loopg [82] xs.length (fun gn o wr => ∃ j : Nat, j ≤ xs.length ∧ gn = xs.length - j ∧ o = .int .i64 j ∧ Below w9.heap.size w9 wr)
      case atStart => exact ⟨0, Nat.zero_le _, rfl, rfl, hBq.out⟩
      case round =>
        obtain ⟨j, hj, hgn, rfl, hB⟩ := hrel
        have hgj : gk = xs.length - j := hgn
        have hBr := Lib.hid hB
        clear hgn
        by_cases hltj : j < xs.length
        · obtain ⟨g1, o1, hA1, _, hcx⟩ := (hX9.out.below hB).2 (by omega)
          obtain ⟨d, e, hd, he, ba, bb, bd, be, heq⟩ := hX.out k j (xs[k]) (xs[j]) (List.getElem?_eq_getElem hlt) (List.getElem?_eq_getElem hltj)
          obtain ⟨g2, o2, hA2, _, hcd⟩ := (hD9.out.below hB).2 (by omega)
          have x1 := hcx k (xs[k]) (List.getElem?_eq_getElem hlt)
          have x2 := hcx j (xs[j]) (List.getElem?_eq_getElem hltj)
          have y1 := hcd j e he
          have y2 := hcd k d hd
          generalize xs[k] = a at *
          generalize xs[j] = b at *
          have hp : 0 ≤ a * e ∧ a * e ≤ 1000000000000000000 := by
            have h1 := Int.mul_nonneg ba.1 be.1
            have h2 : a * e ≤ 1000000000 * e := Int.mul_le_mul_of_nonneg_right ba.2 be.1
            omega
          have hw1 : IntKind.i64.wrap (a * e) = a * e := by rw [IntKind.wrap_i64]; omega
          have hw2 : IntKind.i64.wrap (b * d) = a * e := by rw [← heq]; exact hw1
          have n4 : (a * e != a * e) = false := by simp
          have hj0 : (0 : Int) ≤ (j : Int) := by omega
          have hj1 : (j : Int) < (xs.length : Int) := by omega
          have hj2 : (j : Int) < (ds.length : Int) := by omega
          have hk2 : (k : Int) < (ds.length : Int) := by omega
          subst hA1 hA2
          clear hB hcx hcd hd he heq
          go_wp2_with fail
          go_quiet (fail)
          go_wp2_with fail
          go_roundg (xs.length - (j + 1))
          case measure => omega
          case rel => exact ⟨j + 1, by omega, rfl, by go_num, below_drewN hBr.out _⟩
        · clear hB
          go_wp2_with fail
          go_roundg (xs.length - (k + 1))
          case measure => omega
          case rel => exact ⟨k + 1, by omega, rfl, by go_num, hBr.out⟩
    · cases ok
      · obtain ⟨rfl, rfl⟩ := hFr.out.1 rfl
        go_wp2_with fail
        go_ret
        exact ⟨rfl, hBW.out⟩
      · obtain ⟨ba, bb, bx, bY, heq, hRe⟩ := hFr.out.2 rfl
        have hp : 0 ≤ fa * y ∧ fa * y ≤ 1000000000000000000 := by
          have h1 := Int.mul_nonneg ba.1 bY.1
          have h2 : fa * y ≤ 1000000000 * y := Int.mul_le_mul_of_nonneg_right ba.2 bY.1
          omega
        have hw1 : IntKind.i64.wrap (fa * y) = fa * y := by rw [IntKind.wrap_i64]; omega
        have hw2 : IntKind.i64.wrap (fb * x) = fa * y := by rw [← heq]; exact hw1
        have n4 : (fa * y == fa * y) = true := by simp
        have hTw := Lib.hid (two_ils wq fa fb)
        have cT := Lib.hid (Reduced_any (some ⟨wq.heap.size, 0, none⟩) 2 2 [fa, fb] _ hTw.out (by decide))
        have hzq := hBW.out.size
        unfold Wtsd at cT
        rw [hRe] at cT
        have hB10 := Lib.hid (hBW.out.alloc hzq (.cells #[.int .i64 fa, .int .i64 fb] 3))
        clear heq hRe
        go_wp2_with fail
        refine cT.out.mono ?_
        rintro e w11 ⟨v11, rfl, hI11, hb11⟩
        obtain ⟨A11, c11, hv, _, _⟩ := hI11.form
        subst hv
        have hB11 := Lib.hid (hB10.out.trans (hb11.mono hB10.out.size))
        have hTx := Lib.hid (two_ils w11 fa fb)
        have hx11 := Lib.hid (IOwn.lst (hI11.below ((Below.refl w11.heap.size w11).alloc (Nat.le_refl _) (.cells #[.int .i64 fa, .int .i64 fb] 3))))
        have hB12 := Lib.hid (hB11.out.alloc hB11.out.size (.cells #[.int .i64 fa, .int .i64 fb] 3))
        clear hI11 hb11
        go_wp2_with fail
        refine (wcInts_any A11 _ 2 2 c11 2 [fa, fb] [fa, fb] _ hx11.out hTx.out (by decide) (by decide)).mono ?_
        rw [decide_eq_true (rfl : [fa, fb] = [fa, fb])]
        rintro e w12 ⟨rfl, q, rfl⟩
        go_wp2_with fail
        go_ret
        exact ⟨rfl, below_drewN hB12.out _⟩

set_option maxRecDepth 100000 in
theorem lifted (os : Os) (started : os.Started) (H : Type) (enc : TypeId × Value → H) :
    ReturnsInHanded {} Try.checked os 6 .any (Rows.fnReducedSpec.pre6 enc Try.prog Try.f6 Rows.fnReducedRow.domain false) (Rows.fnReducedSpec.post enc Try.prog Try.f6 false true false false) := by
  refine returnsInHanded_of_change (C := Try.checked) own started (by kernel_rfl) Try.func6
    (ChangeSpec.witness6 (enc := enc) (C := Try.checked) false ⟨#[], #[.slice none 0 0, .slice none 0 0], []⟩ 8 (by kernel_rfl) (by kernel_rfl) (by kernel_rfl) (by kernel_rfl)) ?_
  intro W base args ds gs before hval0 hW hcnd _
  have hval : ∀ (j : Nat) t v, Try.f6.params[j]? = some t → args[j]? = some v → Value.okWide Try.prog W .any base t v := hval0
  have hW' := hW
  obtain ⟨p, q, hA0, hV, rfl, hfz, hnd⟩ := hW
  have hA : DataW.TrodAll enc Try.prog W 0 (fun _ => true) true Try.f6.params.toList args.toList ds p := hA0
  rw [Try.params6] at hA hval
  obtain ⟨v0, vs0, d0, ds0, p0, q0, hargs, rfl, rfl, h0, r0⟩ := trodAll_cons hA
  obtain ⟨v1, vs1, d1, ds1, p1, q1, rfl, rfl, rfl, h1, r1⟩ := trodAll_cons r0
  obtain ⟨rfl, rfl, rfl⟩ := trodAll_nil r1
  obtain rfl : args = #[v0, v1] := by cases args; simp_all
  obtain ⟨rfl, rfl⟩ := trodVars_none hV
  have lt0 : ∀ x ∈ p0, x.block < W.heap.size := by
    obtain ⟨m, hm⟩ := h0
    exact DataW.trod_lt m _ _ _ hm
  have lt1 : ∀ x ∈ p1, x.block < W.heap.size := by
    obtain ⟨m, hm⟩ := h1
    exact DataW.trod_lt m _ _ _ hm
  clear hA0 hval0
  refine (walk enc W base v0 d0 p0 (hval 0 35 v0 rfl rfl) h0 lt0 v1 d1 p1 (hval 1 35 v1 rfl rfl) h1 lt1).mono fun e W' ⟨he, bel⟩ => ?_
  subst he
  exact ⟨_, rfl, _, _, _, [], _, [], hW', trodAll_mk1 (shut_bool Try.underlying4 _), (trodAll_cons_mk (Below.trod laidOut (by kernel_rfl) (of_decide_eq_true (by kernel_rfl)) h0 bel lt0) (trodAll_cons_mk (Below.trod laidOut (by kernel_rfl) (of_decide_eq_true (by kernel_rfl)) h1 bel lt1) trodAll_mk0)), rfl, bel.frame _, fun h => by cases h⟩

theorem proved : Rows.FnReducedSaid :=
  OpenClaim.holds_of_wide 6 Try.f6 rfl rfl rfl rfl rfl rfl rfl ⟨rfl, rfl, rfl, rfl, rfl⟩ rfl rfl rfl rfl rfl (by kernel_rfl) Try.func6 (by kernel_rfl)
    (of_decide_eq_true (by kernel_rfl)) (by unfold Func.isWrapper; first | (rw [if_pos (by decide +kernel)]; kernel_rfl) | (rw [if_neg (by decide +kernel)]; exact ⟨rfl, rfl⟩))
    (fun os started H enc _ => lifted os started H enc)
end Go.Proofs.Ytcdajplmheladaa.fnReduced
