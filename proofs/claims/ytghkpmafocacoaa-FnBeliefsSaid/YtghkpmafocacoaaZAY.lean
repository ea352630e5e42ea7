/- Parts of the proof: LI. -/
import Derived.Test.YtghkpmafocacoaaZAL
import Derived.Test.YtghkpmafocacoaaZAQ
import Derived.Test.YtghkpmafocacoaaZAX
import Derived.Test.YtghkpmafocacoaaZAI
namespace Go.Proofs.Ytghkpmafocacoaa
set_option maxRecDepth 100000
set_option linter.unusedVariables false
open Go.RowKit
def keyF (F : Fac) : Nat × Nat := if F.vs.length = 1 then ((vAt F.vs 0).toNat, (vAt F.vs 0).toNat) else prI F.a F.b
def six : List (Nat × Nat) := [(0, 1), (0, 2), (0, 3), (1, 2), (1, 3), (2, 3)]
def allK : List (Nat × Nat) := [(0, 0), (1, 1), (2, 2), (3, 3)] ++ six
theorem prod_keys (st : Int) : ∀ (ks : List (Nat × Nat)) (Fs : List Fac), ks.Nodup → (∀ F ∈ Fs, keyF F ∈ ks) → prodAt Fs st = (ks.map fun k => prodAt (Fs.filter fun F => keyF F == k) st).foldr (· * ·) 1
  | [], [], _, _ => rfl
  | [], F :: r, _, h => by have := h F List.mem_cons_self; cases this
  | k :: ks, Fs, hn, h => by
    have hn' := List.nodup_cons.1 hn
    have ih := prod_keys st ks (Fs.filter fun F => !(keyF F == k)) hn'.2 (fun F hF => by
      obtain ⟨h1, h2⟩ := List.mem_filter.1 hF
      rcases List.mem_cons.1 (h F h1) with h3 | h3
      · rw [h3] at h2; simp at h2
      · exact h3)
    rw [← prodAt_part (fun F => keyF F == k) st Fs, ih, List.map_cons, List.foldr_cons]
    congr 2
    refine List.map_congr_left fun j hj => ?_
    have hne : j ≠ k := fun q => hn'.1 (q ▸ hj)
    rw [List.filter_filter]
    congr 1
    refine List.filter_congr fun F _ => ?_
    by_cases hq : keyF F = j
    · have : keyF F ≠ k := fun q => hne (hq.symm.trans q)
      simp [hq, hne]
    · simp [hq]
def dig (st : Int) (v : Nat) : Nat := (valueAt st (v : Int)).toNat
theorem key_one {F : Fac} (h : facOk 9 F = true) (hl : F.vs.length = 1 ∨ F.vs.length = 2) (v : Fin 4) : (keyF F == (v.val, v.val)) = decide (F.vs = [(v.val : Int)]) := by
  rcases hl with hl | hl
  · obtain ⟨a, ha⟩ := one_var h hl
    unfold keyF
    rw [if_pos hl, ha]
    show (((a.val : Int).toNat, (a.val : Int).toNat) == (v.val, v.val)) = _
    rw [Int.toNat_natCast]
    have key : ∀ a v : Fin 4, ((a.val, a.val) == (v.val, v.val)) = decide ([(a.val : Int)] = [(v.val : Int)]) := by decide
    exact key a v
  · obtain ⟨a, b, hn, hv, ea, eb⟩ := pair_two h hl
    unfold keyF
    rw [if_neg (by omega), ea, eb, hv]
    have key : ∀ a b v : Fin 4, a ≠ b → (prI a.val b.val == (v.val, v.val)) = false := by decide
    rw [key a b v hn]
    simp
theorem fAt_one {F : Fac} {v : Fin 4} (h : F.vs = [(v.val : Int)]) (st : Int) : fAt F st = F.ns.getD (dig st v.val) 0 := by
  unfold fAt
  rw [h]
  show F.ns.getD (3 * 0 + valueAt st (v.val : Int)).toNat 0 = _
  rw [Int.mul_zero, Int.zero_add]
  rfl
theorem own_keys (st : Int) (v : Fin 4) : ∀ (Fs : List Fac), (∀ F ∈ Fs, facOk 9 F = true ∧ (F.vs.length = 1 ∨ F.vs.length = 2)) → ∀ p : Int,
    Fs.foldl (fun p F => if F.vs = [(v.val : Int)] then p * F.ns.getD (dig st v.val) 0 else p) p = p * prodAt (Fs.filter fun F => keyF F == (v.val, v.val)) st
  | [], _, p => by show p = p * 1; rw [Int.mul_one]
  | F :: r, h, p => by
    obtain ⟨h1, h2⟩ := h F List.mem_cons_self
    have hk := key_one h1 h2 v
    rw [List.foldl_cons, own_keys st v r (fun G hG => h G (List.mem_cons_of_mem _ hG))]
    by_cases e : F.vs = [(v.val : Int)]
    · rw [if_pos e, List.filter_cons_of_pos (by rw [hk]; exact decide_eq_true e), prodAt_cons, fAt_one e, Int.mul_assoc]
    · rw [if_neg e, List.filter_cons_of_neg (by rw [hk]; simp [e])]
theorem key_two {F : Fac} (h : facOk 9 F = true) (hl : F.vs.length = 1 ∨ F.vs.length = 2) {u t : Fin 4} (hut : u.val < t.val) : (keyF F == (u.val, t.val)) = isP F u.val t.val := by
  rcases hl with hl | hl
  · obtain ⟨a, ha⟩ := one_var h hl
    unfold keyF isP
    rw [if_pos hl, hl, ha]
    show (((a.val : Int).toNat, (a.val : Int).toNat) == (u.val, t.val)) = _
    rw [Int.toNat_natCast]
    simp
    omega
  · obtain ⟨a, b, hn, hv, ea, eb⟩ := pair_two h hl
    unfold keyF isP
    rw [if_neg (by omega), hl, ea, eb]
    have key : ∀ a b u t : Fin 4, a ≠ b → u.val < t.val → (prI a.val b.val == (u.val, t.val)) = ((2 : Nat) == 2 && ((a.val == u.val && b.val == t.val) || (a.val == t.val && b.val == u.val))) := by decide +kernel
    exact key a b u t hn hut
theorem st2_dig : ∀ (s : Fin 81) (u t : Fin 4), u ≠ t → valueAt (st2 u.val (dig (s.val : Int) u.val) t.val (dig (s.val : Int) t.val)) (u.val : Int) = valueAt (s.val : Int) (u.val : Int) ∧ valueAt (st2 u.val (dig (s.val : Int) u.val) t.val (dig (s.val : Int) t.val)) (t.val : Int) = valueAt (s.val : Int) (t.val : Int) := by decide +kernel
theorem pair_at {Fs : List Fac} {g : Gr} (hf : Fst Fs g) (hF : ∀ F ∈ Fs, facOk 9 F = true ∧ (F.vs.length = 1 ∨ F.vs.length = 2)) {u t : Fin 4} (hut : u.val < t.val) (s : Fin 81) :
    prodAt (Fs.filter fun F => keyF F == (u.val, t.val)) (s.val : Int) = if (g.nx u.val).testBit t.val = true then rF Fs u.val t.val (dig (s.val : Int)) else 1 := by
  have e : (Fs.filter fun F => keyF F == (u.val, t.val)) = Fs.filter fun F => isP F u.val t.val := List.filter_congr fun F h => key_two (hF F h).1 (hF F h).2 hut
  have h1 := hf.one u t
  rw [e, hf.ed u t]
  match hl : Fs.filter (fun F => isP F u.val t.val), h1 with
  | [], _ =>
    rw [if_neg]
    · rfl
    · intro hq
      obtain ⟨F, hFm, hp⟩ := List.any_eq_true.1 hq
      have : F ∈ Fs.filter fun F => isP F u.val t.val := List.mem_filter.2 ⟨hFm, hp⟩
      rw [hl] at this
      cases this
  | [F], _ =>
    have hm : F ∈ Fs.filter fun F => isP F u.val t.val := by rw [hl]; exact List.mem_cons_self
    obtain ⟨m1, m2⟩ := List.mem_filter.1 hm
    rw [if_pos (List.any_eq_true.2 ⟨F, m1, m2⟩)]
    have hb : btw Fs u.val t.val = F := by
      unfold btw
      rw [← List.head?_filter, hl]
      rfl
    unfold rF
    rw [if_neg (by omega), hb]
    show 1 * fAt F (s.val : Int) = _
    rw [Int.one_mul]
    have hl2 : F.vs.length = 2 := by
      unfold isP at m2
      rw [Bool.and_eq_true, beq_iff_eq] at m2
      exact m2.1
    obtain ⟨a, b, hn, hv, ea, eb⟩ := pair_two (hF F m1).1 hl2
    obtain ⟨d1, d2⟩ := st2_dig s u t (fun q => by omega)
    have hab : (a = u ∧ b = t) ∨ (a = t ∧ b = u) := by
      unfold isP at m2
      rw [hl2, ea, eb] at m2
      simp at m2
      rcases m2 with m | m
      · exact .inl ⟨Fin.ext m.1, Fin.ext m.2⟩
      · exact .inr ⟨Fin.ext m.1, Fin.ext m.2⟩
    refine (fAt_agree fun w hw => ?_).symm
    rw [hv] at hw
    rcases hab with ⟨rfl, rfl⟩ | ⟨rfl, rfl⟩
    · rcases List.mem_cons.1 hw with rfl | hw
      · exact d1
      · obtain rfl := List.mem_singleton.1 hw
        exact d2
    · rcases List.mem_cons.1 hw with rfl | hw
      · exact d2
      · obtain rfl := List.mem_singleton.1 hw
        exact d1
  | F :: G :: r, h1 => simp at h1
theorem prod_filter (r : Nat → Nat → (Nat → Nat) → Int) (e : Nat → Nat) (q : Nat × Nat → Bool) : ∀ l : List (Nat × Nat), (l.map fun p => if q p = true then r p.1 p.2 e else 1).foldr (· * ·) 1 = prodB r (l.filter q) e
  | [] => rfl
  | p :: l => by
    rw [List.map_cons, List.foldr_cons, prod_filter r e q l]
    by_cases h : q p = true
    · rw [if_pos h, List.filter_cons_of_pos h]
      rfl
    · rw [if_neg h, List.filter_cons_of_neg h, Int.one_mul]
theorem tree_lens {Fs : List Fac} (h : treeOk Fs = true) : ∀ F ∈ Fs, facOk 9 F = true ∧ (F.vs.length = 1 ∨ F.vs.length = 2) := by
  obtain ⟨h1, h2⟩ := tree_parts h
  have hl : Fs.all lenOk = true := by
    cases hq : Fs.all lenOk
    · have := grL_bad Fs (some Gr.none_) hq
      unfold grL at h2
      rw [this] at h2
      cases h2
    · rfl
  exact fun F hF => ⟨list_nine h1 F hF, by
    have := List.all_eq_true.1 hl F hF
    unfold lenOk at this
    have := inB_iff.1 this
    omega⟩
/-- What a state weighs, in a forest. -/
theorem forest_at {Fs : List Fac} (h : treeOk Fs = true) (s : Fin 81) : prodAt Fs (s.val : Int) = prodB (rF Fs) (atoms (gOf Fs)) (dig (s.val : Int)) := by
  have hF := tree_lens h
  have hf := (tree_fst h).1
  have hk : ∀ F ∈ Fs, keyF F ∈ allK := fun F hm => by
    obtain ⟨h1, h2⟩ := hF F hm
    rcases h2 with hl | hl
    · obtain ⟨a, ha⟩ := one_var h1 hl
      unfold keyF
      rw [if_pos hl, ha]
      show ((a.val : Int).toNat, (a.val : Int).toNat) ∈ allK
      rw [Int.toNat_natCast]
      have : ∀ a : Fin 4, (a.val, a.val) ∈ allK := by decide
      exact this a
    · obtain ⟨a, b, hn, hv, ea, eb⟩ := pair_two h1 hl
      unfold keyF
      rw [if_neg (by omega), ea, eb]
      have : ∀ a b : Fin 4, a ≠ b → prI a.val b.val ∈ allK := by decide
      exact this a b hn
  rw [prod_keys (s.val : Int) allK Fs (by decide) hk]
  have ho : ∀ v : Fin 4, prodAt (Fs.filter fun F => keyF F == (v.val, v.val)) (s.val : Int) = rF Fs v.val v.val (dig (s.val : Int)) := fun v => by
    have := own_keys (s.val : Int) v Fs hF 1
    rw [Int.one_mul] at this
    rw [← this]
    unfold rF
    rw [if_pos rfl]
    rfl
  have h6 : (six.map fun k => prodAt (Fs.filter fun F => keyF F == k) (s.val : Int)) = six.map fun p => if ((gOf Fs).nx p.1).testBit p.2 = true then rF Fs p.1 p.2 (dig (s.val : Int)) else 1 := by
    refine List.map_congr_left fun p hp => ?_
    have : ∀ p ∈ six, ∃ u t : Fin 4, p = (u.val, t.val) ∧ u.val < t.val := by decide
    obtain ⟨u, t, rfl, hut⟩ := this p hp
    exact pair_at hf hF hut s
  unfold allK
  rw [List.map_append, List.foldr_append, h6, prod_filter (rF Fs) (dig (s.val : Int)) (fun p => ((gOf Fs).nx p.1).testBit p.2) six]
  show prodAt (Fs.filter fun F => keyF F == (0, 0)) (s.val : Int) * (prodAt (Fs.filter fun F => keyF F == (1, 1)) (s.val : Int) * (prodAt (Fs.filter fun F => keyF F == (2, 2)) (s.val : Int) * (prodAt (Fs.filter fun F => keyF F == (3, 3)) (s.val : Int) * prodB (rF Fs) (edges (gOf Fs)) (dig (s.val : Int))))) = _
  have o0 := ho 0
  have o1 := ho 1
  have o2 := ho 2
  have o3 := ho 3
  rw [show prodAt (Fs.filter fun F => keyF F == (0, 0)) (s.val : Int) = rF Fs 0 0 (dig (s.val : Int)) from o0, show prodAt (Fs.filter fun F => keyF F == (1, 1)) (s.val : Int) = rF Fs 1 1 (dig (s.val : Int)) from o1, show prodAt (Fs.filter fun F => keyF F == (2, 2)) (s.val : Int) = rF Fs 2 2 (dig (s.val : Int)) from o2, show prodAt (Fs.filter fun F => keyF F == (3, 3)) (s.val : Int) = rF Fs 3 3 (dig (s.val : Int)) from o3]
  rfl
/-- Sums of the first numbers, three at a time. -/
def sumN (h : Nat → Int) : Nat → Int
  | 0 => 0
  | n + 1 => sumN h n + h n
theorem sumN_three (h : Nat → Int) : ∀ n, sumN h (3 * n) = sumN (fun k => sum3 fun d => h (3 * k + d)) n
  | 0 => rfl
  | n + 1 => by
    rw [show 3 * (n + 1) = 3 * n + 1 + 1 + 1 by omega, sumN, sumN, sumN, sumN, sumN_three h n]
    show _ = _ + (h (3 * n) + h (3 * n + 1) + h (3 * n + 2))
    rw [show 3 * n + 1 + 1 = 3 * n + 2 from rfl]
    omega
theorem rsum_sumN (w : Int → Int) (f : Nat → Int) : ∀ n, rsum w ((List.range n).map f) 0 = sumN (fun i => f i * w (i : Int)) n
  | 0 => rfl
  | n + 1 => by
    rw [List.range_succ, List.map_append, rsum_append, rsum_sumN w f n, List.length_map, List.length_range, Nat.zero_add]
    show _ + (f n * w (n : Int) + 0) = _ + f n * w (n : Int)
    rw [Int.add_zero]
theorem dig_of : ∀ a b c d : Fin 3, (∀ x : Fin 4, dig ((3 * (3 * (3 * a.val + b.val) + c.val) + d.val : Nat) : Int) x.val = (upd (upd (upd (upd (fun _ => 0) 3 a.val) 2 b.val) 1 c.val) 0 d.val) x.val) ∧ 3 * (3 * (3 * a.val + b.val) + c.val) + d.val < 81 := by decide +kernel
theorem sum_states {f : (Nat → Nat) → Int} (hf : ∀ e e' : Nat → Nat, (∀ v, v ≤ 3 → e v = e' v) → f e = f e') (h : Nat → Int) (hh : ∀ s, s < 81 → h s = f (dig (s : Int))) : sumN h 81 = sumB f [3, 2, 1, 0] (fun _ => 0) := by
  rw [show (81 : Nat) = 3 * 27 from rfl, sumN_three, show (27 : Nat) = 3 * 9 from rfl, sumN_three, show (9 : Nat) = 3 * 3 from rfl, sumN_three]
  show 0 + (sum3 fun b => sum3 fun c => sum3 fun d => h (3 * (3 * (3 * 0 + b) + c) + d)) + (sum3 fun b => sum3 fun c => sum3 fun d => h (3 * (3 * (3 * 1 + b) + c) + d)) + (sum3 fun b => sum3 fun c => sum3 fun d => h (3 * (3 * (3 * 2 + b) + c) + d)) = _
  rw [Int.zero_add]
  have key : ∀ a, a < 3 → (sum3 fun b => sum3 fun c => sum3 fun d => h (3 * (3 * (3 * a + b) + c) + d)) = sumB f [2, 1, 0] (upd (fun _ => 0) 3 a) := fun a ha =>
    sum3_congr3 fun b hb => sum3_congr3 fun c hc => sum3_congr3 fun d hd => by
      obtain ⟨q1, q2⟩ := dig_of ⟨a, ha⟩ ⟨b, hb⟩ ⟨c, hc⟩ ⟨d, hd⟩
      rw [hh _ q2]
      exact hf _ _ fun v hv => q1 ⟨v, by omega⟩
  rw [key 0 (by decide), key 1 (by decide), key 2 (by decide)]
  rfl
theorem perm_four : ∀ v : Fin 4, ([3, 2, 1, 0] : List Nat).isPerm (v.val :: others v.val) = true := by decide
theorem others_ne : ∀ v : Fin 4, ∀ b ∈ others v.val, b ≠ v.val := by decide
theorem atoms_le (g : Gr) : ∀ p ∈ atoms g, p.1 ≤ 3 ∧ p.2 ≤ 3 := fun p hp => by
  have h6 : ∀ p ∈ ([(0, 0), (1, 1), (2, 2), (3, 3)] : List (Nat × Nat)) ++ six, p.1 ≤ 3 ∧ p.2 ≤ 3 := by decide
  rcases List.mem_append.1 hp with h | h
  · exact h6 p (List.mem_append.2 (.inl h))
  · exact h6 p (List.mem_append.2 (.inr (List.mem_filter.1 h).1))
/-- A marginal of a forest is the belief times the other trees' totals. -/
theorem marg_at_forest {Fs : List Fac} (h : treeOk Fs = true) (v : Fin 4) {x : Nat} (hx : x < 3) :
    rsum (ev (v.val : Int) (x : Int)) ((List.range 81).map fun (i : Nat) => prodAt Fs (i : Int)) 0 = allT Fs (gOf Fs) v.val 4 x * restT Fs (gOf Fs) v.val := by
  have hac := (tree_fst h).1.acy
  obtain ⟨P, hP⟩ : ∃ P, P = prodB (rF Fs) (atoms (gOf Fs)) := ⟨_, rfl⟩
  obtain ⟨Q, hQ⟩ : ∃ Q : (Nat → Nat) → Int, Q = fun e => if e v.val = x then 1 else 0 := ⟨_, rfl⟩
  have hPl : ∀ e e' : Nat → Nat, (∀ u, u ≤ 3 → e u = e' u) → P e = P e' := fun e e' he => by
    rw [hP]
    exact prodB_loc (rF_loc Fs) fun p hp => ⟨he _ (atoms_le _ p hp).1, he _ (atoms_le _ p hp).2⟩
  have hv3 : v.val ≤ 3 := by omega
  rw [rsum_sumN, sum_states (f := fun e => P e * Q e) (fun e e' he => by rw [hPl e e' he, hQ]; dsimp only; rw [he v.val hv3]) _ (fun s hs => by
    rw [forest_at h ⟨s, hs⟩, hP, hQ]
    congr 1
    unfold ev dig
    have hb := value_bd (st := (s : Int)) (v := (v.val : Int)) (by omega) (by omega)
    show (if valueAt (s : Int) (v.val : Int) = (x : Int) then (1 : Int) else 0) = if (valueAt (s : Int) (v.val : Int)).toNat = x then 1 else 0
    by_cases e : valueAt (s : Int) (v.val : Int) = (x : Int)
    · rw [if_pos e, if_pos (by rw [e]; exact Int.toNat_natCast x)]
    · rw [if_neg e, if_neg (by omega)]), sumB_perm (List.isPerm_iff.1 (perm_four v)) (by decide)]
  have key : ∀ y, y < 3 → sumB (fun e => P e * Q e) (others v.val) (upd (fun _ => 0) v.val y) = if y = x then sumB P (others v.val) (upd (fun _ => 0) v.val x) else 0 := fun y hy => by
    rw [← sumB_left (P := P) (Q := Q) (others v.val) (fun b hb e z => by
      rw [hQ]
      dsimp only
      rw [show upd e b z v.val = e v.val from if_neg fun q => others_ne v b hb q.symm])]
    have e1 : Q (upd (fun _ => 0) v.val y) = if y = x then 1 else 0 := by
      rw [hQ]
      dsimp only
      rw [show upd (fun _ => 0) v.val y v.val = y from if_pos rfl]
    rw [e1]
    by_cases e : y = x
    · rw [if_pos e, if_pos e, Int.mul_one, e]
    · rw [if_neg e, if_neg e, Int.mul_zero]
  have hb := bel_whole Fs hac v (e := upd (fun _ => 0) v.val x) (E3.upd (fun _ => by decide) v.val hx)
  rw [show upd (fun _ => 0) v.val x v.val = x from if_pos rfl, ← hP] at hb
  rw [hb]
  show sum3 (fun y => sumB (fun e => P e * Q e) (others v.val) (upd (fun _ => 0) v.val y)) = _
  unfold sum3
  dsimp only
  rw [key 0 (by decide), key 1 (by decide), key 2 (by decide)]
  obtain rfl | rfl | rfl : x = 0 ∨ x = 1 ∨ x = 2 := by omega
  all_goals simp
theorem gcdI_mul9 {a b g : Int} (ha : 0 ≤ a) (hb : 0 ≤ b) (hg : 0 ≤ g) : gcdI (a * g) (b * g) = gcdI a b * g := by
  obtain ⟨x, rfl⟩ := Int.eq_ofNat_of_zero_le ha
  obtain ⟨y, rfl⟩ := Int.eq_ofNat_of_zero_le hb
  obtain ⟨z, rfl⟩ := Int.eq_ofNat_of_zero_le hg
  unfold gcdI
  rw [← Int.natCast_mul, ← Int.natCast_mul, Int.toNat_natCast, Int.toNat_natCast, Int.toNat_natCast, Int.toNat_natCast, Nat.gcd_mul_right, Int.natCast_mul]
theorem foldl_gcd_mul9 {g : Int} (hg : 0 ≤ g) : ∀ {es : List Int} {a : Int}, (∀ x ∈ es, 0 ≤ x) → 0 ≤ a → (es.map fun e => e * g).foldl gcdI (a * g) = es.foldl gcdI a * g
  | [], a, _, _ => rfl
  | u :: r, a, h, ha => by
    have hu := h u List.mem_cons_self
    show (r.map fun e => e * g).foldl gcdI (gcdI (a * g) (u * g)) = r.foldl gcdI (gcdI a u) * g
    rw [gcdI_mul9 ha hu hg]
    exact foldl_gcd_mul9 hg (fun x hx => h x (List.mem_cons_of_mem _ hx)) (by unfold gcdI; exact Int.natCast_nonneg _)
theorem isum_nn : ∀ {es : List Int}, (∀ x ∈ es, 0 ≤ x) → 0 ≤ isum es
  | [], _ => by simp [isum]
  | u :: r, h => by
    have h1 := h u List.mem_cons_self
    have h2 := isum_nn (es := r) fun x hx => h x (List.mem_cons_of_mem _ hx)
    rw [isum]
    omega
theorem isum_mem : ∀ {es : List Int}, (∀ x ∈ es, 0 ≤ x) → ∀ {y : Int}, y ∈ es → y ≤ isum es
  | u :: r, h, y, hy => by
    have h1 := h u List.mem_cons_self
    have h2 := isum_nn (es := r) fun x hx => h x (List.mem_cons_of_mem _ hx)
    rw [isum]
    rcases List.mem_cons.1 hy with rfl | hy
    · omega
    · have := isum_mem (es := r) (fun x hx => h x (List.mem_cons_of_mem _ hx)) hy
      omega
/-- Multiples of numbers are reduced to the same. -/
theorem redL_mul {g : Int} (hg : 0 < g) {es : List Int} (h : ∀ x ∈ es, 0 ≤ x) : redL (es.map fun e => e * g) = redL es := by
  have h1 := foldl_gcd_mul9 (Int.le_of_lt hg) (es := es) (a := 0) h (Int.le_refl _)
  rw [Int.zero_mul] at h1
  have h2 : gcdF (es.map fun e => e * g) = gcdF es * g := h1
  unfold redL divL
  rw [h2]
  by_cases h0 : gcdF es = 0
  · rw [h0, Int.zero_mul, if_pos rfl, if_pos rfl]
    have hz : ∀ x ∈ es, x = 0 := fun x hx => by
      have hd : gcdF es ∣ x := gcdF_dvd (M := isum es) (fun y hy => ⟨h y hy, isum_mem h hy⟩) (isum_nn h) x hx
      rw [h0] at hd
      exact Int.zero_dvd.1 hd
    refine (List.map_congr_left fun x hx => ?_).trans (List.map_id es)
    rw [hz x hx]
    exact Int.zero_mul g
  · rw [if_neg (fun q => by rcases Int.mul_eq_zero.1 q with q | q <;> omega), if_neg h0, List.map_map]
    exact List.map_congr_left fun x _ => Int.mul_ediv_mul_of_pos_left x (gcdF es) hg
end Go.Proofs.Ytghkpmafocacoaa
