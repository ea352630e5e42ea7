/- Weights of programs one behind the other, and weights as sums over traces; plain functions. -/
import Derived.Test.YtkibkmheomlafaaJJ
import Derived.Test.YtkibkmheomlafaaAn
import Derived.Test.YtkibkmheomlafaaMdf
namespace Go.Proofs.Ytkibkmheomlafaa
set_option maxRecDepth 100000
set_option linter.unusedVariables false
open Go.RowKit

theorem val_append (h : Int → Int) {b : List St} : ∀ (a : List St) (k : Nat) (st : Int), k ≤ a.length → (∀ (i : Nat) (s : St), a[i]? = some s → s.k = 6 → i + 1 + s.b.toNat ≤ a.length) → val h (a ++ b) k st = val (fun x => val h b 0 x) a k st
  | [], 0, st, _, _ => by simp [val]
  | [], k + 1, st, hk, _ => by simp at hk
  | s :: r, k + 1, st, hk, hp => by
    rw [List.cons_append, val, val]
    exact val_append h r k st (by simp at hk; omega) (fun i q hq h6 => by
      have := hp (i + 1) q (by simpa using hq) h6
      simp at this; omega)
  | s :: r, 0, st, _, hp => by
    have hr : ∀ (i : Nat) (q : St), r[i]? = some q → q.k = 6 → i + 1 + q.b.toNat ≤ r.length := fun i q hq h6 => by
      have := hp (i + 1) q (by simpa using hq) h6
      simp at this; omega
    have key : ∀ (k' : Nat) (st' : Int), k' ≤ r.length → val h (r ++ b) k' st' = val (fun x => val h b 0 x) r k' st' := fun k' st' hk' => val_append h r k' st' hk' hr
    have hj : s.jump st ≤ r.length := by
      unfold St.jump
      split
      · rename_i hc
        have := hp 0 s rfl hc.1
        simp at this
        omega
      · omega
    rw [List.cons_append, val, val, key 0 _ (by omega), key 0 _ (by omega), key 0 _ (by omega), key _ _ hj]
theorem past_no {a : List St} (h : past a = false) : ∀ (i : Nat) (s : St), a[i]? = some s → s.k = 6 → i + 1 + s.b.toNat ≤ a.length := fun i s hs h6 => by
  refine Classical.byContradiction fun hn => ?_
  have hl := (List.getElem?_eq_some_iff.1 hs).1
  have hp : s.past a.length (0 + i) = true := by
    unfold St.past
    rw [h6]
    simp
    omega
  have := pastFrom_yes (n := a.length) (i := 0) hs hp
  unfold past at h
  rw [h] at this
  cases this

/-- The first n states' values. -/
def cutF (f : Int → Int) (n : Nat) (x : Int) : Int := if 0 ≤ x ∧ x < n then f x else 0
theorem cut_sum (f : Int → Int) (a : List St) (st : Int) : ∀ n : Nat, val (cutF f n) a 0 st = rsum f ((List.range n).map fun (q : Nat) => val (ind q) a 0 st) 0
  | 0 => by
    have e : cutF f 0 = fun x => 0 * cutF f 0 x := by
      funext x
      unfold cutF
      rw [if_neg (by omega)]; rfl
    have h : val (cutF f 0) a 0 st = 0 * val (cutF f 0) a 0 st := by
      conv => lhs; rw [e]
      exact val_mul 0 (cutF f 0) _ _ _
    rw [h]; simp [rsum]
  | n + 1 => by
    have e : cutF f (n + 1) = fun x => cutF f n x + f n * ind n x := by
      funext x
      unfold cutF ind
      by_cases h1 : 0 ≤ x ∧ x < n
      · rw [if_pos h1, if_pos (by omega), if_neg (by omega)]; omega
      · by_cases h2 : x = n
        · rw [if_neg h1, if_pos (by omega), if_pos h2, h2]; omega
        · rw [if_neg h1, if_neg (by omega), if_neg h2]; omega
    rw [e, val_add (cutF f n) (fun x => f n * ind n x), val_mul (f n) (ind n), cut_sum f a st n, List.range_succ, List.map_append, rsum_append]
    simp [rsum, Int.mul_comm]
theorem val_states (f : Int → Int) {a : List St} {st : Int} (hok : ∀ s ∈ a, s.ok = true) (hs : 0 ≤ st ∧ st ≤ 80) : val f a 0 st = rsum f (wts a st) 0 := by
  have h := cut_sum f a st 81
  have h2 := val_congr (f := cutF f 81) (g := f) (fun x h0 h1 => by unfold cutF; rw [if_pos (by omega)]) a 0 st hok hs
  rw [← h2, h]
  rfl

/-- A program behind another one has its weights from what that one leaves. -/
theorem joined_weights {ps qs a b : List St} (hp : unrolled ps = some a) (hq : unrolled qs = some b) (hpast : past a = false) (hs : (unrolled (a ++ b)).isSome = true) :
    unrolled (a ++ b) = some (a ++ b) ∧ weightsFrom (a ++ b) 0 = pushed b (weightsFrom ps 0) ∧ countDraws (a ++ b) = countDraws ps + countDraws qs := by
  obtain ⟨_, _, _, hn1, hok1⟩ := unrolled_parts hp
  obtain ⟨_, _, _, hn2, _⟩ := unrolled_parts hq
  have hu : unrolled (a ++ b) = some (a ++ b) := by
    cases hc : unrolled (a ++ b) with
    | none => rw [hc] at hs; cases hs
    | some os =>
      obtain ⟨_, _, h3, _, _⟩ := unrolled_parts hc
      have h4 := unr_self (a ++ b) (fun x hx => by
        rcases List.mem_append.1 hx with h | h
        · exact hn1 x h
        · exact hn2 x h)
      rw [h4] at h3
      injection h3 with h3
      rw [← h3]
  refine ⟨hu, ?_, ?_⟩
  · have e1 : weightsFrom (a ++ b) 0 = wts (a ++ b) 0 := by
      unfold weightsFrom
      rw [hu]
      exact if_pos (by decide)
    have e2 : weightsFrom ps 0 = wts a 0 := by
      unfold weightsFrom
      rw [hp]
      exact if_pos (by decide)
    rw [e1, e2]
    unfold pushed
    conv => lhs; unfold wts
    refine List.map_congr_left fun q _ => ?_
    show val (ind q) (a ++ b) 0 0 = rsum (fun x => val (ind q) b 0 x) (wts a 0) 0
    rw [val_append (ind q) a 0 0 (Nat.zero_le _) (past_no hpast)]
    exact val_states _ (fun s hs => List.all_eq_true.1 hok1 s hs) (by decide)
  · unfold countDraws
    rw [hu, hp, hq]
    simp [List.filter_append]

/-- What leaves are worth. -/
def sumL (h : Int → Int) : List Leaf → Int
  | [] => 0
  | l :: r => l.2.2 * h l.2.1 + sumL h r
theorem sumL_append (h : Int → Int) : ∀ (a b : List Leaf), sumL h (a ++ b) = sumL h a + sumL h b
  | [], b => by simp [sumL]
  | l :: r, b => by rw [List.cons_append, sumL, sumL, sumL_append h r b]; omega
theorem sumL_pre (h : Int → Int) (pre : List Int) : ∀ (a : List Leaf), sumL h (a.map (lpre pre)) = sumL h a
  | [] => rfl
  | l :: r => by rw [List.map_cons, sumL, sumL, sumL_pre h pre r]; rfl
theorem sumL_filt (h : Int → Int) : ∀ (a : List Leaf), sumL h (filt a) = sumL h a
  | [] => rfl
  | l :: r => by
    by_cases h0 : l.2.2 = 0
    · rw [filt_no h0, sumL, sumL_filt h r, h0]; omega
    · rw [filt_yes h0, sumL, sumL, sumL_filt h r]
theorem sumL_lv (h : Int → Int) : ∀ (os : List St) (k : Nat) (st wt : Int), sumL h (lv os k st wt) = wt * val h os k st
  | [], k, st, wt => by simp [lv, sumL, val]
  | _ :: r, k + 1, st, wt => by rw [lv, val]; exact sumL_lv h r k st wt
  | s :: r, 0, st, wt => by
    rw [lv, val]
    by_cases h0 : wt = 0
    · rw [if_pos h0, h0]; simp [sumL]
    · rw [if_neg h0]
      by_cases hd : s.draws = true
      · rw [if_pos hd, if_pos hd, sumL_append, sumL_append, sumL_pre, sumL_pre, sumL_pre, sumL_lv h r, sumL_lv h r, sumL_lv h r, Int.mul_add, Int.mul_add, Int.mul_assoc, Int.mul_assoc, Int.mul_assoc]
        omega
      · rw [if_neg hd, if_neg hd, sumL_lv h r, Int.mul_assoc]
theorem traces_sum (h : Int → Int) (os : List St) : sumL h (traces os) = valAt h os 0 0 := by
  unfold traces lvR
  rw [sumL_filt, sumL_lv, Int.one_mul]
  rfl
theorem sumL_take {h : Int → Int} {ls : List Leaf} {k : Nat} {l : Leaf} (hl : ls[k]? = some l) : sumL h (ls.take (k + 1)) = sumL h (ls.take k) + l.2.2 * h l.2.1 := by
  obtain ⟨hk, he⟩ := List.getElem?_eq_some_iff.1 hl
  rw [List.take_succ_eq_append_getElem hk, sumL_append, he]
  simp [sumL]
/-- The weights of the first k traces, by their states. -/
def accL (ls : List Leaf) (k : Nat) : List Int := (List.range 81).map fun (q : Nat) => sumL (ind q) (ls.take k)
theorem accL_len (ls : List Leaf) (k : Nat) : (accL ls k).length = 81 := by simp [accL]
theorem accL_at (ls : List Leaf) (k : Nat) {q : Nat} (h : q < 81) : (accL ls k)[q]? = some (sumL (ind q) (ls.take k)) := by
  unfold accL
  rw [List.getElem?_map, List.getElem?_range h]; rfl
theorem accL_zero (ls : List Leaf) : accL ls 0 = zs 81 := by
  unfold accL zs
  rw [List.eq_replicate_iff]
  exact ⟨by simp, fun b hb => by
    obtain ⟨q, _, rfl⟩ := List.mem_map.1 hb
    rfl⟩
theorem accL_step {ls : List Leaf} {k z : Nat} {l : Leaf} (hl : ls[k]? = some l) (hz : l.2.1 = z) (h81 : z < 81) : (accL ls k).set z (sumL (ind z) (ls.take k) + l.2.2) = accL ls (k + 1) := by
  apply List.ext_getElem?
  intro q
  by_cases hq : q < 81
  · rw [accL_at ls (k + 1) hq, sumL_take hl, hz]
    by_cases hqz : q = z
    · subst hqz
      rw [List.getElem?_set_self (by rw [accL_len]; exact hq)]
      unfold ind
      rw [if_pos rfl, Int.mul_one]
    · rw [List.getElem?_set_ne (by omega), accL_at ls k hq]
      have e : ind q (z : Int) = 0 := by unfold ind; rw [if_neg (by omega)]
      rw [e, Int.mul_zero, Int.add_zero]
  · rw [List.getElem?_eq_none (by rw [List.length_set, accL_len]; omega), List.getElem?_eq_none (by rw [accL_len]; omega)]
theorem accL_all {os : List St} {n : Nat} (hn : (traces os).length ≤ n) : accL (traces os) n = wts os 0 := by
  unfold accL wts
  refine List.map_congr_left fun q _ => ?_
  rw [List.take_of_length_le hn, traces_sum]
theorem sumL_bd {ls : List Leaf} (h0 : ∀ l ∈ ls, 0 ≤ l.2.2) (q : Int) : ∀ k : Nat, 0 ≤ sumL (ind q) (ls.take k) ∧ sumL (ind q) (ls.take k) ≤ sumL (ind q) ls := by
  have hi : ∀ x : Int, 0 ≤ ind q x := fun x => by unfold ind; split <;> omega
  have nn : ∀ a : List Leaf, (∀ l ∈ a, 0 ≤ l.2.2) → 0 ≤ sumL (ind q) a := by
    intro a
    induction a with
    | nil => intro _; exact Int.le_refl _
    | cons l r ih =>
      intro ha
      have h1 := Int.mul_nonneg (ha l List.mem_cons_self) (hi l.2.1)
      have h2 := ih (fun x hx => ha x (List.mem_cons_of_mem _ hx))
      rw [sumL]; omega
  intro k
  have h1 := nn (ls.take k) (fun l hl => h0 l (List.mem_of_mem_take hl))
  have h2 := nn (ls.drop k) (fun l hl => h0 l (List.mem_of_mem_drop hl))
  have h3 := sumL_append (ind q) (ls.take k) (ls.drop k)
  rw [List.take_append_drop] at h3
  omega
end Go.Proofs.Ytkibkmheomlafaa
