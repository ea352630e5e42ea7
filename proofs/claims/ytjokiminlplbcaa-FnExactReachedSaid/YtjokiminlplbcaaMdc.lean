/- The model's rows of weights, one row ahead of each statement; plain functions; l3Zeros and l3One. What a step of the model's sweep adds; plain functions. -/
import Derived.Test.YtjokiminlplbcaaSwm
import Derived.Test.YtjokiminlplbcaaRwk
namespace Go.Proofs.Ytjokiminlplbcaa
set_option maxRecDepth 100000
set_option linter.unusedVariables false
open Go.RowKit

/-- What a row is worth, its first entry being of state k. -/
def rsum (v : Int → Int) : List Int → Nat → Int
  | [], _ => 0
  | u :: r, k => u * v k + rsum v r (k + 1)
theorem rsum_set (v : Int → Int) : ∀ (r : List Int) (z k : Nat) (x : Int), z < r.length → rsum v (r.set z (r.getD z 0 + x)) k = rsum v r k + x * v ((k + z : Nat) : Int)
  | [], z, k, x, h => by simp at h
  | u :: r, 0, k, x, h => by
    show (u + x) * v k + rsum v r (k + 1) = u * v k + rsum v r (k + 1) + x * v ((k : Nat) : Int)
    rw [Int.add_mul]; omega
  | u :: r, z + 1, k, x, h => by
    have ih := rsum_set v r z (k + 1) x (by simpa using h)
    show u * v k + rsum v (r.set z (r.getD z 0 + x)) (k + 1) = u * v k + rsum v r (k + 1) + x * v ((k + (z + 1) : Nat) : Int)
    rw [ih, show k + 1 + z = k + (z + 1) by omega]; omega
theorem rsum_nonneg {v : Int → Int} (hv : ∀ k, 0 ≤ v k) : ∀ {r : List Int} (k : Nat), (∀ x ∈ r, 0 ≤ x) → 0 ≤ rsum v r k
  | [], _, _ => by simp [rsum]
  | u :: r, k, h => by
    have h1 := Int.mul_nonneg (h u List.mem_cons_self) (hv k)
    have h2 := rsum_nonneg hv (k + 1) (fun x hx => h x (List.mem_cons_of_mem _ hx))
    rw [rsum]; omega
theorem rsum_ge {v : Int → Int} (hv : ∀ k, 1 ≤ v k) : ∀ {r : List Int} (k : Nat), (∀ x ∈ r, 0 ≤ x) → ∀ x ∈ r, x ≤ rsum v r k
  | [], _, _, x, hx => by simp at hx
  | u :: r, k, h, x, hx => by
    have h1 : u * 1 ≤ u * v k := Int.mul_le_mul_of_nonneg_left (hv k) (h u List.mem_cons_self)
    have h2 := rsum_nonneg (fun k => Int.le_trans (by decide) (hv k)) (k + 1) (fun x hx => h x (List.mem_cons_of_mem _ hx))
    have h0 := h u List.mem_cons_self
    rw [rsum]
    rcases List.mem_cons.1 hx with rfl | hx
    · omega
    · have := rsum_ge hv (k + 1) (fun x hx => h x (List.mem_cons_of_mem _ hx)) x hx
      omega
theorem rsum_zero (v : Int → Int) : ∀ (n k : Nat), rsum v (List.replicate n 0) k = 0
  | 0, _ => rfl
  | n + 1, k => by rw [List.replicate_succ, rsum, rsum_zero v n]; omega

/-- What an entry is, and rows with an entry made greater. -/
def ent (rs : List (List Int)) (i z : Nat) : Int := (rs.getD i []).getD z 0
def addc (rs : List (List Int)) (i z : Nat) (x : Int) : List (List Int) := rs.set i ((rs.getD i []).set z (ent rs i z + x))
/-- m rows and one more, of 81 entries each, none below 0. -/
def Rk (m : Nat) (rs : List (List Int)) : Prop := rs.length = m + 1 ∧ ∀ ds ∈ rs, ds.length = 81 ∧ ∀ x ∈ ds, 0 ≤ x
theorem Rk.at_ {m i : Nat} {rs : List (List Int)} (h : Rk m rs) (hi : i ≤ m) : rs[i]? = some (rs.getD i []) ∧ (rs.getD i []).length = 81 ∧ ∀ x ∈ rs.getD i [], 0 ≤ x := by
  have hl : i < rs.length := by rw [h.1]; omega
  have e : rs[i]? = some (rs.getD i []) := by rw [List.getD_eq_getElem?_getD, List.getElem?_eq_getElem hl]; rfl
  exact ⟨e, h.2 _ (List.mem_of_getElem? e)⟩
theorem Rk.ent {m i z : Nat} {rs : List (List Int)} (h : Rk m rs) (hi : i ≤ m) (hz : z < 81) : (rs.getD i [])[z]? = some (ent rs i z) ∧ 0 ≤ ent rs i z := by
  obtain ⟨_, h1, h2⟩ := h.at_ hi
  have e : (rs.getD i [])[z]? = some (Go.Proofs.Ytjokiminlplbcaa.ent rs i z) := by unfold Go.Proofs.Ytjokiminlplbcaa.ent; rw [List.getD_eq_getElem?_getD (l := rs.getD i []), List.getElem?_eq_getElem (by omega)]; rfl
  exact ⟨e, h2 _ (List.mem_of_getElem? e)⟩
theorem Rk.add {m i z : Nat} {rs : List (List Int)} {x : Int} (h : Rk m rs) (hi : i ≤ m) (hz : z < 81) (hx : 0 ≤ x) : Rk m (addc rs i z x) := by
  obtain ⟨_, h1, h2⟩ := h.at_ hi
  have h3 := (h.ent hi hz).2
  refine ⟨by unfold addc; rw [List.length_set]; exact h.1, fun ds hd => ?_⟩
  unfold addc at hd
  rcases List.mem_or_eq_of_mem_set hd with hd | rfl
  · exact h.2 ds hd
  · refine ⟨by rw [List.length_set]; exact h1, fun y hy => ?_⟩
    rcases List.mem_or_eq_of_mem_set hy with hy | rfl
    · exact h2 y hy
    · omega
theorem addc_at {m i z : Nat} {rs : List (List Int)} {x : Int} (h : Rk m rs) (hi : i ≤ m) : (addc rs i z x).getD i [] = (rs.getD i []).set z (ent rs i z + x) := by
  unfold addc
  have hl : i < rs.length := by rw [h.1]; omega
  rw [List.getD_eq_getElem?_getD (l := rs.set i _), List.getElem?_set, if_pos rfl, if_pos hl]; rfl
theorem addc_ne {i j z : Nat} {rs : List (List Int)} {x : Int} (h : j ≠ i) : (addc rs i z x).getD j [] = rs.getD j [] := by
  unfold addc
  rw [List.getD_eq_getElem?_getD (l := rs.set i _), List.getElem?_set, if_neg (Ne.symm h), ← List.getD_eq_getElem?_getD]
/-- What n rows from i on are worth. -/
def tailM (V : Nat → Int → Int) (rs : List (List Int)) : Nat → Nat → Int
  | _, 0 => 0
  | i, n + 1 => rsum (V i) (rs.getD i []) 0 + tailM V rs (i + 1) n
theorem tailM_ne (V : Nat → Int → Int) {rs : List (List Int)} {j z : Nat} {x : Int} : ∀ (n i : Nat), j < i ∨ i + n ≤ j → tailM V (addc rs j z x) i n = tailM V rs i n
  | 0, i, _ => rfl
  | n + 1, i, h => by rw [tailM, tailM, tailM_ne V n (i + 1) (by omega), addc_ne (by omega)]
theorem tailM_add (V : Nat → Int → Int) {m : Nat} {rs : List (List Int)} {j z : Nat} {x : Int} (hr : Rk m rs) (hj : j ≤ m) (hz : z < 81) : ∀ (n i : Nat), i ≤ j → j < i + n → tailM V (addc rs j z x) i n = tailM V rs i n + x * V j z
  | 0, i, h1, h2 => by omega
  | n + 1, i, h1, h2 => by
    rw [tailM, tailM]
    by_cases hij : i = j
    · subst hij
      rw [addc_at hr hj, tailM_ne V n (i + 1) (by omega)]
      have e := rsum_set (V i) (rs.getD i []) z 0 x (by rw [(hr.at_ hj).2.1]; exact hz)
      rw [Nat.zero_add] at e
      unfold ent
      rw [e]; omega
    · rw [addc_ne hij, tailM_add V hr hj hz n (i + 1) (by omega) (by omega)]
      omega
theorem tailM_nonneg {V : Nat → Int → Int} {m : Nat} {rs : List (List Int)} (hr : Rk m rs) (hV : ∀ i st, 0 ≤ V i st) : ∀ (n i : Nat), 0 ≤ tailM V rs i n
  | 0, i => by simp [tailM]
  | n + 1, i => by
    have h2 := tailM_nonneg hr hV n (i + 1)
    rw [tailM]
    have h1 : 0 ≤ rsum (V i) (rs.getD i []) 0 := by
      by_cases hi : i ≤ m
      · exact rsum_nonneg (fun k => hV i k) 0 (hr.at_ hi).2.2
      · have e : rs.getD i [] = [] := by
          rw [List.getD_eq_getElem?_getD, List.getElem?_eq_none (by rw [hr.1]; omega)]; rfl
        rw [e]; simp [rsum]
    omega
theorem tailM_ge {V : Nat → Int → Int} {m : Nat} {rs : List (List Int)} (hr : Rk m rs) (hV : ∀ i st, 1 ≤ V i st) : ∀ (n i j : Nat), i ≤ j → j < i + n → ∀ x ∈ rs.getD j [], x ≤ tailM V rs i n
  | 0, i, j, h1, h2, x, hx => by omega
  | n + 1, i, j, h1, h2, x, hx => by
    have hn := tailM_nonneg hr (V := V) (fun i st => by have := hV i st; omega) n (i + 1)
    have hs : 0 ≤ rsum (V i) (rs.getD i []) 0 := by
      have := tailM_nonneg hr (V := V) (fun i st => by have := hV i st; omega) 1 i
      simpa [tailM] using this
    rw [tailM]
    by_cases hij : i = j
    · subst hij
      by_cases hi : i ≤ m
      · have := rsum_ge (v := V i) (fun k => hV i k) 0 (hr.at_ hi).2.2 x hx
        omega
      · have e : rs.getD i [] = [] := by
          rw [List.getD_eq_getElem?_getD, List.getElem?_eq_none (by rw [hr.1]; omega)]; rfl
        rw [e] at hx; simp at hx
    · have := tailM_ge hr hV n (i + 1) j (by omega) (by omega) x hx
      omega

/-- Behind a store into an entry. -/
theorem RowsV.put {w : World} {base : Nat} {v : Value} {rs : List (List Int)} {vs : List Value} {j z b c : Nat} {ds : List Int} {x : Int} (h : RowsV w base v rs vs) (ha : Apart vs) (hj : vs[j]? = some (.slice (some ⟨b, 0, none⟩) ds.length c)) (hd : rs[j]? = some ds) (hz : z < ds.length) :
    RowsV (w.setCell ⟨b, z, none⟩ (.int .i64 x)) base v (rs.set j (ds.set z x)) vs ∧ base ≤ b ∧ b < w.heap.size := by
  have hbj : (Value.slice (some ⟨b, 0, none⟩) ds.length c).ownBlock = some b := rfl
  obtain ⟨ds', hd', ho⟩ := h.2 j _ hj
  obtain rfl : ds = ds' := Option.some.inj (hd.symm.trans hd')
  have hk : KeptBut w (w.setCell ⟨b, z, none⟩ (.int .i64 x)) (fun i => i = b) := KeptBut.put (KeptBut.refl w (fun i => i = b)) (p := ⟨b, z, none⟩) (fun _ => rfl) _
  refine ⟨⟨?_, fun i y hy => ?_⟩, World.ownsRow.lt ho b hbj⟩
  · rw [List.length_set]
    refine owns_but h.1 hk fun k hkb e => ?_
    obtain ⟨c1, g1⟩ := owns_has h.1 hkb
    obtain ⟨c2, g2⟩ := owns_has ho hbj
    exact has_ne g2 g1 int_ne e.symm
  · rw [List.getElem?_set]
    by_cases hij : j = i
    · subst hij
      rw [if_pos rfl, if_pos (List.getElem?_eq_some_iff.1 hd).1]
      refine ⟨_, rfl, ?_⟩
      obtain rfl : Value.slice (some ⟨b, 0, none⟩) ds.length c = y := Option.some.inj (hj.symm.trans hy)
      unfold IOwn
      rw [List.length_set]
      exact owns_set ho hz
    · rw [if_neg hij]
      obtain ⟨es, he, ho2⟩ := h.2 i y hy
      refine ⟨es, he, ho2.but hk fun k hkb e => ?_⟩
      subst e
      rcases Nat.lt_or_ge i j with hlt | hge
      · exact ha i j _ _ hlt hy hj k hkb hbj
      · exact ha j i _ _ (by omega) hj hy k hbj hkb

def zs (n : Nat) : List Int := List.replicate n 0
theorem zs_len (n : Nat) : (zs n).length = n := List.length_replicate
theorem zs_succ (n : Nat) : zs (n + 1) = zs n ++ [0] := List.replicate_succ'

set_option maxHeartbeats 2000000 in
theorem l3Zeros_any (w : World) :
    Calls Try.prog 107 #[.int .i64 81] w (Wtsd w (zs 81)) := by
  obtain ⟨i0, hi0, hz0, hz1', hz2'⟩ := info_parts info_int
  have hN := Lib.hid (show IOwn (w.alloc (.cells #[] 3)) w.heap.size (.slice (some ⟨w.heap.size, 0, none⟩) 0 0) (zs 0) from
    ⟨rfl, .inr ⟨w.heap.size, 0, #[], rfl, Nat.le_refl _, Has.new w _ _, Nat.le_refl _, Nat.zero_le _, rfl, rfl⟩⟩)
  have hB0 := Lib.hid (show Below w.heap.size w (w.alloc (.cells #[] 3)) from (Below.refl _ _).alloc (Nat.le_refl _) _)
  go_enter Try.func107, Try.ntmps107
  go_wp2_with fail
  go_loopg [3, 4] 81 (fun gn o v wr => ∃ k : Nat, k ≤ 81 ∧ gn = 81 - k ∧ v = .int .i64 k ∧ IOwn wr w.heap.size o (zs k) ∧ Below w.heap.size w wr)
  case atStart => exact ⟨0, Nat.zero_le _, rfl, rfl, hN.out, hB0.out⟩
  case round =>
    obtain ⟨k, hk, hgn, rfl, hO, hb2⟩ := hrel
    obtain ⟨Ao, co, hvo, _, _⟩ := hO.form
    subst hvo
    have hz2 := hb2.size
    have hgk : gk = 81 - k := hgn
    clear hgn
    rw [zs_len] at *
    by_cases hlt : k < 81
    · have hO3 := Lib.hid (hO.alloc (.cells #[.int .i64 0] 3))
      have hnw := Lib.hid (new_one wr (.int .i64 0) 3)
      have hB3 := Lib.hid (hb2.alloc hz2 (.cells #[.int .i64 0] 3))
      clear hO hb2
      go_wp2_with (at_builtin; refine wpList_append_lies _ rfl (.tmp 11) (.tmp 12) 28 rfl w.heap.size 3 i0 _ 1 8 Try.underlying28 hi0 hz0 hz1' hz2' rfl (by decide) (.slice Ao k co) k (ints (zs k)) rfl (by have := hO3.out; unfold IOwn at this; rw [zs_len] at this; exact this) ⟨wr.heap.size, 0, none⟩ 1 1 [.int .i64 0] rfl rfl (by exact hnw.out) (by simp [Value.oneCell']) (by omega) (by unfold maxLen; omega) (by omega) (by simp; omega) (wr.heap.size + 1) (by simp) ?_; intro gr cr2 w4 hown4 hgrow4 hat4 hlt4)
      have hF := Lib.hid (IOwn.append_ (news := [(0 : Int)]) hO3.out (by rw [zs_len]; exact hown4) hgrow4 hB3.out (by simp; omega))
      clear hown4 hgrow4 hat4
      go_wp2_with fail
      go_roundg (81 - (k + 1))
      case measure => omega
      case rel => exact ⟨k + 1, by omega, rfl, by go_num, by rw [zs_succ]; exact hF.out.1, hF.out.2⟩
    · obtain rfl : k = 81 := by omega
      have hF := Lib.hid (show Wtsd w (zs 81) (.returned (.slice Ao 81 co)) wr from ⟨_, rfl, hO, hb2⟩)
      clear hO hb2
      go_wp2_with fail
      go_ret
      exact hF.out

/-- The row of one state. -/
def one81 (z : Nat) : List Int := (zs 81).set z 1
theorem l3One_any (z : Nat) (w : World) (hz : z < 81) :
    Calls Try.prog 86 #[.int .i64 z] w (Wtsd w (one81 z)) := by
  have hz0 : (0 : Int) ≤ (z : Int) := by omega
  have hz1 : (z : Int) < 81 := by omega
  go_enter Try.func86, Try.ntmps86
  go_wp2_with fail
  refine (l3Zeros_any _).mono ?_
  rintro e w1 ⟨v, rfl, hO, hb⟩
  have hO' : w1.ownsRow w.heap.size 3 1 v 81 (ints (zs 81)) := by
    unfold IOwn at hO
    rwa [zs_len] at hO
  obtain ⟨A, c, rfl, _, _⟩ := owns_form hO'
  obtain ⟨b, cur, rfl, hgb, hH, _, _, hcs, hcl⟩ := owns_open hO' (by decide)
  have hF := Lib.hid (show Wtsd w (one81 z) (.returned (.slice (some ⟨b, 0, none⟩) 81 c)) (w1.setCell ⟨b, z, none⟩ (.int .i64 1)) from
    ⟨_, rfl, by unfold IOwn one81; rw [List.length_set, zs_len]; exact owns_set hO' hz, Below.setCell hb (p := ⟨b, z, none⟩) hgb _⟩)
  have hc1 := hcl z (by omega)
  have hce : (ints (zs 81))[z]? = some (.int .i64 0) := ints_get (by unfold zs; rw [List.getElem?_replicate, if_pos hz])
  rw [hce] at hc1
  have hfz := hH.frozen
  clear hO hO' hb hcl hce hcs hH
  go_wp2_with fail
  go_ret
  exact hF.out
end Go.Proofs.Ytjokiminlplbcaa

namespace Go.Proofs.Ytjokiminlplbcaa
set_option maxRecDepth 100000
set_option linter.unusedVariables false
open Go.RowKit

def toM (m : Nat) (rs : List (List Int)) (r : Rn) : List (List Int) := addc rs (min r.pos m) r.st.toNat r.wt
/-- The rows behind the first d values of a statement. -/
def mD (m : Nat) (rs : List (List Int)) (s : St) (r : Rn) : Nat → List (List Int)
  | 0 => rs
  | d + 1 => toM m (mD m rs s r d) (Rn.step s r d)
theorem toM_ne {m t : Nat} {rs : List (List Int)} {r : Rn} (h : t < min r.pos m) : (toM m rs r).getD t [] = rs.getD t [] := addc_ne (by omega)
theorem toM_ok {m : Nat} {rs : List (List Int)} {r : Rn} (h : Rk m rs) (hs : 0 ≤ r.st ∧ r.st ≤ 80) (hw : 0 ≤ r.wt) : Rk m (toM m rs r) := h.add (Nat.min_le_right _ _) (by omega) hw
theorem toM_tail (V : Nat → Int → Int) {m i : Nat} {rs : List (List Int)} {r : Rn} (h : Rk m rs) (hs : 0 ≤ r.st ∧ r.st ≤ 80) (hi : i + 1 ≤ r.pos) (him : i < m) : tailM V (toM m rs r) (i + 1) (m - i) = tailM V rs (i + 1) (m - i) + r.wt * V (min r.pos m) r.st := by
  unfold toM
  rw [tailM_add V h (Nat.min_le_right _ _) (by omega) (m - i) (i + 1) (by omega) (by omega), Int.toNat_of_nonneg hs.1]
theorem toM_val {h : Int → Int} {os : List St} {i m : Nat} {rs : List (List Int)} {r : Rn} (hm : os.length = m) (hr : Rk m rs) (hs : 0 ≤ r.st ∧ r.st ≤ 80) (hi : i + 1 ≤ r.pos) (him : i < m) :
    tailM (valAt h os) (toM m rs r) (i + 1) (m - i) = tailM (valAt h os) rs (i + 1) (m - i) + valR h os r := by
  rw [toM_tail _ hr hs hi him]
  congr 1
  unfold valR
  rw [← hm, valAt_min]
theorem toM_bd {i m : Nat} {rs : List (List Int)} {r : Rn} (hr : Rk m rs) (hs : 0 ≤ r.st ∧ r.st ≤ 80) (hw : 0 ≤ r.wt) (hi : i + 1 ≤ r.pos) (him : i < m) :
    tailM (V2 m) (toM m rs r) (i + 1) (m - i) ≤ tailM (V2 m) rs (i + 1) (m - i) + r.wt * V2 m (i + 1) 0 := by
  rw [toM_tail _ hr hs hi him]
  have := Int.mul_le_mul_of_nonneg_left (V2_mono (m := m) (i := i + 1) (j := min r.pos m) (by omega) r.st 0) hw
  omega
theorem mD_le {m : Nat} {rs : List (List Int)} {s : St} {r : Rn} (him : r.pos < m) : ∀ (d t : Nat), t ≤ r.pos → (mD m rs s r d).getD t [] = rs.getD t []
  | 0, t, _ => rfl
  | d + 1, t, ht => by
    rw [mD, toM_ne (by have := step_pos s r (d : Int); omega), mD_le him d t ht]
theorem mD_ok {m : Nat} {rs : List (List Int)} {s : St} {r : Rn} (hok : s.ok = true) (hr : Rk m rs) (hs : 0 ≤ r.st ∧ r.st ≤ 80) (hw : 0 ≤ r.wt) : ∀ (d : Nat), d ≤ 3 → Rk m (mD m rs s r d)
  | 0, _ => hr
  | d + 1, hd => toM_ok (mD_ok hok hr hs hw d (by omega)) (next_bd hok hs (by omega)) (Int.mul_nonneg hw (fac_bd hok _).1)
theorem mD_bd {m : Nat} {rs : List (List Int)} {s : St} {r : Rn} (hok : s.ok = true) (hr : Rk m rs) (hs : 0 ≤ r.st ∧ r.st ≤ 80) (hw : 0 ≤ r.wt) (him : r.pos < m) : ∀ (d : Nat), d ≤ 3 → tailM (V2 m) (mD m rs s r d) (r.pos + 1) (m - r.pos) ≤ tailM (V2 m) rs (r.pos + 1) (m - r.pos) + d * (9 * r.wt * V2 m (r.pos + 1) 0)
  | 0, _ => by simp [mD]
  | d + 1, hd => by
    have ih := mD_bd hok hr hs hw him d (by omega)
    have hf := fac_bd hok (s.next r.st d)
    have h1 := toM_bd (rs := mD m rs s r d) (r := Rn.step s r d) (i := r.pos) (m := m) (mD_ok hok hr hs hw d (by omega)) (next_bd hok hs (by omega)) (Int.mul_nonneg hw hf.1) (by have := step_pos s r (d : Int); omega) him
    rw [mD]
    have h2 : (Rn.step s r d).wt * V2 m (r.pos + 1) 0 ≤ 9 * r.wt * V2 m (r.pos + 1) 0 := by
      refine Int.mul_le_mul_of_nonneg_right ?_ (by have := V2_ge m (r.pos + 1) 0; omega)
      show r.wt * s.fac (s.next r.st d) ≤ 9 * r.wt
      rw [Int.mul_comm 9 r.wt]
      exact Int.mul_le_mul_of_nonneg_left hf.2 hw
    have h3 : ((d + 1 : Nat) : Int) * (9 * r.wt * V2 m (r.pos + 1) 0) = d * (9 * r.wt * V2 m (r.pos + 1) 0) + 9 * r.wt * V2 m (r.pos + 1) 0 := by
      rw [Int.natCast_succ, Int.add_mul, Int.one_mul]
    omega
theorem mD_val {h : Int → Int} {os : List St} {m : Nat} {rs : List (List Int)} {s : St} {r : Rn} (hm : os.length = m) (hok : s.ok = true) (hr : Rk m rs) (hs : 0 ≤ r.st ∧ r.st ≤ 80) (hw : 0 ≤ r.wt) (him : r.pos < m) (hso : os[r.pos]? = some s) :
    tailM (valAt h os) (mD m rs s r s.many) (r.pos + 1) (m - r.pos) = tailM (valAt h os) rs (r.pos + 1) (m - r.pos) + r.wt * valAt h os r.pos r.st := by
  have key : ∀ (d : Nat), d ≤ 2 → tailM (valAt h os) (toM m (mD m rs s r d) (Rn.step s r d)) (r.pos + 1) (m - r.pos) = tailM (valAt h os) (mD m rs s r d) (r.pos + 1) (m - r.pos) + valR h os (Rn.step s r d) := fun d hd =>
    toM_val hm (mD_ok hok hr hs hw d (by omega)) (next_bd hok hs (by omega)) (by have := step_pos s r (d : Int); omega) him
  have e : r.wt * valAt h os r.pos r.st = valR h os r := rfl
  rw [e]
  have k0 := key 0 (by decide)
  have k1 := key 1 (by decide)
  have k2 := key 2 (by decide)
  unfold St.many
  cases hd : s.draws
  · rw [if_neg (by simp)]
    rw [valR_own hso hd]
    exact k0
  · rw [if_pos rfl]
    rw [valR_draw hso hd]
    have e0 : mD m rs s r 1 = toM m (mD m rs s r 0) (Rn.step s r ((0 : Nat) : Int)) := rfl
    have e1 : mD m rs s r 2 = toM m (mD m rs s r 1) (Rn.step s r ((1 : Nat) : Int)) := rfl
    have e2 : mD m rs s r 3 = toM m (mD m rs s r 2) (Rn.step s r ((2 : Nat) : Int)) := rfl
    rw [e2, k2, e1, k1, e0, k0]
    have q0 : valR h os (Rn.step s r ((0 : Nat) : Int)) = valR h os (Rn.step s r 0) := rfl
    have q1 : valR h os (Rn.step s r ((1 : Nat) : Int)) = valR h os (Rn.step s r 1) := rfl
    have q2 : valR h os (Rn.step s r ((2 : Nat) : Int)) = valR h os (Rn.step s r 2) := rfl
    rw [q0, q1, q2]
    show tailM (valAt h os) rs (r.pos + 1) (m - r.pos) + _ + _ + _ = _
    omega

/-- What stands behind z entries of row i. -/
def Mst (os : List St) (m : Nat) (T : (Int → Int) → Int) (i z : Nat) (rs : List (List Int)) : Prop :=
  Rk m rs ∧ (∀ h, rsum (valAt h os i) ((rs.getD i []).drop z) z + tailM (valAt h os) rs (i + 1) (m - i) = T h) ∧ rsum (V2 m i) ((rs.getD i []).drop z) z + tailM (V2 m) rs (i + 1) (m - i) ≤ 1000000000000000000
theorem rsum_drop {m i z : Nat} {rs : List (List Int)} (hr : Rk m rs) (hi : i ≤ m) (hz : z < 81) (v : Int → Int) : rsum v ((rs.getD i []).drop z) z = ent rs i z * v z + rsum v ((rs.getD i []).drop (z + 1)) (z + 1) := by
  obtain ⟨h1, _⟩ := hr.ent hi hz
  obtain ⟨hl, he⟩ := List.getElem?_eq_some_iff.1 h1
  rw [List.drop_eq_getElem_cons hl, he]; rfl
theorem drop_nonneg {m i z : Nat} {rs : List (List Int)} (hr : Rk m rs) (hi : i ≤ m) : ∀ x ∈ (rs.getD i []).drop z, 0 ≤ x := fun x hx => (hr.at_ hi).2.2 x (List.mem_of_mem_drop hx)
theorem Mst.skip {os : List St} {m i z : Nat} {T : (Int → Int) → Int} {rs : List (List Int)} (h : Mst os m T i z rs) (hi : i ≤ m) (hz : z < 81) (h0 : ent rs i z = 0) : Mst os m T i (z + 1) rs := by
  obtain ⟨hr, hT, hV⟩ := h
  refine ⟨hr, fun q => ?_, ?_⟩
  · rw [← hT q, rsum_drop hr hi hz, h0]; omega
  · rw [rsum_drop hr hi hz, h0] at hV; omega
theorem Mst.next {os : List St} {m i : Nat} {T : (Int → Int) → Int} {rs : List (List Int)} (h : Mst os m T i 81 rs) (hi : i < m) : Mst os m T (i + 1) 0 rs := by
  obtain ⟨hr, hT, hV⟩ := h
  have e : (rs.getD i []).drop 81 = [] := List.drop_eq_nil_of_le (by rw [(hr.at_ (by omega)).2.1]; exact Nat.le_refl _)
  have key : ∀ V : Nat → Int → Int, tailM V rs (i + 1) (m - i) = rsum (V (i + 1)) (rs.getD (i + 1) []) 0 + tailM V rs (i + 1 + 1) (m - (i + 1)) := fun V => by
    rw [show m - i = m - (i + 1) + 1 by omega, tailM]
  refine ⟨hr, fun q => ?_, ?_⟩
  · rw [← hT q, e, key, List.drop_zero]; simp [rsum]
  · rw [e, key] at hV
    rw [List.drop_zero]
    simpa [rsum] using hV
/-- What is known of an entry that is some, and of the rows behind each of the values. -/
theorem Mst.cap {os : List St} {m i z : Nat} {T : (Int → Int) → Int} {rs : List (List Int)} {s : St} (h : Mst os m T i z rs) (hok : s.ok = true) (hi : i < m) (hz : z < 81) :
    0 ≤ ent rs i z ∧ ent rs i z * 27 ≤ 1000000000000000000 ∧ ∀ d, d ≤ 3 → Rk m (mD m rs s ⟨i, z, ent rs i z⟩ d) ∧ ∀ t, i < t → t ≤ m → ∀ y, y < 81 → ent (mD m rs s ⟨i, z, ent rs i z⟩ d) t y ≤ 1000000000000000000 := by
  obtain ⟨hr, _, hV⟩ := h
  rw [rsum_drop hr (by omega) hz] at hV
  obtain ⟨_, hu⟩ := hr.ent (i := i) (by omega) hz
  have hd0 := rsum_nonneg (v := V2 m i) (fun k => by have := V2_ge m i k; omega) (z + 1) (drop_nonneg (z := z + 1) hr (show i ≤ m by omega))
  have ht0 := tailM_nonneg hr (V := V2 m) (fun i st => by have := V2_ge m i st; omega) (m - i) (i + 1)
  have hV1 := V2_succ hi z 0
  have hV2 := V2_ge m (i + 1) 0
  have h27 : ent rs i z * 27 ≤ ent rs i z * V2 m i z := Int.mul_le_mul_of_nonneg_left (by omega) hu
  refine ⟨hu, by omega, fun d hd => ?_⟩
  have hk := mD_ok (r := ⟨i, z, ent rs i z⟩) hok hr (by show 0 ≤ (z : Int) ∧ (z : Int) ≤ 80; omega) hu d hd
  refine ⟨hk, fun t ht htm y hy => ?_⟩
  have h1 := mD_bd (r := ⟨i, z, ent rs i z⟩) hok hr (by show 0 ≤ (z : Int) ∧ (z : Int) ≤ 80; omega) hu hi d hd
  have h2 := tailM_ge hk (V2_ge m) (m - i) (i + 1) t (by omega) (by omega) _ (List.mem_of_getElem? (hk.ent htm hy).1)
  have h3 : (d : Int) * (9 * ent rs i z * V2 m (i + 1) 0) ≤ 3 * (9 * ent rs i z * V2 m (i + 1) 0) := Int.mul_le_mul_of_nonneg_right (by omega) (Int.mul_nonneg (by omega) (by omega))
  have h4 : 3 * (9 * ent rs i z * V2 m (i + 1) 0) = ent rs i z * V2 m i z := by
    rw [hV1, ← Int.mul_assoc 3, ← Int.mul_assoc 3, ← Int.mul_assoc (ent rs i z), Int.mul_comm (ent rs i z) 27]
    rfl
  have h1' : tailM (V2 m) (mD m rs s ⟨i, z, ent rs i z⟩ d) (i + 1) (m - i) ≤ tailM (V2 m) rs (i + 1) (m - i) + d * (9 * ent rs i z * V2 m (i + 1) 0) := h1
  omega
theorem Mst.step {os : List St} {m i z : Nat} {T : (Int → Int) → Int} {rs : List (List Int)} {s : St} (h : Mst os m T i z rs) (hm : os.length = m) (hok : s.ok = true) (hi : i < m) (hz : z < 81) (hso : os[i]? = some s) : Mst os m T i (z + 1) (mD m rs s ⟨i, z, ent rs i z⟩ s.many) := by
  obtain ⟨hr, hT, hV⟩ := h
  obtain ⟨_, hu⟩ := hr.ent (i := i) (by omega) hz
  have hs : 0 ≤ (Rn.mk i z (ent rs i z)).st ∧ (Rn.mk i z (ent rs i z)).st ≤ 80 := by show 0 ≤ (z : Int) ∧ (z : Int) ≤ 80; omega
  have hmany : s.many ≤ 3 := by unfold St.many; split <;> omega
  have hk := mD_ok (r := ⟨i, z, ent rs i z⟩) hok hr hs hu s.many hmany
  have hrow : (mD m rs s ⟨i, z, ent rs i z⟩ s.many).getD i [] = rs.getD i [] := mD_le hi s.many i (Nat.le_refl _)
  refine ⟨hk, fun q => ?_, ?_⟩
  · have := mD_val (h := q) (r := ⟨i, z, ent rs i z⟩) hm hok hr hs hu hi hso
    have this' : tailM (valAt q os) (mD m rs s ⟨i, z, ent rs i z⟩ s.many) (i + 1) (m - i) = tailM (valAt q os) rs (i + 1) (m - i) + ent rs i z * valAt q os i z := this
    rw [hrow, this', ← hT q, rsum_drop hr (by omega) hz]
    omega
  · have h1 := mD_bd (r := ⟨i, z, ent rs i z⟩) hok hr hs hu hi s.many hmany
    have h1' : tailM (V2 m) (mD m rs s ⟨i, z, ent rs i z⟩ s.many) (i + 1) (m - i) ≤ tailM (V2 m) rs (i + 1) (m - i) + s.many * (9 * ent rs i z * V2 m (i + 1) 0) := h1
    have hV1 := V2_succ hi z 0
    have hV2 := V2_ge m (i + 1) 0
    have h3 : (s.many : Int) * (9 * ent rs i z * V2 m (i + 1) 0) ≤ 3 * (9 * ent rs i z * V2 m (i + 1) 0) := Int.mul_le_mul_of_nonneg_right (by omega) (Int.mul_nonneg (by omega) (by omega))
    have h4 : 3 * (9 * ent rs i z * V2 m (i + 1) 0) = ent rs i z * V2 m i z := by
      rw [hV1, ← Int.mul_assoc 3, ← Int.mul_assoc 3, ← Int.mul_assoc (ent rs i z), Int.mul_comm (ent rs i z) 27]
      rfl
    rw [rsum_drop hr (by omega) hz] at hV
    rw [hrow]
    omega

/-- The rows at the start. -/
theorem mst_start {os : List St} {m : Nat} {ds : List Int} {T : (Int → Int) → Int} (hl : ds.length = 81) (h0 : ∀ x ∈ ds, 0 ≤ x) (hT : ∀ h, rsum (valAt h os 0) ds 0 = T h) (hV : rsum (V2 m 0) ds 0 ≤ 1000000000000000000) : Mst os m T 0 0 (ds :: List.replicate m (zs 81)) := by
  have ht : ∀ (V : Nat → Int → Int) (n i : Nat), tailM V (ds :: List.replicate m (zs 81)) (i + 1) n = 0 := fun V n => by
    induction n with
    | zero => exact fun i => rfl
    | succ n ih =>
      intro i
      rw [tailM, ih (i + 1)]
      have : (ds :: List.replicate m (zs 81)).getD (i + 1) [] = zs 81 ∨ (ds :: List.replicate m (zs 81)).getD (i + 1) [] = [] := by
        rw [List.getD_eq_getElem?_getD, List.getElem?_cons_succ, List.getElem?_replicate]
        split
        · exact .inl rfl
        · exact .inr rfl
      rcases this with e | e
      · rw [e]
        unfold zs
        rw [rsum_zero]; rfl
      · rw [e]; rfl
  refine ⟨⟨by simp, fun es he => ?_⟩, fun q => ?_, ?_⟩
  · rcases List.mem_cons.1 he with rfl | he
    · exact ⟨hl, h0⟩
    · rw [List.mem_replicate] at he
      rw [he.2]
      exact ⟨zs_len _, fun x hx => by unfold zs at hx; rw [List.mem_replicate] at hx; omega⟩
  · rw [ht, Int.add_zero]
    exact hT q
  · rw [ht, Int.add_zero]
    exact hV
theorem Mst.last {os : List St} {m z : Nat} {T : (Int → Int) → Int} {rs : List (List Int)} (h : Mst os m T m 0 rs) (hm : os.length = m) (hq : z < 81) : (rs.getD m [])[z]? = some (T (ind z)) := by
  obtain ⟨hr, hT, _⟩ := h
  have hl := (hr.at_ (Nat.le_refl m)).2.1
  have e := hT (ind z)
  rw [Nat.sub_self, List.drop_zero] at e
  have e2 : ∀ st, valAt (ind z) os m st = ind z st := fun st => valAt_end (by omega) st
  have e3 : ∀ (r : List Int) (k : Nat), rsum (valAt (ind (z : Int)) os m) r k = if k ≤ z then r.getD (z - k) 0 else 0 := by
    intro r
    induction r with
    | nil => intro k; simp [rsum]
    | cons u r ih =>
      intro k
      rw [rsum, ih, e2]
      unfold ind
      by_cases h1 : k = z
      · subst h1
        rw [if_pos rfl, if_neg (by omega), if_pos (Nat.le_refl _), Nat.sub_self]
        simp
      · rw [if_neg (by omega)]
        by_cases h2 : k + 1 ≤ z
        · rw [if_pos h2, if_pos (by omega), show z - k = z - (k + 1) + 1 by omega]
          simp
        · rw [if_neg h2, if_neg (by omega)]
          simp
  rw [e3, if_pos (Nat.zero_le _), Nat.sub_zero] at e
  have e4 : tailM (valAt (ind (z : Int)) os) rs (m + 1) 0 = 0 := rfl
  rw [e4, Int.add_zero] at e
  rw [← e, List.getD_eq_getElem?_getD (l := rs.getD m []), List.getElem?_eq_getElem (by omega)]
  rfl
end Go.Proofs.Ytjokiminlplbcaa
