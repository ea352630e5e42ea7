/- Parts of the proof: Md. -/
import Derived.Test.YtkggejmamhakaaaZAP
import Derived.Test.YtkggejmamhakaaaZAX
import Derived.Test.YtkggejmamhakaaaZBW
import Derived.Test.YtkggejmamhakaaaZAJ
namespace Go.Proofs.Ytkggejmamhakaaa
set_option maxRecDepth 100000
set_option linter.unusedVariables false
open Go.RowKit
end Go.Proofs.Ytkggejmamhakaaa
namespace Go.Proofs.Ytkggejmamhakaaa
set_option maxRecDepth 100000
set_option linter.unusedVariables false
open Go.RowKit
/-- What an entry is, and rows with an entry made greater. -/
def ent (rs : List (List Int)) (i z : Nat) : Int := (rs.getD i []).getD z 0
def addc (rs : List (List Int)) (i z : Nat) (x : Int) : List (List Int) := rs.set i ((rs.getD i []).set z (ent rs i z + x))
/-- m rows and one more, of 81 entries each, none below 0. -/
def Rk (m : Nat) (rs : List (List Int)) : Prop := rs.length = m + 1 ∧ ∀ ds ∈ rs, ds.length = 81 ∧ ∀ x ∈ ds, 0 ≤ x
theorem Rk.at_ {m i : Nat} {rs : List (List Int)} (h : Rk m rs) (hi : i ≤ m) : rs[i]? = some (rs.getD i []) ∧ (rs.getD i []).length = 81 ∧ ∀ x ∈ rs.getD i [], 0 ≤ x := by
  have hl : i < rs.length := by rw [h.1]; omega
  have e : rs[i]? = some (rs.getD i []) := by rw [List.getD_eq_getElem?_getD, List.getElem?_eq_getElem hl]; rfl
  exact ⟨e, h.2 _ (List.mem_of_getElem? e)⟩
theorem Rk.ent {m i z : Nat} {rs : List (List Int)} (h : Rk m rs) (hi : i ≤ m) (hz : z < 81) : (rs.getD i [])[z]? = some (ent rs i z) ∧ 0 ≤ ent rs i z := by
  obtain ⟨_, h1, h2⟩ := h.at_ hi
  have e : (rs.getD i [])[z]? = some (Go.Proofs.Ytkggejmamhakaaa.ent rs i z) := by unfold Go.Proofs.Ytkggejmamhakaaa.ent; rw [List.getD_eq_getElem?_getD (l := rs.getD i []), List.getElem?_eq_getElem (by omega)]; rfl
  exact ⟨e, h2 _ (List.mem_of_getElem? e)⟩
theorem Rk.add {m i z : Nat} {rs : List (List Int)} {x : Int} (h : Rk m rs) (hi : i ≤ m) (hz : z < 81) (hx : 0 ≤ x) : Rk m (addc rs i z x) := by
  obtain ⟨_, h1, h2⟩ := h.at_ hi
  have h3 := (h.ent hi hz).2
  refine ⟨by unfold addc; rw [List.length_set]; exact h.1, fun ds hd => ?_⟩
  unfold addc at hd
  rcases List.mem_or_eq_of_mem_set hd with hd | rfl
  · exact h.2 ds hd
  · refine ⟨by rw [List.length_set]; exact h1, fun y hy => ?_⟩
    rcases List.mem_or_eq_of_mem_set hy with hy | rfl
    · exact h2 y hy
    · omega
theorem addc_at {m i z : Nat} {rs : List (List Int)} {x : Int} (h : Rk m rs) (hi : i ≤ m) : (addc rs i z x).getD i [] = (rs.getD i []).set z (ent rs i z + x) := by
  unfold addc
  have hl : i < rs.length := by rw [h.1]; omega
  rw [List.getD_eq_getElem?_getD (l := rs.set i _), List.getElem?_set, if_pos rfl, if_pos hl]; rfl
theorem addc_ne {i j z : Nat} {rs : List (List Int)} {x : Int} (h : j ≠ i) : (addc rs i z x).getD j [] = rs.getD j [] := by
  unfold addc
  rw [List.getD_eq_getElem?_getD (l := rs.set i _), List.getElem?_set, if_neg (Ne.symm h), ← List.getD_eq_getElem?_getD]
/-- What n rows from i on are worth. -/
def tailM (V : Nat → Int → Int) (rs : List (List Int)) : Nat → Nat → Int
  | _, 0 => 0
  | i, n + 1 => rsum (V i) (rs.getD i []) 0 + tailM V rs (i + 1) n
theorem tailM_ne (V : Nat → Int → Int) {rs : List (List Int)} {j z : Nat} {x : Int} : ∀ (n i : Nat), j < i ∨ i + n ≤ j → tailM V (addc rs j z x) i n = tailM V rs i n
  | 0, i, _ => rfl
  | n + 1, i, h => by rw [tailM, tailM, tailM_ne V n (i + 1) (by omega), addc_ne (by omega)]
theorem tailM_add (V : Nat → Int → Int) {m : Nat} {rs : List (List Int)} {j z : Nat} {x : Int} (hr : Rk m rs) (hj : j ≤ m) (hz : z < 81) : ∀ (n i : Nat), i ≤ j → j < i + n → tailM V (addc rs j z x) i n = tailM V rs i n + x * V j z
  | 0, i, h1, h2 => by omega
  | n + 1, i, h1, h2 => by
    rw [tailM, tailM]
    by_cases hij : i = j
    · subst hij
      rw [addc_at hr hj, tailM_ne V n (i + 1) (by omega)]
      have e := rsum_set (V i) (rs.getD i []) z 0 x (by rw [(hr.at_ hj).2.1]; exact hz)
      rw [Nat.zero_add] at e
      unfold ent
      rw [e]; omega
    · rw [addc_ne hij, tailM_add V hr hj hz n (i + 1) (by omega) (by omega)]
      omega
theorem tailM_nonneg {V : Nat → Int → Int} {m : Nat} {rs : List (List Int)} (hr : Rk m rs) (hV : ∀ i st, 0 ≤ V i st) : ∀ (n i : Nat), 0 ≤ tailM V rs i n
  | 0, i => by simp [tailM]
  | n + 1, i => by
    have h2 := tailM_nonneg hr hV n (i + 1)
    rw [tailM]
    have h1 : 0 ≤ rsum (V i) (rs.getD i []) 0 := by
      by_cases hi : i ≤ m
      · exact rsum_nonneg (fun k => hV i k) 0 (hr.at_ hi).2.2
      · have e : rs.getD i [] = [] := by
          rw [List.getD_eq_getElem?_getD, List.getElem?_eq_none (by rw [hr.1]; omega)]; rfl
        rw [e]; simp [rsum]
    omega
theorem tailM_ge {V : Nat → Int → Int} {m : Nat} {rs : List (List Int)} (hr : Rk m rs) (hV : ∀ i st, 1 ≤ V i st) : ∀ (n i j : Nat), i ≤ j → j < i + n → ∀ x ∈ rs.getD j [], x ≤ tailM V rs i n
  | 0, i, j, h1, h2, x, hx => by omega
  | n + 1, i, j, h1, h2, x, hx => by
    have hn := tailM_nonneg hr (V := V) (fun i st => by have := hV i st; omega) n (i + 1)
    have hs : 0 ≤ rsum (V i) (rs.getD i []) 0 := by
      have := tailM_nonneg hr (V := V) (fun i st => by have := hV i st; omega) 1 i
      simpa [tailM] using this
    rw [tailM]
    by_cases hij : i = j
    · subst hij
      by_cases hi : i ≤ m
      · have := rsum_ge (v := V i) (fun k => hV i k) 0 (hr.at_ hi).2.2 x hx
        omega
      · have e : rs.getD i [] = [] := by
          rw [List.getD_eq_getElem?_getD, List.getElem?_eq_none (by rw [hr.1]; omega)]; rfl
        rw [e] at hx; simp at hx
    · have := tailM_ge hr hV n (i + 1) j (by omega) (by omega) x hx
      omega
/-- Behind a store into an entry. -/
theorem RowsV.put {w : World} {base : Nat} {v : Value} {rs : List (List Int)} {vs : List Value} {j z b c : Nat} {ds : List Int} {x : Int} (h : RowsV w base v rs vs) (ha : Apart vs) (hj : vs[j]? = some (.slice (some ⟨b, 0, none⟩) ds.length c)) (hd : rs[j]? = some ds) (hz : z < ds.length) :
    RowsV (w.setCell ⟨b, z, none⟩ (.int .i64 x)) base v (rs.set j (ds.set z x)) vs ∧ base ≤ b ∧ b < w.heap.size := by
  have hbj : (Value.slice (some ⟨b, 0, none⟩) ds.length c).ownBlock = some b := rfl
  obtain ⟨ds', hd', ho⟩ := h.2 j _ hj
  obtain rfl : ds = ds' := Option.some.inj (hd.symm.trans hd')
  have hk : KeptBut w (w.setCell ⟨b, z, none⟩ (.int .i64 x)) (fun i => i = b) := KeptBut.put (KeptBut.refl w (fun i => i = b)) (p := ⟨b, z, none⟩) (fun _ => rfl) _
  refine ⟨⟨?_, fun i y hy => ?_⟩, World.ownsRow.lt ho b hbj⟩
  · rw [List.length_set]
    refine owns_but h.1 hk fun k hkb e => ?_
    obtain ⟨c1, g1⟩ := owns_has h.1 hkb
    obtain ⟨c2, g2⟩ := owns_has ho hbj
    exact has_ne g2 g1 int_ne e.symm
  · rw [List.getElem?_set]
    by_cases hij : j = i
    · subst hij
      rw [if_pos rfl, if_pos (List.getElem?_eq_some_iff.1 hd).1]
      refine ⟨_, rfl, ?_⟩
      obtain rfl : Value.slice (some ⟨b, 0, none⟩) ds.length c = y := Option.some.inj (hj.symm.trans hy)
      unfold IOwn
      rw [List.length_set]
      exact owns_set ho hz
    · rw [if_neg hij]
      obtain ⟨es, he, ho2⟩ := h.2 i y hy
      refine ⟨es, he, ho2.but hk fun k hkb e => ?_⟩
      subst e
      rcases Nat.lt_or_ge i j with hlt | hge
      · exact ha i j _ _ hlt hy hj k hkb hbj
      · exact ha j i _ _ (by omega) hj hy k hbj hkb
end Go.Proofs.Ytkggejmamhakaaa
namespace Go.Proofs.Ytkggejmamhakaaa
set_option maxRecDepth 100000
set_option linter.unusedVariables false
open Go.RowKit
def toM (m : Nat) (rs : List (List Int)) (r : Rn) : List (List Int) := addc rs (min r.pos m) r.st.toNat r.wt
/-- The rows behind the first d values of a statement. -/
def mD (m : Nat) (rs : List (List Int)) (s : St) (r : Rn) : Nat → List (List Int)
  | 0 => rs
  | d + 1 => toM m (mD m rs s r d) (Rn.step s r d)
theorem toM_ne {m t : Nat} {rs : List (List Int)} {r : Rn} (h : t < min r.pos m) : (toM m rs r).getD t [] = rs.getD t [] := addc_ne (by omega)
theorem toM_ok {m : Nat} {rs : List (List Int)} {r : Rn} (h : Rk m rs) (hs : 0 ≤ r.st ∧ r.st ≤ 80) (hw : 0 ≤ r.wt) : Rk m (toM m rs r) := h.add (Nat.min_le_right _ _) (by omega) hw
theorem toM_tail (V : Nat → Int → Int) {m i : Nat} {rs : List (List Int)} {r : Rn} (h : Rk m rs) (hs : 0 ≤ r.st ∧ r.st ≤ 80) (hi : i + 1 ≤ r.pos) (him : i < m) : tailM V (toM m rs r) (i + 1) (m - i) = tailM V rs (i + 1) (m - i) + r.wt * V (min r.pos m) r.st := by
  unfold toM
  rw [tailM_add V h (Nat.min_le_right _ _) (by omega) (m - i) (i + 1) (by omega) (by omega), Int.toNat_of_nonneg hs.1]
theorem toM_val {h : Int → Int} {os : List St} {i m : Nat} {rs : List (List Int)} {r : Rn} (hm : os.length = m) (hr : Rk m rs) (hs : 0 ≤ r.st ∧ r.st ≤ 80) (hi : i + 1 ≤ r.pos) (him : i < m) :
    tailM (valAt h os) (toM m rs r) (i + 1) (m - i) = tailM (valAt h os) rs (i + 1) (m - i) + valR h os r := by
  rw [toM_tail _ hr hs hi him]
  congr 1
  unfold valR
  rw [← hm, valAt_min]
theorem toM_bd {i m : Nat} {rs : List (List Int)} {r : Rn} (hr : Rk m rs) (hs : 0 ≤ r.st ∧ r.st ≤ 80) (hw : 0 ≤ r.wt) (hi : i + 1 ≤ r.pos) (him : i < m) :
    tailM (V2 m) (toM m rs r) (i + 1) (m - i) ≤ tailM (V2 m) rs (i + 1) (m - i) + r.wt * V2 m (i + 1) 0 := by
  rw [toM_tail _ hr hs hi him]
  have := Int.mul_le_mul_of_nonneg_left (V2_mono (m := m) (i := i + 1) (j := min r.pos m) (by omega) r.st 0) hw
  omega
theorem mD_le {m : Nat} {rs : List (List Int)} {s : St} {r : Rn} (him : r.pos < m) : ∀ (d t : Nat), t ≤ r.pos → (mD m rs s r d).getD t [] = rs.getD t []
  | 0, t, _ => rfl
  | d + 1, t, ht => by
    rw [mD, toM_ne (by have := step_pos s r (d : Int); omega), mD_le him d t ht]
theorem mD_ok {m : Nat} {rs : List (List Int)} {s : St} {r : Rn} (hok : s.ok = true) (hr : Rk m rs) (hs : 0 ≤ r.st ∧ r.st ≤ 80) (hw : 0 ≤ r.wt) : ∀ (d : Nat), d ≤ 3 → Rk m (mD m rs s r d)
  | 0, _ => hr
  | d + 1, hd => toM_ok (mD_ok hok hr hs hw d (by omega)) (next_bd hok hs (by omega)) (Int.mul_nonneg hw (fac_bd hok _).1)
theorem mD_bd {m : Nat} {rs : List (List Int)} {s : St} {r : Rn} (hok : s.ok = true) (hr : Rk m rs) (hs : 0 ≤ r.st ∧ r.st ≤ 80) (hw : 0 ≤ r.wt) (him : r.pos < m) : ∀ (d : Nat), d ≤ 3 → tailM (V2 m) (mD m rs s r d) (r.pos + 1) (m - r.pos) ≤ tailM (V2 m) rs (r.pos + 1) (m - r.pos) + d * (9 * r.wt * V2 m (r.pos + 1) 0)
  | 0, _ => by simp [mD]
  | d + 1, hd => by
    have ih := mD_bd hok hr hs hw him d (by omega)
    have hf := fac_bd hok (s.next r.st d)
    have h1 := toM_bd (rs := mD m rs s r d) (r := Rn.step s r d) (i := r.pos) (m := m) (mD_ok hok hr hs hw d (by omega)) (next_bd hok hs (by omega)) (Int.mul_nonneg hw hf.1) (by have := step_pos s r (d : Int); omega) him
    rw [mD]
    have h2 : (Rn.step s r d).wt * V2 m (r.pos + 1) 0 ≤ 9 * r.wt * V2 m (r.pos + 1) 0 := by
      refine Int.mul_le_mul_of_nonneg_right ?_ (by have := V2_ge m (r.pos + 1) 0; omega)
      show r.wt * s.fac (s.next r.st d) ≤ 9 * r.wt
      rw [Int.mul_comm 9 r.wt]
      exact Int.mul_le_mul_of_nonneg_left hf.2 hw
    have h3 : ((d + 1 : Nat) : Int) * (9 * r.wt * V2 m (r.pos + 1) 0) = d * (9 * r.wt * V2 m (r.pos + 1) 0) + 9 * r.wt * V2 m (r.pos + 1) 0 := by
      rw [Int.natCast_succ, Int.add_mul, Int.one_mul]
    omega
theorem mD_val {h : Int → Int} {os : List St} {m : Nat} {rs : List (List Int)} {s : St} {r : Rn} (hm : os.length = m) (hok : s.ok = true) (hr : Rk m rs) (hs : 0 ≤ r.st ∧ r.st ≤ 80) (hw : 0 ≤ r.wt) (him : r.pos < m) (hso : os[r.pos]? = some s) :
    tailM (valAt h os) (mD m rs s r s.many) (r.pos + 1) (m - r.pos) = tailM (valAt h os) rs (r.pos + 1) (m - r.pos) + r.wt * valAt h os r.pos r.st := by
  have key : ∀ (d : Nat), d ≤ 2 → tailM (valAt h os) (toM m (mD m rs s r d) (Rn.step s r d)) (r.pos + 1) (m - r.pos) = tailM (valAt h os) (mD m rs s r d) (r.pos + 1) (m - r.pos) + valR h os (Rn.step s r d) := fun d hd =>
    toM_val hm (mD_ok hok hr hs hw d (by omega)) (next_bd hok hs (by omega)) (by have := step_pos s r (d : Int); omega) him
  have e : r.wt * valAt h os r.pos r.st = valR h os r := rfl
  rw [e]
  have k0 := key 0 (by decide)
  have k1 := key 1 (by decide)
  have k2 := key 2 (by decide)
  unfold St.many
  cases hd : s.draws
  · rw [if_neg (by simp)]
    rw [valR_own hso hd]
    exact k0
  · rw [if_pos rfl]
    rw [valR_draw hso hd]
    have e0 : mD m rs s r 1 = toM m (mD m rs s r 0) (Rn.step s r ((0 : Nat) : Int)) := rfl
    have e1 : mD m rs s r 2 = toM m (mD m rs s r 1) (Rn.step s r ((1 : Nat) : Int)) := rfl
    have e2 : mD m rs s r 3 = toM m (mD m rs s r 2) (Rn.step s r ((2 : Nat) : Int)) := rfl
    rw [e2, k2, e1, k1, e0, k0]
    have q0 : valR h os (Rn.step s r ((0 : Nat) : Int)) = valR h os (Rn.step s r 0) := rfl
    have q1 : valR h os (Rn.step s r ((1 : Nat) : Int)) = valR h os (Rn.step s r 1) := rfl
    have q2 : valR h os (Rn.step s r ((2 : Nat) : Int)) = valR h os (Rn.step s r 2) := rfl
    rw [q0, q1, q2]
    show tailM (valAt h os) rs (r.pos + 1) (m - r.pos) + _ + _ + _ = _
    omega
/-- What stands behind z entries of row i. -/
def Mst (os : List St) (m : Nat) (T : (Int → Int) → Int) (i z : Nat) (rs : List (List Int)) : Prop :=
  Rk m rs ∧ (∀ h, rsum (valAt h os i) ((rs.getD i []).drop z) z + tailM (valAt h os) rs (i + 1) (m - i) = T h) ∧ rsum (V2 m i) ((rs.getD i []).drop z) z + tailM (V2 m) rs (i + 1) (m - i) ≤ 1000000000000000000
theorem rsum_drop {m i z : Nat} {rs : List (List Int)} (hr : Rk m rs) (hi : i ≤ m) (hz : z < 81) (v : Int → Int) : rsum v ((rs.getD i []).drop z) z = ent rs i z * v z + rsum v ((rs.getD i []).drop (z + 1)) (z + 1) := by
  obtain ⟨h1, _⟩ := hr.ent hi hz
  obtain ⟨hl, he⟩ := List.getElem?_eq_some_iff.1 h1
  rw [List.drop_eq_getElem_cons hl, he]; rfl
theorem drop_nonneg {m i z : Nat} {rs : List (List Int)} (hr : Rk m rs) (hi : i ≤ m) : ∀ x ∈ (rs.getD i []).drop z, 0 ≤ x := fun x hx => (hr.at_ hi).2.2 x (List.mem_of_mem_drop hx)
theorem Mst.skip {os : List St} {m i z : Nat} {T : (Int → Int) → Int} {rs : List (List Int)} (h : Mst os m T i z rs) (hi : i ≤ m) (hz : z < 81) (h0 : ent rs i z = 0) : Mst os m T i (z + 1) rs := by
  obtain ⟨hr, hT, hV⟩ := h
  refine ⟨hr, fun q => ?_, ?_⟩
  · rw [← hT q, rsum_drop hr hi hz, h0]; omega
  · rw [rsum_drop hr hi hz, h0] at hV; omega
theorem Mst.next {os : List St} {m i : Nat} {T : (Int → Int) → Int} {rs : List (List Int)} (h : Mst os m T i 81 rs) (hi : i < m) : Mst os m T (i + 1) 0 rs := by
  obtain ⟨hr, hT, hV⟩ := h
  have e : (rs.getD i []).drop 81 = [] := List.drop_eq_nil_of_le (by rw [(hr.at_ (by omega)).2.1]; exact Nat.le_refl _)
  have key : ∀ V : Nat → Int → Int, tailM V rs (i + 1) (m - i) = rsum (V (i + 1)) (rs.getD (i + 1) []) 0 + tailM V rs (i + 1 + 1) (m - (i + 1)) := fun V => by
    rw [show m - i = m - (i + 1) + 1 by omega, tailM]
  refine ⟨hr, fun q => ?_, ?_⟩
  · rw [← hT q, e, key, List.drop_zero]; simp [rsum]
  · rw [e, key] at hV
    rw [List.drop_zero]
    simpa [rsum] using hV
/-- What is known of an entry that is some, and of the rows behind each of the values. -/
theorem Mst.cap {os : List St} {m i z : Nat} {T : (Int → Int) → Int} {rs : List (List Int)} {s : St} (h : Mst os m T i z rs) (hok : s.ok = true) (hi : i < m) (hz : z < 81) :
    0 ≤ ent rs i z ∧ ent rs i z * 27 ≤ 1000000000000000000 ∧ ∀ d, d ≤ 3 → Rk m (mD m rs s ⟨i, z, ent rs i z⟩ d) ∧ ∀ t, i < t → t ≤ m → ∀ y, y < 81 → ent (mD m rs s ⟨i, z, ent rs i z⟩ d) t y ≤ 1000000000000000000 := by
  obtain ⟨hr, _, hV⟩ := h
  rw [rsum_drop hr (by omega) hz] at hV
  obtain ⟨_, hu⟩ := hr.ent (i := i) (by omega) hz
  have hd0 := rsum_nonneg (v := V2 m i) (fun k => by have := V2_ge m i k; omega) (z + 1) (drop_nonneg (z := z + 1) hr (show i ≤ m by omega))
  have ht0 := tailM_nonneg hr (V := V2 m) (fun i st => by have := V2_ge m i st; omega) (m - i) (i + 1)
  have hV1 := V2_succ hi z 0
  have hV2 := V2_ge m (i + 1) 0
  have h27 : ent rs i z * 27 ≤ ent rs i z * V2 m i z := Int.mul_le_mul_of_nonneg_left (by omega) hu
  refine ⟨hu, by omega, fun d hd => ?_⟩
  have hk := mD_ok (r := ⟨i, z, ent rs i z⟩) hok hr (by show 0 ≤ (z : Int) ∧ (z : Int) ≤ 80; omega) hu d hd
  refine ⟨hk, fun t ht htm y hy => ?_⟩
  have h1 := mD_bd (r := ⟨i, z, ent rs i z⟩) hok hr (by show 0 ≤ (z : Int) ∧ (z : Int) ≤ 80; omega) hu hi d hd
  have h2 := tailM_ge hk (V2_ge m) (m - i) (i + 1) t (by omega) (by omega) _ (List.mem_of_getElem? (hk.ent htm hy).1)
  have h3 : (d : Int) * (9 * ent rs i z * V2 m (i + 1) 0) ≤ 3 * (9 * ent rs i z * V2 m (i + 1) 0) := Int.mul_le_mul_of_nonneg_right (by omega) (Int.mul_nonneg (by omega) (by omega))
  have h4 : 3 * (9 * ent rs i z * V2 m (i + 1) 0) = ent rs i z * V2 m i z := by
    rw [hV1, ← Int.mul_assoc 3, ← Int.mul_assoc 3, ← Int.mul_assoc (ent rs i z), Int.mul_comm (ent rs i z) 27]
    rfl
  have h1' : tailM (V2 m) (mD m rs s ⟨i, z, ent rs i z⟩ d) (i + 1) (m - i) ≤ tailM (V2 m) rs (i + 1) (m - i) + d * (9 * ent rs i z * V2 m (i + 1) 0) := h1
  omega
theorem Mst.step {os : List St} {m i z : Nat} {T : (Int → Int) → Int} {rs : List (List Int)} {s : St} (h : Mst os m T i z rs) (hm : os.length = m) (hok : s.ok = true) (hi : i < m) (hz : z < 81) (hso : os[i]? = some s) : Mst os m T i (z + 1) (mD m rs s ⟨i, z, ent rs i z⟩ s.many) := by
  obtain ⟨hr, hT, hV⟩ := h
  obtain ⟨_, hu⟩ := hr.ent (i := i) (by omega) hz
  have hs : 0 ≤ (Rn.mk i z (ent rs i z)).st ∧ (Rn.mk i z (ent rs i z)).st ≤ 80 := by show 0 ≤ (z : Int) ∧ (z : Int) ≤ 80; omega
  have hmany : s.many ≤ 3 := by unfold St.many; split <;> omega
  have hk := mD_ok (r := ⟨i, z, ent rs i z⟩) hok hr hs hu s.many hmany
  have hrow : (mD m rs s ⟨i, z, ent rs i z⟩ s.many).getD i [] = rs.getD i [] := mD_le hi s.many i (Nat.le_refl _)
  refine ⟨hk, fun q => ?_, ?_⟩
  · have := mD_val (h := q) (r := ⟨i, z, ent rs i z⟩) hm hok hr hs hu hi hso
    have this' : tailM (valAt q os) (mD m rs s ⟨i, z, ent rs i z⟩ s.many) (i + 1) (m - i) = tailM (valAt q os) rs (i + 1) (m - i) + ent rs i z * valAt q os i z := this
    rw [hrow, this', ← hT q, rsum_drop hr (by omega) hz]
    omega
  · have h1 := mD_bd (r := ⟨i, z, ent rs i z⟩) hok hr hs hu hi s.many hmany
    have h1' : tailM (V2 m) (mD m rs s ⟨i, z, ent rs i z⟩ s.many) (i + 1) (m - i) ≤ tailM (V2 m) rs (i + 1) (m - i) + s.many * (9 * ent rs i z * V2 m (i + 1) 0) := h1
    have hV1 := V2_succ hi z 0
    have hV2 := V2_ge m (i + 1) 0
    have h3 : (s.many : Int) * (9 * ent rs i z * V2 m (i + 1) 0) ≤ 3 * (9 * ent rs i z * V2 m (i + 1) 0) := Int.mul_le_mul_of_nonneg_right (by omega) (Int.mul_nonneg (by omega) (by omega))
    have h4 : 3 * (9 * ent rs i z * V2 m (i + 1) 0) = ent rs i z * V2 m i z := by
      rw [hV1, ← Int.mul_assoc 3, ← Int.mul_assoc 3, ← Int.mul_assoc (ent rs i z), Int.mul_comm (ent rs i z) 27]
      rfl
    rw [rsum_drop hr (by omega) hz] at hV
    rw [hrow]
    omega
theorem Mst.last {os : List St} {m z : Nat} {T : (Int → Int) → Int} {rs : List (List Int)} (h : Mst os m T m 0 rs) (hm : os.length = m) (hq : z < 81) : (rs.getD m [])[z]? = some (T (ind z)) := by
  obtain ⟨hr, hT, _⟩ := h
  have hl := (hr.at_ (Nat.le_refl m)).2.1
  have e := hT (ind z)
  rw [Nat.sub_self, List.drop_zero] at e
  have e2 : ∀ st, valAt (ind z) os m st = ind z st := fun st => valAt_end (by omega) st
  have e3 : ∀ (r : List Int) (k : Nat), rsum (valAt (ind (z : Int)) os m) r k = if k ≤ z then r.getD (z - k) 0 else 0 := by
    intro r
    induction r with
    | nil => intro k; simp [rsum]
    | cons u r ih =>
      intro k
      rw [rsum, ih, e2]
      unfold ind
      by_cases h1 : k = z
      · subst h1
        rw [if_pos rfl, if_neg (by omega), if_pos (Nat.le_refl _), Nat.sub_self]
        simp
      · rw [if_neg (by omega)]
        by_cases h2 : k + 1 ≤ z
        · rw [if_pos h2, if_pos (by omega), show z - k = z - (k + 1) + 1 by omega]
          simp
        · rw [if_neg h2, if_neg (by omega)]
          simp
  rw [e3, if_pos (Nat.zero_le _), Nat.sub_zero] at e
  have e4 : tailM (valAt (ind (z : Int)) os) rs (m + 1) 0 = 0 := rfl
  rw [e4, Int.add_zero] at e
  rw [← e, List.getD_eq_getElem?_getD (l := rs.getD m []), List.getElem?_eq_getElem (by omega)]
  rfl
end Go.Proofs.Ytkggejmamhakaaa
