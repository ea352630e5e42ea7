/- One step of a run with a great weight; what a step of the sweep adds. The program's sweep does a statement at which a run is. -/
import Derived.Test.YtbndonfpdioibaaSwf
import Derived.Test.YtbndonfpdioibaaSwx
import Derived.Test.YtbndonfpdioibaaPo
import Derived.Deep.RegionHeld3
namespace Go.Proofs.Ytbndonfpdioibaa
set_option maxRecDepth 100000
set_option linter.unusedVariables false
open Go.RowKit

/-- How much a weight may grow from a place on. -/
def V2 (m : Nat) (i : Nat) (_ : Int) : Int := 27 ^ (m - i)
theorem V2_ge (m i : Nat) (st : Int) : 1 ≤ V2 m i st := by
  have : (0 : Int) < 27 ^ (m - i) := Int.pow_pos (by decide)
  unfold V2
  omega
theorem V2_succ {m i : Nat} (h : i < m) (st st' : Int) : V2 m i st = 27 * V2 m (i + 1) st' := by
  unfold V2
  rw [show m - i = (m - (i + 1)) + 1 by omega, Int.pow_succ, Int.mul_comm]
theorem V2_mono {m i j : Nat} (h : i ≤ j) (st st' : Int) : V2 m j st ≤ V2 m i st' := by
  unfold V2
  obtain ⟨d, hd⟩ := Nat.exists_eq_add_of_le (show m - j ≤ m - i by omega)
  rw [hd, Int.pow_add]
  have h1 : (0 : Int) < 27 ^ (m - j) := Int.pow_pos (by decide)
  have h2 : (0 : Int) < 27 ^ d := Int.pow_pos (by decide)
  have := Int.mul_le_mul_of_nonneg_left (show (1 : Int) ≤ 27 ^ d by omega) (Int.le_of_lt h1)
  omega
/-- What is told of the end does not hang on variables that are not asked. -/
def Resp (asked : Int) (h : Int → Int) : Prop := ∀ st st', 0 ≤ st ∧ st ≤ 80 → 0 ≤ st' ∧ st' ≤ 80 → agree asked st st' → h st = h st'
theorem valAt_vo {asked : Int} {h : Int → Int} {os : List St} {j : Nat} {st : Int} (hr : Resp asked h) (hok : ∀ s ∈ os, s.ok = true ∧ s.notLoop = true) (hj : j ≤ os.length) (hs : 0 ≤ st ∧ st ≤ 80) : valAt h os j (vo ((lives asked os).getD j 0) st) = valAt h os j st := by
  rw [lives_getD asked os j hj]
  exact val_live hr _ _ rfl (fun s hs => hok s (List.mem_of_mem_drop hs)) _ _ (vo_bd hs) hs (vo_agree hs)

theorem toF_ok {m : Nat} {lv : List Int} {F : Nat → Fr} {r : Rn} (hF : ∀ t, FrOk (F t)) (hs : 0 ≤ r.st ∧ r.st ≤ 80) (hw : 0 ≤ r.wt) : ∀ t, FrOk (toF m lv F r t) := by
  intro t
  unfold toF
  split
  · exact hF t
  · rename_i h
    by_cases ht : t = min r.pos m
    · subst ht
      rw [upd_at]
      exact (hF _).add (vo_bd hs) (by omega)
    · rw [upd_ne ht]
      exact hF t
theorem toF_le {m : Nat} {lv : List Int} {F : Nat → Fr} {r : Rn} {t : Nat} (h : t < min r.pos m) : toF m lv F r t = F t := by
  unfold toF
  split
  · rfl
  · exact upd_ne (by omega)
theorem toF_tail (V : Nat → Int → Int) {m i : Nat} {lv : List Int} {F : Nat → Fr} {r : Rn} (hi : i + 1 ≤ r.pos) (him : i < m) : tailV V (toF m lv F r) (i + 1) (m - i) = tailV V F (i + 1) (m - i) + r.wt * V (min r.pos m) (vo (lv.getD (min r.pos m) 0) r.st) := by
  unfold toF
  split
  · rename_i h
    rw [h, Int.zero_mul, Int.add_zero]
  · exact tailV_upd V (m - i) (i + 1) (by omega) (by omega)
theorem toF_val {asked : Int} {h : Int → Int} {os : List St} {i m : Nat} {F : Nat → Fr} {r : Rn} (hm : os.length = m) (hr : Resp asked h) (hok : ∀ s ∈ os, s.ok = true ∧ s.notLoop = true) (hs : 0 ≤ r.st ∧ r.st ≤ 80) (hi : i + 1 ≤ r.pos) (him : i < m) :
    tailV (valAt h os) (toF m (lives asked os) F r) (i + 1) (m - i) = tailV (valAt h os) F (i + 1) (m - i) + valR h os r := by
  rw [toF_tail _ hi him, valAt_vo hr hok (by omega) hs]
  congr 1
  unfold valR
  rw [← hm, valAt_min]
theorem toF_bd {lv : List Int} {i m : Nat} {F : Nat → Fr} {r : Rn} (hw : 0 ≤ r.wt) (hi : i + 1 ≤ r.pos) (him : i < m) :
    tailV (V2 m) (toF m lv F r) (i + 1) (m - i) ≤ tailV (V2 m) F (i + 1) (m - i) + r.wt * V2 m (i + 1) 0 := by
  rw [toF_tail _ hi him]
  have := Int.mul_le_mul_of_nonneg_left (V2_mono (m := m) (i := i + 1) (j := min r.pos m) (by omega) (vo (lv.getD (min r.pos m) 0) r.st) 0) hw
  omega

theorem toF_clp (m : Nat) (lv : List Int) (F : Nat → Fr) (r : Rn) : toF m lv F (clp m r) = toF m lv F r := by
  unfold toF clp
  simp only [Nat.min_assoc, Nat.min_self]

/-- The fronts behind the first d values of a statement. -/
def fD (m : Nat) (lv : List Int) (F : Nat → Fr) (s : St) (r : Rn) : Nat → Nat → Fr
  | 0 => F
  | d + 1 => toF m lv (fD m lv F s r d) (Rn.step s r d)
theorem fD_le {m : Nat} {lv : List Int} {F : Nat → Fr} {s : St} {r : Rn} (him : r.pos < m) : ∀ (d t : Nat), t ≤ r.pos → fD m lv F s r d t = F t
  | 0, t, _ => rfl
  | d + 1, t, ht => by
    rw [fD, toF_le (by have := step_pos s r (d : Int); omega), fD_le him d t ht]
theorem fD_ok {m : Nat} {lv : List Int} {F : Nat → Fr} {s : St} {r : Rn} (hok : s.ok = true) (hF : ∀ t, FrOk (F t)) (hs : 0 ≤ r.st ∧ r.st ≤ 80) (hw : 0 ≤ r.wt) : ∀ (d : Nat), d ≤ 3 → ∀ t, FrOk (fD m lv F s r d t)
  | 0, _ => hF
  | d + 1, hd => toF_ok (fD_ok hok hF hs hw d (by omega)) (next_bd hok hs (by omega)) (Int.mul_nonneg hw (fac_bd hok _).1)
theorem fD_bd {m : Nat} {lv : List Int} {F : Nat → Fr} {s : St} {r : Rn} (hok : s.ok = true) (hw : 0 ≤ r.wt) (him : r.pos < m) : ∀ (d : Nat), tailV (V2 m) (fD m lv F s r d) (r.pos + 1) (m - r.pos) ≤ tailV (V2 m) F (r.pos + 1) (m - r.pos) + d * (9 * r.wt * V2 m (r.pos + 1) 0)
  | 0 => by simp [fD]
  | d + 1 => by
    have ih := fD_bd (lv := lv) (F := F) hok hw him d
    have hf := fac_bd hok (s.next r.st d)
    have h1 := toF_bd (lv := lv) (F := fD m lv F s r d) (r := Rn.step s r d) (i := r.pos) (m := m) (Int.mul_nonneg hw hf.1) (by have := step_pos s r (d : Int); omega) him
    rw [fD]
    have h2 : (Rn.step s r d).wt * V2 m (r.pos + 1) 0 ≤ 9 * r.wt * V2 m (r.pos + 1) 0 := by
      refine Int.mul_le_mul_of_nonneg_right ?_ (by have := V2_ge m (r.pos + 1) 0; omega)
      show r.wt * s.fac (s.next r.st d) ≤ 9 * r.wt
      rw [Int.mul_comm 9 r.wt]
      exact Int.mul_le_mul_of_nonneg_left hf.2 hw
    have h3 : ((d + 1 : Nat) : Int) * (9 * r.wt * V2 m (r.pos + 1) 0) = d * (9 * r.wt * V2 m (r.pos + 1) 0) + 9 * r.wt * V2 m (r.pos + 1) 0 := by
      rw [Int.natCast_succ, Int.add_mul, Int.one_mul]
    omega
/-- All values of a statement: three of a draw, else one. -/
theorem fD_val {asked : Int} {h : Int → Int} {os : List St} {m : Nat} {F : Nat → Fr} {s : St} {r : Rn} (hm : os.length = m) (hr : Resp asked h) (hok : ∀ s ∈ os, s.ok = true ∧ s.notLoop = true) (hs : 0 ≤ r.st ∧ r.st ≤ 80) (him : r.pos < m) (hso : os[r.pos]? = some s) :
    tailV (valAt h os) (fD m (lives asked os) F s r s.many) (r.pos + 1) (m - r.pos) = tailV (valAt h os) F (r.pos + 1) (m - r.pos) + r.wt * valAt h os r.pos r.st := by
  have hsk := (hok s (List.mem_of_getElem? hso)).1
  have key : ∀ (G : Nat → Fr) (d : Nat), d ≤ 2 → tailV (valAt h os) (toF m (lives asked os) G (Rn.step s r d)) (r.pos + 1) (m - r.pos) = tailV (valAt h os) G (r.pos + 1) (m - r.pos) + valR h os (Rn.step s r d) := fun G d hd =>
    toF_val hm hr hok (next_bd hsk hs (by omega)) (by have := step_pos s r (d : Int); omega) him
  have e : r.wt * valAt h os r.pos r.st = valR h os r := rfl
  rw [e]
  unfold St.many
  cases hd : s.draws
  · rw [if_neg (by simp)]
    show tailV _ (toF m (lives asked os) F (Rn.step s r (0 : Nat))) _ _ = _
    rw [key F 0 (by decide), valR_own hso hd]
    rfl
  · rw [if_pos rfl]
    show tailV _ (toF m (lives asked os) (toF m (lives asked os) (toF m (lives asked os) F (Rn.step s r (0 : Nat))) (Rn.step s r (1 : Nat))) (Rn.step s r (2 : Nat))) _ _ = _
    rw [key _ 2 (by decide), key _ 1 (by decide), key _ 0 (by decide), valR_draw hso hd]
    have e0 : valR h os (Rn.step s r ((0 : Nat) : Int)) = valR h os (Rn.step s r 0) := rfl
    have e1 : valR h os (Rn.step s r ((1 : Nat) : Int)) = valR h os (Rn.step s r 1) := rfl
    have e2 : valR h os (Rn.step s r ((2 : Nat) : Int)) = valR h os (Rn.step s r 2) := rfl
    rw [e0, e1, e2]
    omega
end Go.Proofs.Ytbndonfpdioibaa

namespace Go.Proofs.Ytbndonfpdioibaa
set_option maxRecDepth 100000
set_option linter.unusedVariables false
open Go.RowKit

def Stpd (w : World) (base g gl gf m : Nat) (A : Option Addr) (c : Nat) (os : List St) (lv : List Int) (F : Nat → Fr) (vs : Nat → Value) (s : St) (r : Rn) (e : Ending) (w' : World) : Prop :=
  e = .returned (.tuple #[]) ∧ ∃ vs', Swp w' base g gl gf m A c os lv (fD m lv F s r s.many) vs' ∧ Swk w w' gf m vs vs' ∧ ∀ t, t ≤ r.pos → vs' t = vs t

set_option maxHeartbeats 4000000 in
theorem step_any (w : World) (base g gl gf m : Nat) (A : Option Addr) (c : Nat) (os : List St) (lv : List Int) (F : Nat → Fr) (vs : Nat → Value) (s : St) (r : Rn) (h : Swp w base g gl gf m A c os lv F vs) (hm : m ≤ 12) (hM : os.length = m) (hlv : LvOk m lv) (hF : ∀ i, FrOk (F i)) (hs : 0 ≤ r.st ∧ r.st ≤ 80) (hw : 0 < r.wt) (him : r.pos < m) (hso : os[r.pos]? = some s) (hok : s.ok = true)
    (hcap : ∀ t, ∀ p ∈ F t, p.2 ≤ 1000000000000000000) (htl : tailV (V2 m) F (r.pos + 1) (m - r.pos) + r.wt * V2 m r.pos 0 ≤ 1000000000000000000) (hfar : ∀ t, m < t → F t = []) :
    Calls Try.prog 172 #[.pointer (some ⟨g, 0, none⟩), .agg #[.int .i64 r.pos, .int .i64 r.st, .int .i64 r.wt]] w (Stpd w base g gl gf m A c os lv F vs s r) := by
  have hV2 : V2 m r.pos 0 = 27 * V2 m (r.pos + 1) 0 := V2_succ him 0 0
  have hV1 := V2_ge m (r.pos + 1) 0
  have hT0 := tailV_nonneg (V := V2 m) hF (fun i st => by have := V2_ge m i st; omega) (m - r.pos) (r.pos + 1)
  have hwV : r.wt * 27 ≤ r.wt * V2 m r.pos 0 := Int.mul_le_mul_of_nonneg_left (by omega) (by omega)
  have hFok := Lib.hid (fun d hd => fD_ok (m := m) (lv := lv) hok hF hs (show 0 ≤ r.wt by omega) d hd)
  have hWd := Lib.hid (show ∀ d : Nat, d ≤ 2 → 0 ≤ (Rn.step s r d).wt ∧ (Rn.step s r d).wt ≤ 1000000000000000000 from fun d hd => by
    have hf := fac_bd hok (s.next r.st d)
    have h1 : r.wt * s.fac (s.next r.st d) ≤ r.wt * 9 := Int.mul_le_mul_of_nonneg_left hf.2 (by omega)
    have h2 : 0 ≤ r.wt * s.fac (s.next r.st d) := Int.mul_nonneg (by omega) hf.1
    show 0 ≤ r.wt * s.fac (s.next r.st d) ∧ r.wt * s.fac (s.next r.st d) ≤ 1000000000000000000
    omega)
  have hCap := Lib.hid (show ∀ d, d ≤ 3 → ∀ t, ∀ p ∈ fD m lv F s r d t, p.2 ≤ 1000000000000000000 from fun d hd t p hp => by
    by_cases ht : t ≤ r.pos
    · rw [fD_le him d t ht] at hp
      exact hcap t p hp
    · by_cases htm : t ≤ m
      · have h1 := tailV_ge (V := V2 m) (hFok.out d hd) (V2_ge m) (m - r.pos) (r.pos + 1) t (by omega) (by omega) p hp
        have h2 := fD_bd (m := m) (lv := lv) (F := F) hok (show 0 ≤ r.wt by omega) him d
        have h3 : (d : Int) * (9 * r.wt * V2 m (r.pos + 1) 0) ≤ 3 * (9 * r.wt * V2 m (r.pos + 1) 0) := Int.mul_le_mul_of_nonneg_right (by omega) (Int.mul_nonneg (by omega) (by omega))
        have h4 : 3 * (9 * r.wt * V2 m (r.pos + 1) 0) = r.wt * V2 m r.pos 0 := by
          rw [hV2, ← Int.mul_assoc 3, ← Int.mul_assoc 3, ← Int.mul_assoc r.wt, Int.mul_comm r.wt 27]
          rfl
        omega
      · have : ∀ d, fD m lv F s r d t = F t := fun d => by
          induction d with
          | zero => rfl
          | succ d ih =>
            rw [fD]
            unfold toF
            split
            · exact ih
            · rw [upd_ne (by omega)]; exact ih
        rw [this d, hfar t (by omega)] at hp
        simp at hp)
  have hpos := Lib.hid (show ∀ d : Nat, (Rn.step s r d).pos ≤ 100 from fun d => by
    have h1 : s.jump r.st ≤ 12 := by
      unfold St.jump
      split
      · rename_i h
        have := ok_rng (k := s.k) (a := s.a) (b := s.b) (c := s.c) (u := s.u) (v := s.v) (x := s.x) hok
        omega
      · omega
    show r.pos + 1 + s.jump r.st ≤ 100
    omega)
  have hlv' := Lib.hid hlv
  have hS0 := Lib.hid h
  have hSg := Lib.hid (fun i (hi : SwB gf m vs i) => (h.gt hi).2)
  have hB0 : Below w.heap.size w (w.alloc (.cells #[.int .i64 r.pos, .int .i64 r.st, .int .i64 r.wt] 101)) := (Below.refl _ _).alloc (Nat.le_refl _) _
  have hS1 := h.below hB0
  have hG1 := Has.new w 101 #[.int .i64 r.pos, .int .i64 r.st, .int .i64 r.wt]
  have hSo := Lib.hid hso
  have hMo := Lib.hid hM
  have hp0 : (0 : Int) ≤ (r.pos : Int) := by omega
  have hp1 : (r.pos : Int) < (m : Int) := by omega
  have hwp : r.wt ≤ 1000000000000000000 := by omega
  have hlv' := Lib.hid hlv
  have hlenN := Lib.hid (prt_length m s r)
  have hn1 := many_pos s
  have hn3 := many_le s
  obtain ⟨n, hne⟩ : ∃ n, s.many = n := ⟨_, rfl⟩
  rw [hne] at hn1 hn3
  have hNe := Lib.hid hne
  have hln : (prt m s r).length = n := by rw [hlenN.out, hNe.out]
  have cP0 := Lib.hid (fun wx (hb : Below w.heap.size w wx) => show Calls Try.prog 159 #[.slice A m c, .agg #[.int .i64 r.pos, .int .i64 r.st, .int .i64 r.wt]] wx (fun e w' => ∃ b cs, e = .returned (.slice (some ⟨b, 0, none⟩) n n) ∧ wx.heap.size ≤ b ∧ Has w' b 101 cs ∧ PrtA cs (prt m s r) n ∧ Below wx.heap.size wx w') from
    (partsOf_any A m c os s r wx (ownS_lst (hS0.out.below hb).2.1) hm hM him hso hok hs ⟨by omega, hwp⟩).mono fun e w' h9 => by
      unfold Prtd at h9
      rwa [hln] at h9)
  have hLn := Lib.hid hln
  clear hln
  have e0 := hS1.1.cell 0
  have e1 := hG1.cell
  clear hlv hF hcap htl hfar hM hso h hV2 hT0 hwV hV1 hne
  go_enter Try.func172, Try.ntmps172
  go_wp2_with fail
  have hS1' := Lib.hid hS1
  have hG1' := Lib.hid hG1
  have hB0' := Lib.hid hB0
  clear hS1 hG1 hB0
  generalize w.alloc (.cells #[.int .i64 r.pos, .int .i64 r.st, .int .i64 r.wt] 101) = W at hS1' hG1' hB0' e0 e1 ⊢
  go_region_law (first | (go_simp; go_at_call 159; refine (cP0.out _ (by exact hB0'.out.drew)).mono ?_; rintro e w3 ⟨P, cs, rfl, hPge, hHP, hPr, hb3⟩))
  all_goals
    have hb3' : Below W.heap.size W w3 := ((Below.refl _ _).drew).trans hb3
    have hS3 := Lib.hid (hS1'.out.below hb3')
    have hK3 := Lib.hid ((Swk.below (gf := gf) (m := m) (vs := vs) hB0'.out).trans (Swk.below (gf := gf) (m := m) (vs := vs) hb3'))
    have hPlt := hHP.lt
    have hwW := hB0'.out.size
    have hWd3 : W.heap.size ≤ P := hPge
    have hPn := Lib.hid (show ¬ SwB gf m vs P from fun hi => by have := hSg.out _ hi; omega)
    have hPgf : P ≠ gf := fun e => hPn.out (.inl e)
    have hHP' := Lib.hid hHP
    have hPr' := Lib.hid hPr
    clear hb3 hb3' hS1' hG1' hB0' hHP hPr e0 e1 hPge hSg cP0 hS0
    simp only [List.getElem_toArray, List.getElem_cons_succ, List.getElem_cons_zero]
    go_simp
    go_wp2_with fail
    go_loopg [13] n (fun gn v wr => ∃ (d : Nat) (vd : Nat → Value), d ≤ n ∧ gn = n - d ∧ v = .int .i64 d ∧ Swp wr base g gl gf m A c os lv (fD m lv F s r d) vd ∧ Swk w3 wr gf m vs vd ∧ Has wr P 101 cs ∧ ∀ t, t ≤ r.pos → vd t = vs t)
    case atStart => exact ⟨0, vs, by omega, rfl, rfl, hS3.out, Swk.refl _ _ _ _, hHP'.out, fun t _ => rfl⟩
    case round =>
      obtain ⟨d, vd, hd, hgn, rfl, hSw, hKd, hPd, hvd⟩ := hrel
      have hgnn : gk = n - d := hgn
      clear hgn
      by_cases hlt : d < n
      · have hp := prt_at (m := m) (s := s) (r := r) (show d < s.many by rw [hNe.out]; exact hlt)
        obtain ⟨c0, c1, c2⟩ := hPr'.out.2 d _ hlt hp
        have hnx := next_bd hok (x := (d : Int)) hs (by omega)
        have hwd : 0 ≤ (Rn.step s r d).wt ∧ (Rn.step s r d).wt ≤ 1000000000000000000 := hWd.out d (by omega)
        have hcap := Lib.hid (hCap.out d (by omega))
        have hFk := Lib.hid (hFok.out d (by omega))
        have hTq := Lib.hid (toF_clp m lv (fD m lv F s r d) (Rn.step s r d))
        have hqm : (clp m (Rn.step s r d)).pos ≤ m := Nat.min_le_right _ _
        have hqs : 0 ≤ (clp m (Rn.step s r d)).st ∧ (clp m (Rn.step s r d)).st ≤ 80 := hnx
        have hqw : 0 ≤ (clp m (Rn.step s r d)).wt ∧ (clp m (Rn.step s r d)).wt ≤ 1000000000000000000 := hwd
        have hle := Lib.hid (show ∀ t, t ≤ r.pos → toF m lv (fD m lv F s r d) (Rn.step s r d) t = fD m lv F s r d t from fun t ht => toF_le (by have := step_pos s r (d : Int); omega))
        generalize clp m (Rn.step s r d) = q at c0 c1 c2 hTq hqm hqs hqw
        have e0 := (hPd.cell _).trans c0
        have e1 := (hPd.cell _).trans c1
        have e2 := (hPd.cell _).trans c2
        have hd0 : (0 : Int) ≤ (d : Int) := by omega
        have hd1 : (d : Int) < (n : Int) := by omega
        have hSw5 := Lib.hid (hSw.below ((Below.refl wr.heap.size wr).alloc (Nat.le_refl _) (.cells #[.int .i64 q.pos, .int .i64 q.st, .int .i64 q.wt] 101)))
        have hK5 := Lib.hid (hKd.trans (Swk.below (gf := gf) (m := m) (vs := vd) ((Below.refl wr.heap.size wr).alloc (Nat.le_refl _) (.cells #[.int .i64 q.pos, .int .i64 q.st, .int .i64 q.wt] 101))))
        have hP5 := Lib.hid (hPd.alloc (.cells #[.int .i64 q.pos, .int .i64 q.st, .int .i64 q.wt] 101))
        have hvd' := Lib.hid hvd
        have hKd' := Lib.hid hKd
        clear hSw hKd hPd hvd c0 c1 c2 hp hnx hwd
        go_wp2_with fail
        refine (put_any _ base g gl gf m A c os lv (fD m lv F s r d) vd q hSw5.out hm hlv'.out hFk.out hqs hqw (fun i hi p hp => hcap.out i p hp) hqm).mono ?_
        rintro e w6 ⟨rfl, vs6, hSw6, hK6, hv6⟩
        rw [hTq.out] at hSw6 hv6
        have hnP : ¬ SwB gf m vd P := fun hi => by
          rcases hi with e | ⟨t, ht, e⟩
          · exact hPgf e
          · rcases hKd'.out.2 t P ht e with e' | e'
            · exact hPn.out (.inr ⟨t, ht, e'⟩)
            · omega
        have hP6 := Lib.hid (hP5.out.but hK6.1 hnP)
        have hK6' := Lib.hid (hK5.out.trans hK6)
        have hSw6' := Lib.hid hSw6
        have hv6' := Lib.hid (show ∀ t, t ≤ r.pos → vs6 t = vs t from fun t ht => (hv6 t (hle.out t ht)).trans (hvd'.out t ht))
        clear hSw6 hK6 hv6 hnP e0 e1 e2
        go_wp2_with fail
        go_roundg (n - (d + 1))
        case measure => omega
        case rel => exact ⟨d + 1, vs6, by omega, rfl, by go_num, hSw6'.out, hK6'.out, hP6.out, hv6'.out⟩
      · obtain rfl : n = d := by omega
        have hF := Lib.hid (show fD m lv F s r n = fD m lv F s r s.many from by rw [hNe.out])
        have hSw' := Lib.hid hSw
        have hKd' := Lib.hid hKd
        have hvd' := Lib.hid hvd
        clear hSw hKd hPd hvd
        go_wp2_with fail
        go_end0
        exact ⟨rfl, vd, by rw [← hF.out]; exact hSw'.out, hK3.out.trans hKd'.out, hvd'.out⟩
end Go.Proofs.Ytbndonfpdioibaa
