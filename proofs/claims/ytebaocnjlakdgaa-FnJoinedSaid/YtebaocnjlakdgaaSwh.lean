/- One step of a run with a great weight; what a step of the sweep adds. The program's sweep does a statement at which a run is. -/
import Derived.Test.YtebaocnjlakdgaaSwf
import Derived.Test.YtebaocnjlakdgaaSwx
import Derived.Test.YtebaocnjlakdgaaSp
import Derived.Deep.RegionHeld3
namespace Go.Proofs.Ytebaocnjlakdgaa
set_option maxRecDepth 100000
set_option linter.unusedVariables false
open Go.RowKit

theorem step_wide (s : St) (p : Nat) (st wt x : Int) (w : World) (hs : s.ok = true) (h6 : (s.k == 6) = false) (h : 0 ≤ st ∧ st ≤ 80) (hp : p ≤ 100) (hw : 0 ≤ wt ∧ wt ≤ 1000000000000000000) (hx : 0 ≤ x ∧ x ≤ 2) :
    Calls Try.prog 56 #[.agg #[.int .i64 s.k, .int .i64 s.a, .int .i64 s.b, .int .i64 s.c, .int .i64 s.u, .int .i64 s.v, .int .i64 s.x], .agg #[.int .i64 p, .int .i64 st, .int .i64 wt], .int .i64 x] w fun e w' => e = .returned (.agg #[.int .i64 (p + 1 : Int), .int .i64 (s.next st x), .int .i64 (wt * s.fac (s.next st x))]) ∧ Below w.heap.size w w' := by
  have hn := next_bd hs h hx
  have cB := Lib.hid (fun wx => stateBehind_any s st x wx hs h hx)
  have cW := Lib.hid (fun wx => weightBehind_any s (s.next st x) wx hs hn)
  have hf := fac_bd hs (s.next st x)
  generalize s.next st x = nx at hn cB cW hf ⊢
  generalize s.fac nx = f at cB cW hf ⊢
  have hz : 0 ≤ wt * f ∧ wt * f ≤ 9000000000000000000 := by
    have h1 := Int.mul_nonneg hw.1 hf.1
    have h2 : wt * f ≤ wt * 9 := Int.mul_le_mul_of_nonneg_left hf.2 hw.1
    omega
  have hsum : IntKind.i64.wrap (wt * f) = wt * f := by rw [IntKind.wrap_i64]; omega
  clear hs
  go_enter Try.func56, Try.ntmps56
  go_wp2_with fail
  refine (cB.out _).mono ?_
  rintro e w1 ⟨rfl, hb1⟩
  obtain ⟨c1, f1⟩ := bcell hb1
  have hz1 : w.heap.size + 3 ≤ w1.heap.size := by have := hb1.size; simp at this; omega
  have hB1 : Below w.heap.size w w1 := ((((Below.refl _ _).alloc (Nat.le_refl _) _).alloc (by simp) _).alloc (by simp; omega) _).trans (hb1.mono (by simp; omega))
  have hS1 : Has w1 w.heap.size 76 _ := (((Has.new w _ _).alloc _).alloc _).kept hb1
  have hN1 : Has w1 (w.heap.size + 1) 64 #[.int .i64 (p + 1 : Int), .int .i64 st, .int .i64 wt] := by
    have h0 := ((Has.new (w.alloc (.cells #[.int .i64 s.k, .int .i64 s.a, .int .i64 s.b, .int .i64 s.c, .int .i64 s.u, .int .i64 s.v, .int .i64 s.x] 76)) 64 #[.int .i64 (p + 1 : Int), .int .i64 st, .int .i64 wt]).alloc (.cells #[.int .i64 0, .int .i64 0, .int .i64 0] 64)).kept hb1
    simpa using h0
  have hR1 : Has w1 (w.heap.size + 2) 64 #[.int .i64 0, .int .i64 0, .int .i64 0] := by
    have h0 := (Has.new ((w.alloc (.cells #[.int .i64 s.k, .int .i64 s.a, .int .i64 s.b, .int .i64 s.c, .int .i64 s.u, .int .i64 s.v, .int .i64 s.x] 76)).alloc (.cells #[.int .i64 (p + 1 : Int), .int .i64 st, .int .i64 wt] 64)) 64 #[.int .i64 0, .int .i64 0, .int .i64 0]).kept hb1
    simpa using h0
  clear hb1
  have cs1 := hS1.cell
  have cn1 := hN1.cell
  have fn1 := hN1.frozen
  go_wp2_with fail
  have hS2 := hS1.far (p := ⟨w.heap.size + 1, 1, none⟩) (by simp) (.int .i64 nx)
  have hN2 := hN1.put 1 (.int .i64 nx)
  have hR2 := hR1.far (p := ⟨w.heap.size + 1, 1, none⟩) (by simp) (.int .i64 nx)
  have hB2 := hB1.setCell (p := ⟨w.heap.size + 1, 1, none⟩) (by simp) (.int .i64 nx)
  have hz2 : w.heap.size + 3 ≤ (w1.setCell ⟨w.heap.size + 1, 1, none⟩ (.int .i64 nx)).heap.size := by simpa using hz1
  clear cs1 cn1 fn1 hS1 hN1 hR1 hB1 hz1
  generalize w1.setCell ⟨w.heap.size + 1, 1, none⟩ (.int .i64 nx) = W2 at hS2 hN2 hR2 hB2 hz2 ⊢
  have cs1 := hS2.cell
  have cn1 := hN2.cell
  have fn1 := hN2.frozen
  simp at cn1
  go_region_law (first | (go_simp; go_at_call 93; refine (cW.out _).mono ?_; rintro e w2 ⟨rfl, hb2⟩; have cs2 := (Has.kept (by exact hS2) hb2).cell; have cn2 := (Has.kept (by exact hN2) hb2).cell; have fn2 := (Has.kept (by exact hN2) hb2).frozen))
  all_goals
    have hN3 := (Has.kept (by exact hN2) hb2).put 2 (.int .i64 (wt * f))
    have hR3 := (Has.kept (by exact hR2) hb2).far (p := ⟨w.heap.size + 1, 2, none⟩) (by simp) (.int .i64 (wt * f))
    have hB3 := (hB2.drew.trans (hb2.mono (by simp; omega))).setCell (p := ⟨w.heap.size + 1, 2, none⟩) (by simp) (.int .i64 (wt * f))
    clear hb2 cs2 cn2 fn2
    generalize w2.setCell ⟨w.heap.size + 1, 2, none⟩ (.int .i64 (wt * f)) = W3 at hN3 hR3 hB3 ⊢
    clear cs1 cn1 fn1 hS2 hN2 hR2 hB2 hz2 c1 f1
    have cn3 := hN3.cell
    have cr3 := hR3.cell
    have fr3 := hR3.frozen
    simp at cn3
    go_wp2
    refine bodyPost_ret (v := .agg #[.int .i64 (p + 1 : Int), .int .i64 nx, .int .i64 (wt * f)]) (by simp [results, Try.results56, go_sem, cr3]) rfl ⟨rfl, ?_⟩
    repeat (refine Below.setCell ?_ (by simp; try omega) _)
    exact hB3


theorem stepRun_w (s : St) (r : Rn) (x : Int) (w : World) (hs : s.ok = true) (h : 0 ≤ r.st ∧ r.st ≤ 80) (hw : 0 ≤ r.wt ∧ r.wt ≤ 1000000000000000000) (hp : r.pos ≤ 12) (hx : 0 ≤ x ∧ x ≤ 2) :
    Calls Try.prog 56 #[.agg #[.int .i64 s.k, .int .i64 s.a, .int .i64 s.b, .int .i64 s.c, .int .i64 s.u, .int .i64 s.v, .int .i64 s.x], .agg #[.int .i64 r.pos, .int .i64 r.st, .int .i64 r.wt], .int .i64 x] w fun e w' => e = .returned (.agg #[.int .i64 (Rn.step s r x).pos, .int .i64 (Rn.step s r x).st, .int .i64 (Rn.step s r x).wt]) ∧ Below w.heap.size w w' := by
  cases h6 : (s.k == 6)
  · have hj : s.jump r.st = 0 := by
      unfold St.jump
      rw [if_neg]
      rintro ⟨e, _⟩
      simp [e] at h6
    refine (step_wide s r.pos r.st r.wt x w hs h6 h (by omega) hw hx).mono ?_
    rintro e w' ⟨rfl, hb⟩
    refine ⟨?_, hb⟩
    simp [Rn.step, hj]
  · have hk : s.k = 6 := by simpa using h6
    have e1 : s.next r.st x = r.st := by simp [St.next, hk]
    have e2 : s.fac r.st = 1 := by simp [St.fac, hk]
    refine (step_skip s r.pos r.st r.wt x w hs h6 h (by omega)).mono ?_
    rintro e w' ⟨rfl, hb⟩
    refine ⟨?_, hb⟩
    simp [Rn.step, e1, e2]

/-- How much a weight may grow from a place on. -/
def V2 (m : Nat) (i : Nat) (_ : Int) : Int := 27 ^ (m - i)
theorem V2_ge (m i : Nat) (st : Int) : 1 ≤ V2 m i st := by
  have : (0 : Int) < 27 ^ (m - i) := Int.pow_pos (by decide)
  unfold V2
  omega
theorem V2_succ {m i : Nat} (h : i < m) (st st' : Int) : V2 m i st = 27 * V2 m (i + 1) st' := by
  unfold V2
  rw [show m - i = (m - (i + 1)) + 1 by omega, Int.pow_succ, Int.mul_comm]
theorem V2_mono {m i j : Nat} (h : i ≤ j) (st st' : Int) : V2 m j st ≤ V2 m i st' := by
  unfold V2
  obtain ⟨d, hd⟩ := Nat.exists_eq_add_of_le (show m - j ≤ m - i by omega)
  rw [hd, Int.pow_add]
  have h1 : (0 : Int) < 27 ^ (m - j) := Int.pow_pos (by decide)
  have h2 : (0 : Int) < 27 ^ d := Int.pow_pos (by decide)
  have := Int.mul_le_mul_of_nonneg_left (show (1 : Int) ≤ 27 ^ d by omega) (Int.le_of_lt h1)
  omega
/-- What is told of the end does not hang on variables that are not asked. -/
def Resp (asked : Int) (h : Int → Int) : Prop := ∀ st st', 0 ≤ st ∧ st ≤ 80 → 0 ≤ st' ∧ st' ≤ 80 → agree asked st st' → h st = h st'
theorem valAt_vo {asked : Int} {h : Int → Int} {os : List St} {j : Nat} {st : Int} (hr : Resp asked h) (hok : ∀ s ∈ os, s.ok = true ∧ s.notLoop = true) (hj : j ≤ os.length) (hs : 0 ≤ st ∧ st ≤ 80) : valAt h os j (vo ((lives asked os).getD j 0) st) = valAt h os j st := by
  rw [lives_getD asked os j hj]
  exact val_live hr _ _ rfl (fun s hs => hok s (List.mem_of_mem_drop hs)) _ _ (vo_bd hs) hs (vo_agree hs)

theorem toF_ok {m : Nat} {lv : List Int} {F : Nat → Fr} {r : Rn} (hF : ∀ t, FrOk (F t)) (hs : 0 ≤ r.st ∧ r.st ≤ 80) (hw : 0 ≤ r.wt) : ∀ t, FrOk (toF m lv F r t) := by
  intro t
  unfold toF
  split
  · exact hF t
  · rename_i h
    by_cases ht : t = min r.pos m
    · subst ht
      rw [upd_at]
      exact (hF _).add (vo_bd hs) (by omega)
    · rw [upd_ne ht]
      exact hF t
theorem toF_le {m : Nat} {lv : List Int} {F : Nat → Fr} {r : Rn} {t : Nat} (h : t < min r.pos m) : toF m lv F r t = F t := by
  unfold toF
  split
  · rfl
  · exact upd_ne (by omega)
theorem toF_tail (V : Nat → Int → Int) {m i : Nat} {lv : List Int} {F : Nat → Fr} {r : Rn} (hi : i + 1 ≤ r.pos) (him : i < m) : tailV V (toF m lv F r) (i + 1) (m - i) = tailV V F (i + 1) (m - i) + r.wt * V (min r.pos m) (vo (lv.getD (min r.pos m) 0) r.st) := by
  unfold toF
  split
  · rename_i h
    rw [h, Int.zero_mul, Int.add_zero]
  · exact tailV_upd V (m - i) (i + 1) (by omega) (by omega)
theorem toF_val {asked : Int} {h : Int → Int} {os : List St} {i m : Nat} {F : Nat → Fr} {r : Rn} (hm : os.length = m) (hr : Resp asked h) (hok : ∀ s ∈ os, s.ok = true ∧ s.notLoop = true) (hs : 0 ≤ r.st ∧ r.st ≤ 80) (hi : i + 1 ≤ r.pos) (him : i < m) :
    tailV (valAt h os) (toF m (lives asked os) F r) (i + 1) (m - i) = tailV (valAt h os) F (i + 1) (m - i) + valR h os r := by
  rw [toF_tail _ hi him, valAt_vo hr hok (by omega) hs]
  congr 1
  unfold valR
  rw [← hm, valAt_min]
theorem toF_bd {lv : List Int} {i m : Nat} {F : Nat → Fr} {r : Rn} (hw : 0 ≤ r.wt) (hi : i + 1 ≤ r.pos) (him : i < m) :
    tailV (V2 m) (toF m lv F r) (i + 1) (m - i) ≤ tailV (V2 m) F (i + 1) (m - i) + r.wt * V2 m (i + 1) 0 := by
  rw [toF_tail _ hi him]
  have := Int.mul_le_mul_of_nonneg_left (V2_mono (m := m) (i := i + 1) (j := min r.pos m) (by omega) (vo (lv.getD (min r.pos m) 0) r.st) 0) hw
  omega

/-- The fronts behind the first d values of a statement. -/
def fD (m : Nat) (lv : List Int) (F : Nat → Fr) (s : St) (r : Rn) : Nat → Nat → Fr
  | 0 => F
  | d + 1 => toF m lv (fD m lv F s r d) (Rn.step s r d)
theorem fD_le {m : Nat} {lv : List Int} {F : Nat → Fr} {s : St} {r : Rn} (him : r.pos < m) : ∀ (d t : Nat), t ≤ r.pos → fD m lv F s r d t = F t
  | 0, t, _ => rfl
  | d + 1, t, ht => by
    rw [fD, toF_le (by have := step_pos s r (d : Int); omega), fD_le him d t ht]
theorem fD_ok {m : Nat} {lv : List Int} {F : Nat → Fr} {s : St} {r : Rn} (hok : s.ok = true) (hF : ∀ t, FrOk (F t)) (hs : 0 ≤ r.st ∧ r.st ≤ 80) (hw : 0 ≤ r.wt) : ∀ (d : Nat), d ≤ 3 → ∀ t, FrOk (fD m lv F s r d t)
  | 0, _ => hF
  | d + 1, hd => toF_ok (fD_ok hok hF hs hw d (by omega)) (next_bd hok hs (by omega)) (Int.mul_nonneg hw (fac_bd hok _).1)
theorem fD_bd {m : Nat} {lv : List Int} {F : Nat → Fr} {s : St} {r : Rn} (hok : s.ok = true) (hw : 0 ≤ r.wt) (him : r.pos < m) : ∀ (d : Nat), tailV (V2 m) (fD m lv F s r d) (r.pos + 1) (m - r.pos) ≤ tailV (V2 m) F (r.pos + 1) (m - r.pos) + d * (9 * r.wt * V2 m (r.pos + 1) 0)
  | 0 => by simp [fD]
  | d + 1 => by
    have ih := fD_bd (lv := lv) (F := F) hok hw him d
    have hf := fac_bd hok (s.next r.st d)
    have h1 := toF_bd (lv := lv) (F := fD m lv F s r d) (r := Rn.step s r d) (i := r.pos) (m := m) (Int.mul_nonneg hw hf.1) (by have := step_pos s r (d : Int); omega) him
    rw [fD]
    have h2 : (Rn.step s r d).wt * V2 m (r.pos + 1) 0 ≤ 9 * r.wt * V2 m (r.pos + 1) 0 := by
      refine Int.mul_le_mul_of_nonneg_right ?_ (by have := V2_ge m (r.pos + 1) 0; omega)
      show r.wt * s.fac (s.next r.st d) ≤ 9 * r.wt
      rw [Int.mul_comm 9 r.wt]
      exact Int.mul_le_mul_of_nonneg_left hf.2 hw
    have h3 : ((d + 1 : Nat) : Int) * (9 * r.wt * V2 m (r.pos + 1) 0) = d * (9 * r.wt * V2 m (r.pos + 1) 0) + 9 * r.wt * V2 m (r.pos + 1) 0 := by
      rw [Int.natCast_succ, Int.add_mul, Int.one_mul]
    omega
/-- All values of a statement: three of a draw, else one. -/
def St.many (s : St) : Nat := if s.draws then 3 else 1
theorem fD_val {asked : Int} {h : Int → Int} {os : List St} {m : Nat} {F : Nat → Fr} {s : St} {r : Rn} (hm : os.length = m) (hr : Resp asked h) (hok : ∀ s ∈ os, s.ok = true ∧ s.notLoop = true) (hs : 0 ≤ r.st ∧ r.st ≤ 80) (him : r.pos < m) (hso : os[r.pos]? = some s) :
    tailV (valAt h os) (fD m (lives asked os) F s r s.many) (r.pos + 1) (m - r.pos) = tailV (valAt h os) F (r.pos + 1) (m - r.pos) + r.wt * valAt h os r.pos r.st := by
  have hsk := (hok s (List.mem_of_getElem? hso)).1
  have key : ∀ (G : Nat → Fr) (d : Nat), d ≤ 2 → tailV (valAt h os) (toF m (lives asked os) G (Rn.step s r d)) (r.pos + 1) (m - r.pos) = tailV (valAt h os) G (r.pos + 1) (m - r.pos) + valR h os (Rn.step s r d) := fun G d hd =>
    toF_val hm hr hok (next_bd hsk hs (by omega)) (by have := step_pos s r (d : Int); omega) him
  have e : r.wt * valAt h os r.pos r.st = valR h os r := rfl
  rw [e]
  unfold St.many
  cases hd : s.draws
  · rw [if_neg (by simp)]
    show tailV _ (toF m (lives asked os) F (Rn.step s r (0 : Nat))) _ _ = _
    rw [key F 0 (by decide), valR_own hso hd]
    rfl
  · rw [if_pos rfl]
    show tailV _ (toF m (lives asked os) (toF m (lives asked os) (toF m (lives asked os) F (Rn.step s r (0 : Nat))) (Rn.step s r (1 : Nat))) (Rn.step s r (2 : Nat))) _ _ = _
    rw [key _ 2 (by decide), key _ 1 (by decide), key _ 0 (by decide), valR_draw hso hd]
    have e0 : valR h os (Rn.step s r ((0 : Nat) : Int)) = valR h os (Rn.step s r 0) := rfl
    have e1 : valR h os (Rn.step s r ((1 : Nat) : Int)) = valR h os (Rn.step s r 1) := rfl
    have e2 : valR h os (Rn.step s r ((2 : Nat) : Int)) = valR h os (Rn.step s r 2) := rfl
    rw [e0, e1, e2]
    omega
end Go.Proofs.Ytebaocnjlakdgaa

namespace Go.Proofs.Ytebaocnjlakdgaa
set_option maxRecDepth 100000
set_option linter.unusedVariables false
open Go.RowKit

def Stpd (w : World) (base g gl gf m : Nat) (A : Option Addr) (c : Nat) (os : List St) (lv : List Int) (F : Nat → Fr) (vs : Nat → Value) (s : St) (r : Rn) (e : Ending) (w' : World) : Prop :=
  e = .returned (.tuple #[]) ∧ ∃ vs', Swp w' base g gl gf m A c os lv (fD m lv F s r s.many) vs' ∧ Swk w w' gf m vs vs' ∧ ∀ t, t ≤ r.pos → vs' t = vs t

set_option maxHeartbeats 4000000 in
theorem step_any (w : World) (base g gl gf m : Nat) (A : Option Addr) (c : Nat) (os : List St) (lv : List Int) (F : Nat → Fr) (vs : Nat → Value) (s : St) (r : Rn) (h : Swp w base g gl gf m A c os lv F vs) (hm : m ≤ 12) (hM : os.length = m) (hlv : LvOk m lv) (hF : ∀ i, FrOk (F i)) (hs : 0 ≤ r.st ∧ r.st ≤ 80) (hw : 0 < r.wt) (him : r.pos < m) (hso : os[r.pos]? = some s) (hok : s.ok = true)
    (hcap : ∀ t, ∀ p ∈ F t, p.2 ≤ 1000000000000000000) (htl : tailV (V2 m) F (r.pos + 1) (m - r.pos) + r.wt * V2 m r.pos 0 ≤ 1000000000000000000) (hfar : ∀ t, m < t → F t = []) :
    Calls Try.prog 89 #[.pointer (some ⟨g, 0, none⟩), .agg #[.int .i64 r.pos, .int .i64 r.st, .int .i64 r.wt]] w (Stpd w base g gl gf m A c os lv F vs s r) := by
  have hV2 : V2 m r.pos 0 = 27 * V2 m (r.pos + 1) 0 := V2_succ him 0 0
  have hV1 := V2_ge m (r.pos + 1) 0
  have hT0 := tailV_nonneg (V := V2 m) hF (fun i st => by have := V2_ge m i st; omega) (m - r.pos) (r.pos + 1)
  have hwV : r.wt * 27 ≤ r.wt * V2 m r.pos 0 := Int.mul_le_mul_of_nonneg_left (by omega) (by omega)
  have hFok := Lib.hid (fun d hd => fD_ok (m := m) (lv := lv) hok hF hs (show 0 ≤ r.wt by omega) d hd)
  have hWd := Lib.hid (show ∀ d : Nat, d ≤ 2 → 0 ≤ (Rn.step s r d).wt ∧ (Rn.step s r d).wt ≤ 1000000000000000000 from fun d hd => by
    have hf := fac_bd hok (s.next r.st d)
    have h1 : r.wt * s.fac (s.next r.st d) ≤ r.wt * 9 := Int.mul_le_mul_of_nonneg_left hf.2 (by omega)
    have h2 : 0 ≤ r.wt * s.fac (s.next r.st d) := Int.mul_nonneg (by omega) hf.1
    show 0 ≤ r.wt * s.fac (s.next r.st d) ∧ r.wt * s.fac (s.next r.st d) ≤ 1000000000000000000
    omega)
  have hCap := Lib.hid (show ∀ d, d ≤ 3 → ∀ t, ∀ p ∈ fD m lv F s r d t, p.2 ≤ 1000000000000000000 from fun d hd t p hp => by
    by_cases ht : t ≤ r.pos
    · rw [fD_le him d t ht] at hp
      exact hcap t p hp
    · by_cases htm : t ≤ m
      · have h1 := tailV_ge (V := V2 m) (hFok.out d hd) (V2_ge m) (m - r.pos) (r.pos + 1) t (by omega) (by omega) p hp
        have h2 := fD_bd (m := m) (lv := lv) (F := F) hok (show 0 ≤ r.wt by omega) him d
        have h3 : (d : Int) * (9 * r.wt * V2 m (r.pos + 1) 0) ≤ 3 * (9 * r.wt * V2 m (r.pos + 1) 0) := Int.mul_le_mul_of_nonneg_right (by omega) (Int.mul_nonneg (by omega) (by omega))
        have h4 : 3 * (9 * r.wt * V2 m (r.pos + 1) 0) = r.wt * V2 m r.pos 0 := by
          rw [hV2, ← Int.mul_assoc 3, ← Int.mul_assoc 3, ← Int.mul_assoc r.wt, Int.mul_comm r.wt 27]
          rfl
        omega
      · have : ∀ d, fD m lv F s r d t = F t := fun d => by
          induction d with
          | zero => rfl
          | succ d ih =>
            rw [fD]
            unfold toF
            split
            · exact ih
            · rw [upd_ne (by omega)]; exact ih
        rw [this d, hfar t (by omega)] at hp
        simp at hp)
  have hpos := Lib.hid (show ∀ d : Nat, (Rn.step s r d).pos ≤ 100 from fun d => by
    have h1 : s.jump r.st ≤ 12 := by
      unfold St.jump
      split
      · rename_i h
        have := ok_rng (k := s.k) (a := s.a) (b := s.b) (c := s.c) (u := s.u) (v := s.v) (x := s.x) hok
        omega
      · omega
    show r.pos + 1 + s.jump r.st ≤ 100
    omega)
  have hlv' := Lib.hid hlv
  have hS0 := Lib.hid h
  have hGn := Lib.hid (show ¬ SwB gf m vs w.heap.size from fun hi => by have := (h.gt hi).2; omega)
  have hGgf : w.heap.size ≠ gf := fun e => hGn.out (.inl e)
  have hB0 : Below w.heap.size w (w.alloc (.cells #[.int .i64 r.pos, .int .i64 r.st, .int .i64 r.wt] 64)) := (Below.refl _ _).alloc (Nat.le_refl _) _
  have hS1 := h.below hB0
  have hG1 := Has.new w 64 #[.int .i64 r.pos, .int .i64 r.st, .int .i64 r.wt]
  have hLst := ownS_lst hS1.2.1
  obtain ⟨gs, off, s', rfl, hgs, hs', hat⟩ := hLst.at_ him
  obtain rfl : s' = s := Option.some.inj (hs'.symm.trans hso)
  obtain ⟨c0, c1, c2, c3, c4, c5, c6⟩ := hat.open_
  have hS1' := Lib.hid hS1
  have hG1' := Lib.hid hG1
  have e0 := hS1.1.cell 0
  have e1 := hG1.cell 0
  have hSo := Lib.hid hso
  have hMo := Lib.hid hM
  have hp0 : (0 : Int) ≤ (r.pos : Int) := by omega
  have hp1 : (r.pos : Int) < (m : Int) := by omega
  have hwp : r.wt ≤ 1000000000000000000 := by omega
  have hlv := hlv'
  clear hlv' hF hcap htl hfar hM hso h hV2 hT0 hwV hV1 hs' hat hLst hS1 hG1
  go_enter Try.func89, Try.ntmps89
  go_wp2_with fail
  obtain ⟨G, hGe⟩ : ∃ G, G = w.heap.size := ⟨_, rfl⟩
  have hGle : w.heap.size ≤ G := by omega
  rw [← hGe] at hG1' hGn hGgf e1 ⊢
  clear hGe
  generalize w.alloc (.cells #[.int .i64 r.pos, .int .i64 r.st, .int .i64 r.wt] 64) = W at hS1' hG1' hB0 e0 e1 c0 c1 c2 c3 c4 c5 c6 hgs ⊢
  have e0' : W.cell? ⟨g, 0, none⟩ = some (.slice (some ⟨gs, off, none⟩) m c) := e0
  have e1' : W.cell? ⟨G, 0, none⟩ = some (.int .i64 r.pos) := e1
  clear e0 e1
  have n0 := World.new_ne W _ e0'
  have n1 := World.new_ne W _ e1'
  have m0 := World.new_ne W _ c0
  have m1 := World.new_ne W _ c1
  have m2 := World.new_ne W _ c2
  have m3 := World.new_ne W _ c3
  have m4 := World.new_ne W _ c4
  have m5 := World.new_ne W _ c5
  have m6 := World.new_ne W _ c6
  go_region_held3 (fun wx => wx.cell? ⟨g, 0, none⟩ = some (.slice (some ⟨gs, off, none⟩) m c) ∧ wx.cell? ⟨G, 0, none⟩ = some (.int .i64 r.pos) ∧ wx.cell? ⟨gs, off + r.pos * 7, none⟩ = some (.int .i64 s'.k) ∧ wx.cell? ⟨gs, off + r.pos * 7 + 1, none⟩ = some (.int .i64 s'.a) ∧ wx.cell? ⟨gs, off + r.pos * 7 + 2, none⟩ = some (.int .i64 s'.b) ∧ wx.cell? ⟨gs, off + r.pos * 7 + 3, none⟩ = some (.int .i64 s'.c) ∧ wx.cell? ⟨gs, off + r.pos * 7 + 4, none⟩ = some (.int .i64 s'.u) ∧ wx.cell? ⟨gs, off + r.pos * 7 + 5, none⟩ = some (.int .i64 s'.v) ∧ wx.cell? ⟨gs, off + r.pos * 7 + 6, none⟩ = some (.int .i64 s'.x)) (go_keep) (fail)
  clear n0 n1 m0 m1 m2 m3 m4 m5 m6 c0 c1 c2 c3 c4 c5 c6 e0' e1'
  have hBW : Below W.heap.size W ((W.alloc (.cells #[.int .i64 s'.k, .int .i64 s'.a, .int .i64 s'.b, .int .i64 s'.c, .int .i64 s'.u, .int .i64 s'.v, .int .i64 s'.x] 76)).drew) := ((Below.refl _ _).alloc (Nat.le_refl _) _).drew
  have hS2 := Lib.hid (hS1'.out.below hBW)
  have hG2r := Lib.hid (hG1'.out.kept hBW)
  have hG2s : Has ((W.alloc (.cells #[.int .i64 s'.k, .int .i64 s'.a, .int .i64 s'.b, .int .i64 s'.c, .int .i64 s'.u, .int .i64 s'.v, .int .i64 s'.x] 76)).drew) W.heap.size 76 #[.int .i64 s'.k, .int .i64 s'.a, .int .i64 s'.b, .int .i64 s'.c, .int .i64 s'.u, .int .i64 s'.v, .int .i64 s'.x] := Has.new W 76 #[.int .i64 s'.k, .int .i64 s'.a, .int .i64 s'.b, .int .i64 s'.c, .int .i64 s'.u, .int .i64 s'.v, .int .i64 s'.x]
  have hGW := hG1'.out.lt
  have hK2 := Lib.hid ((Swk.below (gf := gf) (m := m) (vs := vs) hB0).trans (Swk.below hBW))
  have hGW2 : G < ((W.alloc (.cells #[.int .i64 s'.k, .int .i64 s'.a, .int .i64 s'.b, .int .i64 s'.c, .int .i64 s'.u, .int .i64 s'.v, .int .i64 s'.x] 76)).drew).heap.size := by simp; omega
  generalize W.heap.size = G2 at hG2s
  generalize hW2e : (W.alloc (.cells #[.int .i64 s'.k, .int .i64 s'.a, .int .i64 s'.b, .int .i64 s'.c, .int .i64 s'.u, .int .i64 s'.v, .int .i64 s'.x] 76)).drew = W2 at hS2 hG2r hG2s hK2 hGW2 ⊢
  clear hBW hW2e
  have hcs2 := hG2s.cell
  have hS3 := hS2
  have hG3r := hG2r
  have hG3s := Lib.hid hG2s
  have hK3 := hK2
  clear hS2 hG2r hG2s hK2 hS1' hG1' hB0
  cases hd : s'.draws
  · have hMn := Lib.hid (show s'.many = 1 from by unfold St.many; rw [hd]; rfl)
    have cI := Lib.hid (fun wx => isDraw_any s' wx)
    rw [hd] at cI
    clear hd
    go_wp2_with fail
    refine (cI.out _).mono ?_
    rintro e w3 ⟨rfl, hb3⟩
    have hS2 := Lib.hid (hS3.out.below hb3)
    have hG2r := Lib.hid (hG3r.out.kept hb3)
    have hG2s := Lib.hid (hG3s.out.kept hb3)
    have hK2 := Lib.hid (hK3.out.trans (Swk.below (gf := gf) (m := m) (vs := vs) hb3))
    have hGw3 : G < w3.heap.size := by have := hb3.size; omega
    clear hb3 hS3 hG3r hG3s hK3 hcs2
    go_wp2_with fail
    go_loopg [6] 1 (fun gn v wr => ∃ (d : Nat) (vd : Nat → Value), d ≤ 1 ∧ gn = 1 - d ∧ v = .int .i64 d ∧ Swp wr base g gl gf m (some ⟨gs, off, none⟩) c os lv (fD m lv F s' r d) vd ∧ Swk w3 wr gf m vs vd ∧ Has wr G 64 #[.int .i64 r.pos, .int .i64 r.st, .int .i64 r.wt] ∧ Has wr G2 76 #[.int .i64 s'.k, .int .i64 s'.a, .int .i64 s'.b, .int .i64 s'.c, .int .i64 s'.u, .int .i64 s'.v, .int .i64 s'.x] ∧ ∀ t, t ≤ r.pos → vd t = vs t)
    case atStart => exact ⟨0, vs, by omega, rfl, rfl, hS2.out, Swk.refl _ _ _ _, hG2r.out, hG2s.out, fun t _ => rfl⟩
    case round =>
      obtain ⟨d, vd, hd, hgn, rfl, hSw, hKd, hGr, hGs, hvd⟩ := hrel
      by_cases hlt : d < 1
      · have hcr := hGr.cell
        have hcs := hGs.cell
        have hfac := fac_bd hok (s'.next r.st d)
        have hnx := next_bd hok (x := (d : Int)) hs (by omega)
        have hwd : 0 ≤ (Rn.step s' r d).wt ∧ (Rn.step s' r d).wt ≤ 1000000000000000000 := hWd.out d (by omega)
        have hcap := Lib.hid (hCap.out d (by omega))
        have hFk := Lib.hid (hFok.out d (by omega))
        have hSw' := Lib.hid hSw
        have hKd' := Lib.hid hKd
        have hGr' := Lib.hid hGr
        have hGs' := Lib.hid hGs
        have hvd' := Lib.hid hvd
        have hwl : r.wt ≤ 1000000000000000000 := by omega
        have hgnn : gk = 1 - d := hgn
        clear hSw hKd hGr hGs hvd hgn
        go_wp2_with fail
        refine (stepRun_w s' r d _ hok hs ⟨by omega, hwl⟩ (by omega) (by omega)).mono ?_
        rintro e w5 ⟨rfl, hb5⟩
        have hSw5 := hSw'.out.below hb5
        have hK5 := Lib.hid (hKd'.out.trans (Swk.below (gf := gf) (m := m) (vs := vd) hb5))
        have hGr5 := Lib.hid (hGr'.out.kept hb5)
        have hGs5 := Lib.hid (hGs'.out.kept hb5)
        have cP := Lib.hid (put_any w5 base g gl gf m (some ⟨gs, off, none⟩) c os lv (fD m lv F s' r d) vd (Rn.step s' r d) hSw5 hm hlv.out hFk.out hnx hwd (fun i hi p hp => hcap.out i p hp) (hpos.out d))
        have hSw5' := Lib.hid hSw5
        clear hb5 hcr hcs hSw5
        go_wp2_with fail
        refine (cP.out).mono ?_
        rintro e w6 ⟨rfl, vs6, hSw6, hK6, hv6⟩
        have hnG : ¬ SwB gf m vd G := fun hi => by
          rcases hi with e | ⟨t, ht, e⟩
          · exact hGgf e
          · rcases hKd'.out.2 t G ht e with e' | e'
            · exact hGn.out (.inr ⟨t, ht, e'⟩)
            · omega
        have hGr6 := Lib.hid (hGr5.out.but hK6.1 hnG)
        have hGs6 := Lib.hid (hGs5.out.but hK6.1 (hSw5'.out.has_ne hGs5.out (Ne.symm tsw_d) (Ne.symm tsw_f)))
        have hK6' := Lib.hid (hK5.out.trans hK6)
        have hSw6' := Lib.hid hSw6
        have hv6' := Lib.hid (show ∀ t, t ≤ r.pos → vs6 t = vs t from fun t ht => (hv6 t (toF_le (by have := step_pos s' r (d : Int); omega))).trans (hvd'.out t ht))
        clear hSw6 hK6 hv6 hnG
        go_wp2_with fail
        go_roundg (1 - (d + 1))
        case measure => omega
        case rel => exact ⟨d + 1, vs6, by omega, rfl, by go_num, hSw6'.out, hK6'.out, hGr6.out, hGs6.out, hv6'.out⟩
      · obtain rfl : d = 1 := by omega
        have hF := Lib.hid (show fD m lv F s' r 1 = fD m lv F s' r s'.many from by rw [hMn.out])
        have hSw' := Lib.hid hSw
        have hKd' := Lib.hid hKd
        have hvd' := Lib.hid hvd
        clear hSw hKd hGr hGs hvd
        go_wp2_with fail
        go_end0
        exact ⟨rfl, vd, by rw [← hF.out]; exact hSw'.out, hK2.out.trans hKd'.out, hvd'.out⟩
  · have hMn := Lib.hid (show s'.many = 3 from by unfold St.many; rw [hd]; rfl)
    have cI := Lib.hid (fun wx => isDraw_any s' wx)
    rw [hd] at cI
    clear hd
    go_wp2_with fail
    refine (cI.out _).mono ?_
    rintro e w3 ⟨rfl, hb3⟩
    have hS2 := Lib.hid (hS3.out.below hb3)
    have hG2r := Lib.hid (hG3r.out.kept hb3)
    have hG2s := Lib.hid (hG3s.out.kept hb3)
    have hK2 := Lib.hid (hK3.out.trans (Swk.below (gf := gf) (m := m) (vs := vs) hb3))
    have hGw3 : G < w3.heap.size := by have := hb3.size; omega
    clear hb3 hS3 hG3r hG3s hK3 hcs2
    go_wp2_with fail
    go_loopg [6] 3 (fun gn v wr => ∃ (d : Nat) (vd : Nat → Value), d ≤ 3 ∧ gn = 3 - d ∧ v = .int .i64 d ∧ Swp wr base g gl gf m (some ⟨gs, off, none⟩) c os lv (fD m lv F s' r d) vd ∧ Swk w3 wr gf m vs vd ∧ Has wr G 64 #[.int .i64 r.pos, .int .i64 r.st, .int .i64 r.wt] ∧ Has wr G2 76 #[.int .i64 s'.k, .int .i64 s'.a, .int .i64 s'.b, .int .i64 s'.c, .int .i64 s'.u, .int .i64 s'.v, .int .i64 s'.x] ∧ ∀ t, t ≤ r.pos → vd t = vs t)
    case atStart => exact ⟨0, vs, by omega, rfl, rfl, hS2.out, Swk.refl _ _ _ _, hG2r.out, hG2s.out, fun t _ => rfl⟩
    case round =>
      obtain ⟨d, vd, hd, hgn, rfl, hSw, hKd, hGr, hGs, hvd⟩ := hrel
      by_cases hlt : d < 3
      · have hcr := hGr.cell
        have hcs := hGs.cell
        have hfac := fac_bd hok (s'.next r.st d)
        have hnx := next_bd hok (x := (d : Int)) hs (by omega)
        have hwd : 0 ≤ (Rn.step s' r d).wt ∧ (Rn.step s' r d).wt ≤ 1000000000000000000 := hWd.out d (by omega)
        have hcap := Lib.hid (hCap.out d (by omega))
        have hFk := Lib.hid (hFok.out d (by omega))
        have hSw' := Lib.hid hSw
        have hKd' := Lib.hid hKd
        have hGr' := Lib.hid hGr
        have hGs' := Lib.hid hGs
        have hvd' := Lib.hid hvd
        have hwl : r.wt ≤ 1000000000000000000 := by omega
        have hgnn : gk = 3 - d := hgn
        clear hSw hKd hGr hGs hvd hgn
        go_wp2_with fail
        refine (stepRun_w s' r d _ hok hs ⟨by omega, hwl⟩ (by omega) (by omega)).mono ?_
        rintro e w5 ⟨rfl, hb5⟩
        have hSw5 := hSw'.out.below hb5
        have hK5 := Lib.hid (hKd'.out.trans (Swk.below (gf := gf) (m := m) (vs := vd) hb5))
        have hGr5 := Lib.hid (hGr'.out.kept hb5)
        have hGs5 := Lib.hid (hGs'.out.kept hb5)
        have cP := Lib.hid (put_any w5 base g gl gf m (some ⟨gs, off, none⟩) c os lv (fD m lv F s' r d) vd (Rn.step s' r d) hSw5 hm hlv.out hFk.out hnx hwd (fun i hi p hp => hcap.out i p hp) (hpos.out d))
        have hSw5' := Lib.hid hSw5
        clear hb5 hcr hcs hSw5
        go_wp2_with fail
        refine (cP.out).mono ?_
        rintro e w6 ⟨rfl, vs6, hSw6, hK6, hv6⟩
        have hnG : ¬ SwB gf m vd G := fun hi => by
          rcases hi with e | ⟨t, ht, e⟩
          · exact hGgf e
          · rcases hKd'.out.2 t G ht e with e' | e'
            · exact hGn.out (.inr ⟨t, ht, e'⟩)
            · omega
        have hGr6 := Lib.hid (hGr5.out.but hK6.1 hnG)
        have hGs6 := Lib.hid (hGs5.out.but hK6.1 (hSw5'.out.has_ne hGs5.out (Ne.symm tsw_d) (Ne.symm tsw_f)))
        have hK6' := Lib.hid (hK5.out.trans hK6)
        have hSw6' := Lib.hid hSw6
        have hv6' := Lib.hid (show ∀ t, t ≤ r.pos → vs6 t = vs t from fun t ht => (hv6 t (toF_le (by have := step_pos s' r (d : Int); omega))).trans (hvd'.out t ht))
        clear hSw6 hK6 hv6 hnG
        go_wp2_with fail
        go_roundg (3 - (d + 1))
        case measure => omega
        case rel => exact ⟨d + 1, vs6, by omega, rfl, by go_num, hSw6'.out, hK6'.out, hGr6.out, hGs6.out, hv6'.out⟩
      · obtain rfl : d = 3 := by omega
        have hF := Lib.hid (show fD m lv F s' r 3 = fD m lv F s' r s'.many from by rw [hMn.out])
        have hSw' := Lib.hid hSw
        have hKd' := Lib.hid hKd
        have hvd' := Lib.hid hvd
        clear hSw hKd hGr hGs hvd
        go_wp2_with fail
        go_end0
        exact ⟨rfl, vd, by rw [← hF.out]; exact hSw'.out, hK2.out.trans hKd'.out, hvd'.out⟩
end Go.Proofs.Ytebaocnjlakdgaa
