/- Runs and traces, as plain functions on lists of statements. -/
import Derived.Test.YtjokiminlplbcaaUnF
import Derived.Test.YtjokiminlplbcaaStOkJ
namespace Go.Proofs.Ytjokiminlplbcaa
set_option maxRecDepth 100000

/-- The state behind a statement; what is drawn is x. -/
def St.next (s : St) (st x : Int) : Int :=
  if s.k = 0 then withValue st s.a ((s.c + if s.b = -1 then 0 else valueAt st s.b) % 3)
  else if s.k = 1 then withValue st s.a ((valueAt st s.a + valueAt st s.b) % 3)
  else if s.k = 2 ∨ s.k = 3 then withValue st s.a x
  else st
def St.wgt (s : St) (n : Int) : Int := if n = 0 then s.u else if n = 1 then s.v else s.x
/-- With what a statement multiplies the weight; st is the state behind it. -/
def St.fac (s : St) (st : Int) : Int :=
  if s.k = 2 ∨ s.k = 4 then s.wgt (valueAt st s.a)
  else if s.k = 3 ∨ s.k = 5 then s.wgt ((valueAt st s.a + valueAt st s.b) % 3)
  else 1
/-- How many statements are passed over. -/
def St.jump (s : St) (st : Int) : Nat := if s.k = 6 ∧ valueAt st s.a = s.c then s.b.toNat else 0

/-- Where a run is. -/
structure Rn where
  pos : Nat
  st : Int
  wt : Int

def Rn.step (s : St) (r : Rn) (x : Int) : Rn := ⟨r.pos + 1 + s.jump r.st, s.next r.st x, r.wt * s.fac (s.next r.st x)⟩

/-- The end of a run from a place on, of these draws. -/
def run : List St → Nat → Int → Int → List Int → Option (Int × Int)
  | [], _, st, wt, ds => if ds.isEmpty then some (st, wt) else none
  | _ :: r, k + 1, st, wt, ds => run r k st wt ds
  | s :: r, 0, st, wt, ds =>
    if s.draws then
      match ds with
      | [] => none
      | d :: ds => if inB d 0 2 then run r 0 (s.next st d) (wt * s.fac (s.next st d)) ds else none
    else run r (s.jump st) (s.next st 0) (wt * s.fac (s.next st 0)) ds

theorem run_at (s : St) (r : List St) (st wt : Int) (ds : List Int) : run (s :: r) 0 st wt ds =
    if s.draws then
      match ds with
      | [] => none
      | d :: ds => if inB d 0 2 then run r 0 (s.next st d) (wt * s.fac (s.next st d)) ds else none
    else run r (s.jump st) (s.next st 0) (wt * s.fac (s.next st 0)) ds := by
  cases ds <;> rfl

theorem run_skip : ∀ (os : List St) (k : Nat) (st wt : Int) (ds : List Int), run os k st wt ds = run (os.drop k) 0 st wt ds
  | os, 0, _, _, _ => by simp
  | [], k + 1, st, wt, ds => by cases ds <;> simp [run]
  | _ :: r, k + 1, st, wt, ds => by
    rw [run, run_skip r k]; rfl

/-- From a run's place on. -/
def runR (os : List St) (r : Rn) (ds : List Int) : Option (Int × Int) := run (os.drop r.pos) 0 r.st r.wt ds

theorem drop_cons' {os : List St} {k : Nat} {s : St} (h : os[k]? = some s) : os.drop k = s :: os.drop (k + 1) := by
  have hl : k < os.length := (List.getElem?_eq_some_iff.1 h).1
  rw [List.drop_eq_getElem_cons hl, (List.getElem?_eq_some_iff.1 h).2]

theorem jump_draw {s : St} (h : s.draws = true) (st : Int) : s.jump st = 0 := by
  unfold St.draws at h
  unfold St.jump
  rw [if_neg]
  rintro ⟨h6, _⟩
  rw [h6] at h
  simp at h

theorem runR_own {os : List St} {r : Rn} {s : St} {ds : List Int} (h : os[r.pos]? = some s) (hd : s.draws = false) : runR os r ds = runR os (Rn.step s r 0) ds := by
  unfold runR Rn.step
  rw [drop_cons' h, run_at, if_neg (by simp [hd]), run_skip, List.drop_drop]
theorem runR_draw {os : List St} {r : Rn} {s : St} {ds : List Int} {d : Int} (h : os[r.pos]? = some s) (hd : s.draws = true) (hx : inB d 0 2 = true) : runR os r (d :: ds) = runR os (Rn.step s r d) ds := by
  unfold runR Rn.step
  rw [drop_cons' h, run_at, if_pos hd]
  simp [hx, jump_draw hd]
theorem runR_bad {os : List St} {r : Rn} {s : St} {ds : List Int} {d : Int} (h : os[r.pos]? = some s) (hd : s.draws = true) (hx : inB d 0 2 = false) : runR os r (d :: ds) = none := by
  unfold runR
  rw [drop_cons' h, run_at, if_pos hd]
  simp [hx]
theorem runR_short {os : List St} {r : Rn} {s : St} (h : os[r.pos]? = some s) (hd : s.draws = true) : runR os r [] = none := by
  unfold runR
  rw [drop_cons' h, run_at, if_pos hd]
theorem runR_end {os : List St} {r : Rn} (h : os.length ≤ r.pos) : runR os r [] = some (r.st, r.wt) := by
  unfold runR
  rw [List.drop_eq_nil_of_le h]; rfl
theorem runR_long {os : List St} {r : Rn} {d : Int} {ds : List Int} (h : os.length ≤ r.pos) : runR os r (d :: ds) = none := by
  unfold runR
  rw [List.drop_eq_nil_of_le h]; rfl

/-- What a run is of these statements: none of a program that is none. -/
def runTrace (ps : List St) (ds : List Int) : Option (Int × Int) := (unrolled ps).bind fun os => runR os ⟨0, 0, 1⟩ ds

/-- What holds of each run on its way. -/
def Rn.fit (r : Rn) : Prop := 0 ≤ r.st ∧ r.st ≤ 80 ∧ 0 ≤ r.wt ∧ r.wt ≤ 9 ^ r.pos

theorem Rn.fit_start : Rn.fit ⟨0, 0, 1⟩ := ⟨by decide, by decide, by decide, by decide⟩
theorem pow9_le {a b : Nat} (h : a ≤ b) : (9 : Int) ^ a ≤ 9 ^ b := by
  obtain ⟨c, rfl⟩ := Nat.exists_eq_add_of_le h
  rw [Int.pow_add]
  have h1 : (0 : Int) < 9 ^ a := Int.pow_pos (by decide)
  have h2 : (0 : Int) < 9 ^ c := Int.pow_pos (by decide)
  have := Int.mul_le_mul_of_nonneg_left (show (1 : Int) ≤ 9 ^ c by omega) (Int.le_of_lt h1)
  omega
theorem Rn.fit.small {r : Rn} (h : r.fit) (hp : r.pos ≤ 12) : r.wt ≤ 282429536481 := by
  have := pow9_le hp
  have e : (9 : Int) ^ 12 = 282429536481 := by decide
  have := h.2.2.2
  omega

theorem wgt_bd {s : St} (h : wOk s.u s.v s.x = true) (n : Int) : 0 ≤ s.wgt n ∧ s.wgt n ≤ 9 := by
  unfold wOk at h
  simp [inB_iff] at h
  unfold St.wgt
  split
  · omega
  · split <;> omega

theorem fac_bd {s : St} (h : s.ok = true) (st : Int) : 0 ≤ s.fac st ∧ s.fac st ≤ 9 := by
  obtain ⟨k, a, b, c, u, v, x⟩ := s
  unfold St.fac
  dsimp only
  split
  · rename_i hk
    refine wgt_bd (s := ⟨k, a, b, c, u, v, x⟩) ?_ _
    rcases hk with rfl | rfl
    · rw [ok_2] at h; simp at h; exact h.2
    · rw [ok_4] at h; simp at h; exact h.2
  · split
    · rename_i hk
      refine wgt_bd (s := ⟨k, a, b, c, u, v, x⟩) ?_ _
      rcases hk with rfl | rfl
      · rw [ok_3] at h; simp at h; exact h.2
      · rw [ok_5] at h; simp at h; exact h.2
    · omega

theorem with_bd {st v x : Int} (hs : 0 ≤ st ∧ st ≤ 80) (hv : 0 ≤ v ∧ v ≤ 3) (hx : 0 ≤ x ∧ x ≤ 2) : 0 ≤ withValue st v x ∧ withValue st v x ≤ 80 := by
  obtain ⟨k, rfl, hk⟩ := nat4 hv.1 hv.2
  rw [withValue_yes hs.1 hs.2 rfl hk hx.1 hx.2]
  obtain rfl | rfl | rfl | rfl : k = 0 ∨ k = 1 ∨ k = 2 ∨ k = 3 := by omega
  all_goals simp only [p3]; omega

theorem next_bd {s : St} (h : s.ok = true) {st x : Int} (hs : 0 ≤ st ∧ st ≤ 80) (hx : 0 ≤ x ∧ x ≤ 2) : 0 ≤ s.next st x ∧ s.next st x ≤ 80 := by
  obtain ⟨k, a, b, c, u, v, y⟩ := s
  have hr := ok_rng h
  unfold St.next
  dsimp only
  split
  · exact with_bd hs (by omega) (by omega)
  · split
    · exact with_bd hs (by omega) (by omega)
    · split
      · exact with_bd hs (by omega) hx
      · exact hs

theorem Rn.fit.step {s : St} {r : Rn} {x : Int} (h : r.fit) (hs : s.ok = true) (hx : 0 ≤ x ∧ x ≤ 2) : (Rn.step s r x).fit := by
  obtain ⟨h0, h1, h2, h3⟩ := h
  obtain ⟨n0, n1⟩ := next_bd hs ⟨h0, h1⟩ hx
  obtain ⟨f0, f1⟩ := fac_bd hs (s.next r.st x)
  refine ⟨n0, n1, Int.mul_nonneg h2 f0, ?_⟩
  have e1 : r.wt * s.fac (s.next r.st x) ≤ r.wt * 9 := Int.mul_le_mul_of_nonneg_left f1 h2
  have e2 : r.wt * 9 ≤ 9 ^ r.pos * 9 := Int.mul_le_mul_of_nonneg_right h3 (by decide)
  have e3 : (9 : Int) ^ (r.pos + 1) = 9 ^ r.pos * 9 := Int.pow_succ 9 r.pos
  have e4 := pow9_le (show r.pos + 1 ≤ r.pos + 1 + s.jump r.st by omega)
  show r.wt * s.fac (s.next r.st x) ≤ 9 ^ (r.pos + 1 + s.jump r.st)
  omega

end Go.Proofs.Ytjokiminlplbcaa
