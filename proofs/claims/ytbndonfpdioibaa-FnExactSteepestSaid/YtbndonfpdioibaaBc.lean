/- Whither runs lead: the program's ledFrom. -/
import Derived.Test.YtbndonfpdioibaaBb
import Derived.Deep.LoopGhost
import Derived.StillTailTactics
import Derived.IntWalk
namespace Go.Proofs.Ytbndonfpdioibaa
set_option maxRecDepth 100000
set_option linter.unusedVariables false
open Go.RowKit

/-- The cells of sets of states. -/
def LedA (cs : Array Value) (m : Nat) (led : Nat → Int → Bool) : Prop := cs.size = (m + 1) * 81 ∧ ∀ i q : Nat, i ≤ m → q < 81 → cs[i * 81 + q]? = some (.bool (led i q))
def upL (led : Nat → Int → Bool) (p : Nat) (z : Int) : Nat → Int → Bool := fun i st => if i = p ∧ st = z then true else led i st
theorem LedA.upd {cs : Array Value} {m : Nat} {led : Nat → Int → Bool} (h : LedA cs m led) {p z : Nat} (hp : p ≤ m) (hz : z < 81) : LedA (cs.setIfInBounds (p * 81 + z) (.bool true)) m (upL led p z) := by
  refine ⟨by simpa using h.1, fun i q hi hq => ?_⟩
  rw [Array.getElem?_setIfInBounds]
  unfold upL
  by_cases he : p * 81 + z = i * 81 + q
  · have h1 : i = p := by omega
    subst h1
    have h2 : q = z := by omega
    subst h2
    rw [if_pos rfl, if_pos (by rw [h.1]; omega), if_pos ⟨rfl, rfl⟩]
  · rw [if_neg he, if_neg (by rintro ⟨rfl, e⟩; exact he (by omega))]
    exact h.2 i q hi hq
/-- Whither runs lead from a place and a state is whole. -/
def ClAt (os : List St) (led : Nat → Int → Bool) (i : Nat) (st : Int) : Prop := ∀ s, os[i]? = some s → led i st = true → ∀ r ∈ prt os.length s ⟨i, st, 1⟩, r.wt ≠ 0 → led r.pos r.st = true
theorem upL_mono {led : Nat → Int → Bool} {p i : Nat} {z st : Int} (h : led i st = true) : upL led p z i st = true := by
  unfold upL
  split
  · rfl
  · exact h
theorem upL_ne {led : Nat → Int → Bool} {p i : Nat} {z st : Int} (h : i ≠ p) : upL led p z i st = led i st := if_neg fun e => h e.1
theorem ClAt.upd {os : List St} {led : Nat → Int → Bool} {i p : Nat} {st z : Int} (h : ClAt os led i st) (hp : i ≠ p) : ClAt os (upL led p z) i st := fun s hs hl r hr hw => upL_mono (h s hs (by rwa [upL_ne hp] at hl) r hr hw)
def LedI (os : List St) (f : Int → Bool) (k : Nat) (ledk : Int → Bool) (q : Nat) (led : Nat → Int → Bool) : Prop :=
  (∀ st, led k st = ledk st) ∧ (∀ st, 0 ≤ st ∧ st ≤ 80 → led 0 st = f st) ∧ (∀ i, i < k → ∀ st, 0 ≤ st ∧ st ≤ 80 → ClAt os led i st) ∧ (∀ st : Int, 0 ≤ st ∧ st < (q : Int) → ClAt os led k st)
theorem LedI.upd {os : List St} {f : Int → Bool} {k p q : Nat} {ledk : Int → Bool} {led : Nat → Int → Bool} {z : Int} (h : LedI os f k ledk q led) (hp : k < p) : LedI os f k ledk q (upL led p z) :=
  ⟨fun st => by rw [upL_ne (by omega)]; exact h.1 st, fun st hs => by rw [upL_ne (by omega)]; exact h.2.1 st hs, fun i hi st hs => (h.2.2.1 i hi st hs).upd (by omega), fun st hs => (h.2.2.2 st hs).upd (by omega)⟩
/-- The first parts of a run are led. -/
def LedP (led : Nat → Int → Bool) (rs : List Rn) (d : Nat) : Prop := ∀ i r, i < d → rs[i]? = some r → r.wt ≠ 0 → led r.pos r.st = true
theorem LedP.upd {led : Nat → Int → Bool} {rs : List Rn} {d : Nat} {r : Rn} (h : LedP led rs d) (hr : rs[d]? = some r) : LedP (upL led r.pos r.st) rs (d + 1) := fun i r' hi hr' hw => by
  by_cases hid : i = d
  · subst hid
    obtain rfl : r = r' := Option.some.inj (hr.symm.trans hr')
    exact if_pos ⟨rfl, rfl⟩
  · exact upL_mono (h i r' (by omega) hr' hw)
theorem LedP.pass {led : Nat → Int → Bool} {rs : List Rn} {d : Nat} {r : Rn} (h : LedP led rs d) (hr : rs[d]? = some r) (h0 : r.wt = 0) : LedP led rs (d + 1) := fun i r' hi hr' hw => by
  by_cases hid : i = d
  · subst hid
    obtain rfl : r = r' := Option.some.inj (hr.symm.trans hr')
    exact absurd h0 hw
  · exact h i r' (by omega) hr' hw
theorem LedI.next {os : List St} {f : Int → Bool} {k q : Nat} {ledk : Int → Bool} {led : Nat → Int → Bool} {s : St} (h : LedI os f k ledk q led) (hs : os[k]? = some s) (hp : ledk q = true → LedP led (prt os.length s ⟨k, q, 1⟩) s.many) : LedI os f k ledk (q + 1) led :=
  ⟨h.1, h.2.1, h.2.2.1, fun st hst => by
    by_cases he : st = q
    · subst he
      intro s' hs' hl r hr hw
      obtain rfl : s = s' := Option.some.inj (hs.symm.trans hs')
      obtain ⟨i, hi⟩ := List.mem_iff_getElem?.1 hr
      have hl' := (List.getElem?_eq_some_iff.1 hi).1
      rw [prt_length] at hl'
      exact hp (by rw [← h.1]; exact hl) i r hl' hi hw
    · exact h.2.2.2 st (by omega)⟩
theorem LedI.on {os : List St} {f : Int → Bool} {k : Nat} {ledk : Int → Bool} {led : Nat → Int → Bool} (h : LedI os f k ledk 81 led) : LedI os f (k + 1) (led (k + 1)) 0 led :=
  ⟨fun _ => rfl, h.2.1, fun i hi st hs => by
    by_cases he : i = k
    · subst he
      exact h.2.2.2 st (by omega)
    · exact h.2.2.1 i (by omega) st hs, fun st hs => by omega⟩
theorem info_set3 : (Try.prog.info? 183).map (fun i => (i.zero, i.size, i.bytes)) = some (some (.agg (List.toArray (List.replicate 81 (.bool false)))), 81, 81) := by kernel_rfl
theorem made_atB {z : Array Value} {n i : Nat} (h : i < n) (hz : 0 < z.size) : (madeCells z n)[i]? = z[i % z.size]? := by
  have hi : i % z.size < z.size := Nat.mod_lt _ hz
  have hs : i < (madeCells z n).size := by rw [size_madeCells]; exact h
  rw [Array.getElem?_eq_getElem hs, Array.getElem?_eq_getElem hi]
  congr 1
  simp [madeCells]
  rw [getElem!_pos z _ hi]
theorem made_LedA {zc : Array Value} (hz : zc.size = 81) (hb : ∀ u ∈ zc, u = .bool false) (m : Nat) : LedA (madeCells zc ((m + 1) * 81)) m (fun _ _ => false) := ⟨size_madeCells _ _, fun i q hi hq => by
  have h1 : (i * 81 + q) % zc.size = q := by rw [hz]; omega
  have hlt : i * 81 + q < (m + 1) * 81 := by omega
  have h2 : (madeCells zc ((m + 1) * 81))[i * 81 + q]? = zc[(i * 81 + q) % zc.size]? := made_atB hlt (by omega)
  rw [h2, h1, Array.getElem?_eq_getElem (by omega)]
  congr 1
  exact hb _ (Array.getElem_mem _)⟩
theorem LedA.row0 {cs cs' fa : Array Value} {m : Nat} {led : Nat → Int → Bool} {f : Int → Bool} (h : LedA cs m led) (hf : SetA fa f) (hz : cs'.size = cs.size) (h1 : ∀ j v, fa.toList[j]? = some v → cs'[0 + j]? = some v) (h2 : ∀ i, (i < 0 ∨ 0 + fa.toList.length ≤ i) → cs'[i]? = cs[i]?) :
    LedA cs' m (fun i st => if i = 0 then f st else led i st) := by
  refine ⟨by rw [hz]; exact h.1, fun i q hi hq => ?_⟩
  by_cases h0 : i = 0
  · subst h0
    have := h1 q _ (by simpa using hf.2 q hq)
    show cs'[0 * 81 + q]? = some (.bool (if (0 : Nat) = 0 then f q else led 0 q))
    rw [if_pos rfl, ← this]
  · show cs'[i * 81 + q]? = some (.bool (if i = 0 then f q else led i q))
    rw [if_neg h0, h2 (i * 81 + q) (.inr (by simp [hf.1]; omega))]
    exact h.2 i q hi hq
theorem LedI.start {os : List St} {f : Int → Bool} {led : Nat → Int → Bool} : LedI os f 0 f 0 (fun i st => if i = 0 then f st else led i st) :=
  ⟨fun _ => rfl, fun _ _ => rfl, fun i hi => by omega, fun st hs => by omega⟩
/-- One of the sets of states. -/
theorem LedA.part {cs : Array Value} {m : Nat} {led : Nat → Int → Bool} (h : LedA cs m led) {k : Nat} (hk : k ≤ m) : SetA (cs.extract (k * 81) (k * 81 + 81)) (led k) := by
  have hz : k * 81 + 81 ≤ cs.size := by rw [h.1]; omega
  refine ⟨by simp; omega, fun q hq => ?_⟩
  rw [Array.getElem?_extract]
  rw [if_pos (by omega)]
  exact h.2 k q hk hq

theorem index_set {sn : Array Value} {f : Int → Bool} (h : SetA sn f) {q : Nat} (hq : q < 81) (w : World) : (Instr.index 183 (.agg sn) (.int .i64 q)).run Try.prog w = .ok (.bool (f q)) w := by
  have h1 := h.2 q hq
  have hu := Try.underlying183
  have hc : (0 : Int) ≤ (q : Int) ∧ (q : Int) < 81 := by omega
  simp [Instr.index, run_underlying hu, asIntOf, go_sem, part, h1, hc]
  intro h9
  omega

def Ledd (w : World) (m : Nat) (os : List St) (f : Int → Bool) (e : Ending) (w' : World) : Prop :=
  ∃ gl cs led, e = .returned (.slice (some ⟨gl, 0, none⟩) (m + 1) (m + 1)) ∧ w.heap.size ≤ gl ∧ Has w' gl 183 cs ∧ LedA cs m led ∧ (∀ st, 0 ≤ st ∧ st ≤ 80 → led 0 st = f st) ∧ (∀ i, i < m → Cl os led i) ∧ Below w.heap.size w w'

end Go.Proofs.Ytbndonfpdioibaa
