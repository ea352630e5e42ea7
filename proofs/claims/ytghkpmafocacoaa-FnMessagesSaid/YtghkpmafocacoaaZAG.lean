/- Parts of the proof: LF, K3, L2, L3. -/
import Derived.Test.YtghkpmafocacoaaZAF
import Derived.Deep.MidRow
import Derived.Deep.WholeRow
import Derived.Test.YtghkpmafocacoaaZAC
import Derived.Test.YtghkpmafocacoaaZAE
namespace Go.Proofs.Ytghkpmafocacoaa
set_option maxRecDepth 100000
set_option linter.unusedVariables false
open Go.RowKit
def Gr.six (g : Gr) : List Bool := [g.a, g.b, g.c, g.d, g.e, g.f]
theorem six_inj {g h : Gr} : g.six = h.six ↔ g = h := by
  constructor
  · intro e
    obtain ⟨a, b, c, d, e', f⟩ := g
    obtain ⟨a2, b2, c2, d2, e2, f2⟩ := h
    simp only [Gr.six, List.cons.injEq, and_true] at e
    obtain ⟨rfl, rfl, rfl, rfl, rfl, rfl⟩ := e
    rfl
  · rintro rfl
    rfl
instance grDec : DecidableEq Gr := fun g h => decidable_of_iff _ (six_inj (g := g) (h := h))
def lessL (Fs : List Fac) (u t : Nat) : List Fac := Fs.filter fun F => !isP F u t
def Gr.cut (g : Gr) (u t : Nat) : Gr := grOf fun v => g.nb v ^^^ (g.nb v &&& ((if v = u then 2 ^ t else 0) ||| (if v = t then 2 ^ u else 0)))
/-- Nothing that is gone round for a message meets the pair. -/
def Gr.saf (g : Gr) (u t : Nat) : Nat → Nat → Nat → Bool
  | 0, _, _ => true
  | n + 1, w, v => nbs (g.cut u t) w v == nbs g w v && (!((u == w && t == v) || (u == v && t == w)) && (nbs g w v).all fun z => g.saf u t n z w)
theorem cut_none : ∀ u t : Fin 4, Gr.none_.cut u.val t.val = Gr.none_ := by decide +kernel
theorem cut_root (g : Gr) : ∀ u t : Fin 4, u ≠ t → ∀ a b : Fin 4, g.root a.val ≠ g.root b.val → (g.cut u.val t.val).root a.val ≠ (g.cut u.val t.val).root b.val :=
  gr_all (P := fun g => ∀ u t : Fin 4, u ≠ t → ∀ a b : Fin 4, g.root a.val ≠ g.root b.val → (g.cut u.val t.val).root a.val ≠ (g.cut u.val t.val).root b.val) (by decide +kernel) g
theorem cut_put (g : Gr) : ∀ u t : Fin 4, u ≠ t → ∀ a b : Fin 4, a ≠ b → (g.put a.val b.val).cut u.val t.val = if (a = u ∧ b = t) ∨ (a = t ∧ b = u) then g.cut u.val t.val else (g.cut u.val t.val).put a.val b.val :=
  gr_all (P := fun g => ∀ u t : Fin 4, u ≠ t → ∀ a b : Fin 4, a ≠ b → (g.put a.val b.val).cut u.val t.val = if (a = u ∧ b = t) ∨ (a = t ∧ b = u) then g.cut u.val t.val else (g.cut u.val t.val).put a.val b.val) (by decide +kernel) g
theorem cut_saf (g : Gr) : g.acy = true → ∀ u t : Fin 4, (g.nx u.val).testBit t.val = true → nbs (g.cut u.val t.val) u.val 4 = nbs g u.val t.val ∧ (nbs g u.val t.val).all (fun w => g.saf u.val t.val 3 w u.val) = true :=
  gr_all (P := fun g => g.acy = true → ∀ u t : Fin 4, (g.nx u.val).testBit t.val = true → nbs (g.cut u.val t.val) u.val 4 = nbs g u.val t.val ∧ (nbs g u.val t.val).all (fun w => g.saf u.val t.val 3 w u.val) = true) (by decide +kernel) g
theorem ownL_less (Fs : List Fac) (u t v x : Nat) : ownL (lessL Fs u t) v x = ownL Fs v x := by
  unfold ownL lessL
  rw [List.foldl_filter]
  congr 1
  funext p F
  by_cases h : F.vs = [(v : Int)]
  · have hi : isP F u t = false := by unfold isP; rw [h]; rfl
    simp [hi]
  · simp [h]
theorem btw_less (Fs : List Fac) {u t w v : Nat} (h : ((u == w && t == v) || (u == v && t == w)) = false) : btw (lessL Fs u t) w v = btw Fs w v := by
  unfold btw lessL
  rw [List.find?_filter]
  have e : (fun F => decide ((!isP F u t) = true ∧ isP F w v = true)) = fun F => isP F w v := funext fun F => by
    cases hq : isP F w v
    · simp
    · have : isP F u t = false := by
        cases hp : isP F u t
        · rfl
        · unfold isP at hp hq
          simp only [Bool.and_eq_true, Bool.or_eq_true, beq_iff_eq] at hp hq
          simp only [Bool.or_eq_false_iff, Bool.and_eq_false_iff, beq_eq_false_iff_ne] at h
          omega
      rw [this]
      simp
  rw [e]
theorem msg_less (Fs : List Fac) (g : Gr) (u t : Nat) : ∀ (n w v y : Nat), g.saf u t n w v = true → msg (lessL Fs u t) (g.cut u t) n w v y = msg Fs g n w v y
  | 0, w, v, y, h => rfl
  | n + 1, w, v, y, h => by
    unfold Gr.saf at h
    simp only [Bool.and_eq_true, beq_iff_eq, Bool.not_eq_true'] at h
    obtain ⟨h1, h2, h3⟩ := h
    have h4 := List.all_eq_true.1 h3
    show (sum3 fun x => (nbs (g.cut u t) w v).foldl (fun p z => p * msg (lessL Fs u t) (g.cut u t) n z w x) (ownL (lessL Fs u t) w x) * fAt (btw (lessL Fs u t) w v) (st2 w x v y)) = sum3 fun x => (nbs g w v).foldl (fun p z => p * msg Fs g n z w x) (ownL Fs w x) * fAt (btw Fs w v) (st2 w x v y)
    rw [h1, btw_less Fs h2]
    have e : ∀ x, (nbs g w v).foldl (fun p z => p * msg (lessL Fs u t) (g.cut u t) n z w x) (ownL (lessL Fs u t) w x) = (nbs g w v).foldl (fun p z => p * msg Fs g n z w x) (ownL Fs w x) := fun x => by
      rw [ownL_less]
      exact foldl_same _ _ fun q z hz => by rw [msg_less Fs g u t n z w x (h4 z hz)]
    unfold sum3
    dsimp only
    rw [e 0, e 1, e 2]
theorem grL_less_from {u t : Fin 4} (hut : u ≠ t) : ∀ (Fs : List Fac) (g0 g : Gr), (∀ F ∈ Fs, facOk 9 F = true) → Fs.foldl (fun o F => o.bind fun g => addF g F) (some g0) = some g → (lessL Fs u.val t.val).foldl (fun o F => o.bind fun g => addF g F) (some (g0.cut u.val t.val)) = some (g.cut u.val t.val)
  | [], g0, g, _, h => by
    obtain rfl := Option.some.inj h
    rfl
  | F :: r, g0, g, hF, h => by
    have hr := fun G (hG : G ∈ r) => hF G (List.mem_cons_of_mem _ hG)
    have h9 := hF F List.mem_cons_self
    rw [List.foldl_cons] at h
    cases ha : addF g0 F with
    | none =>
      have : r.foldl (fun o F => o.bind fun g => addF g F) (none : Option Gr) = some g := by rw [← ha]; exact h
      rw [grL_none] at this
      cases this
    | some g1 =>
      have h' : r.foldl (fun o F => o.bind fun g => addF g F) (some g1) = some g := by rw [← ha]; exact h
      have ih := grL_less_from hut r g1 g hr h'
      unfold addF at ha
      by_cases h1 : F.vs.length = 1
      · rw [if_pos h1] at ha
        obtain rfl := Option.some.inj ha
        have hi : isP F u.val t.val = false := by unfold isP; rw [h1]; rfl
        unfold lessL at ih ⊢
        rw [List.filter_cons_of_pos (by simp [hi]), List.foldl_cons]
        have : (some (g0.cut u.val t.val)).bind (fun g => addF g F) = some (g0.cut u.val t.val) := by
          show addF _ F = _
          unfold addF
          rw [if_pos h1]
        rw [this]
        exact ih
      · rw [if_neg h1] at ha
        by_cases h2 : F.vs.length = 2
        · rw [if_pos h2] at ha
          obtain ⟨a, b, hab, hv, ea, eb⟩ := pair_two h9 h2
          rw [ea, eb] at ha
          by_cases hq : g0.root a.val = g0.root b.val
          · rw [if_pos hq] at ha
            cases ha
          rw [if_neg hq] at ha
          obtain rfl := Option.some.inj ha
          have hi := isP_self F hab h2 ea eb u t
          have hc := cut_put g0 u t hut a b hab
          by_cases hs : (a = u ∧ b = t) ∨ (a = t ∧ b = u)
          · rw [if_pos hs] at hc
            have hi' : isP F u.val t.val = true := by
              rw [hi]
              rcases hs with ⟨rfl, rfl⟩ | ⟨rfl, rfl⟩ <;> simp
            unfold lessL at ih ⊢
            rw [List.filter_cons_of_neg (by simp [hi']), ← hc]
            exact ih
          · rw [if_neg hs] at hc
            have hi' : isP F u.val t.val = false := by
              rw [hi]
              simp only [Bool.or_eq_false_iff, decide_eq_false_iff_not]
              exact ⟨fun q => hs (Or.inl ⟨q.1.symm, q.2.symm⟩), fun q => hs (Or.inr ⟨q.2.symm, q.1.symm⟩)⟩
            unfold lessL at ih ⊢
            rw [List.filter_cons_of_pos (by simp [hi']), List.foldl_cons]
            have : (some (g0.cut u.val t.val)).bind (fun g => addF g F) = some ((g0.put a.val b.val).cut u.val t.val) := by
              show addF _ F = _
              unfold addF
              rw [if_neg h1, if_pos h2, ea, eb, if_neg (cut_root g0 u t hut a b hq), hc]
            rw [this]
            exact ih
        · rw [if_neg h2] at ha
          cases ha
/-- Without one pair it is a forest still. -/
theorem grL_less {Fs : List Fac} {g : Gr} {u t : Nat} (hu : u ≤ 3) (ht : t ≤ 3) (hut : u ≠ t) (hF : ∀ F ∈ Fs, facOk 9 F = true) (h : grL Fs = some g) : grL (lessL Fs u t) = some (g.cut u t) := by
  have := grL_less_from (u := ⟨u, by omega⟩) (t := ⟨t, by omega⟩) (fun e => hut (congrArg Fin.val e)) Fs Gr.none_ g hF h
  have hc := cut_none ⟨u, by omega⟩ ⟨t, by omega⟩
  rw [hc] at this
  exact this
/-- What one knows without the pair is what it knows without the other. -/
theorem all_less {Fs : List Fac} {g : Gr} (ha : g.acy = true) {u t : Nat} (hu : u ≤ 3) (ht : t ≤ 3) (h : (g.nx u).testBit t = true) (x : Nat) : allT (lessL Fs u t) (g.cut u t) u 4 x = allT Fs g u t x := by
  obtain ⟨h1, h2⟩ := cut_saf g ha ⟨u, by omega⟩ ⟨t, by omega⟩ h
  have h3 := List.all_eq_true.1 h2
  unfold allT
  rw [h1, ownL_less]
  exact foldl_same _ _ fun q w hw => by
    unfold msgT
    rw [msg_less Fs g u t 3 w u x (h3 w hw)]
end Go.Proofs.Ytghkpmafocacoaa

namespace Go.Proofs.Ytghkpmafocacoaa
set_option maxRecDepth 100000
set_option linter.unusedVariables false
open Go.RowKit
/-- The cells of widths. -/
def ArrN (cs : Array Value) (ls : List Nat) : Prop := cs.size = 16 ∧ ∀ q : Nat, q < 16 → cs[q]? = some (.int .i64 ((ls.getD q 0 : Nat) : Int))
theorem ArrN.one {cs : Array Value} {ls : List Nat} (h : ArrN cs ls) : cs.all (·.oneCell') = true := by
  refine Array.all_eq_true_iff_forall_mem.2 fun u hu => ?_
  obtain ⟨i, hi, rfl⟩ := Array.mem_iff_getElem.1 hu
  have h2 := h.2 i (by rw [← h.1]; exact hi)
  rw [Array.getElem?_eq_getElem hi] at h2
  rw [Option.some.inj h2]; rfl
theorem ArrN.put {cs : Array Value} {ls : List Nat} (h : ArrN cs ls) (hl : ls.length = 16) {q : Nat} (hq : q < 16) (x : Nat) : ArrN (cs.setIfInBounds q (.int .i64 (x : Int))) (ls.set q x) := by
  refine ⟨by simpa using h.1, fun j hj => ?_⟩
  by_cases hjq : q = j
  · subst hjq
    rw [Array.getElem?_setIfInBounds, if_pos rfl, if_pos (by rw [h.1]; exact hq), List.getD_eq_getElem?_getD, List.getElem?_set_self (by omega)]
    rfl
  · rw [Array.getElem?_setIfInBounds, if_neg hjq, h.2 j hj, List.getD_eq_getElem?_getD, List.getD_eq_getElem?_getD, List.getElem?_set_ne hjq]
theorem ArrN.zero : ArrN (List.toArray (List.replicate 16 (.int .i64 0))) (zN 16) := by
  refine ⟨by simp, fun q hq => ?_⟩
  have : (zN 16).getD q 0 = 0 := by
    unfold zN
    rw [List.getD_eq_getElem?_getD, List.getElem?_replicate]
    split <;> rfl
  rw [this, List.getElem?_toArray, List.getElem?_replicate, if_pos hq]
  rfl
/-- Cells written in the midst of a block. -/
theorem has_setCells_ {g : Nat} {t : TypeId} : ∀ (vs : List Value) (o : Nat) (w : World) (cs : Array Value), Has w g t cs → o + vs.length ≤ cs.size →
    ∃ cs', Has (w.setCells g o vs) g t cs' ∧ cs'.size = cs.size ∧ (∀ j v, vs[j]? = some v → cs'[o + j]? = some v) ∧ ∀ i, (i < o ∨ o + vs.length ≤ i) → cs'[i]? = cs[i]?
  | [], o, w, cs, h, hl => ⟨cs, h, rfl, fun j v hv => by simp at hv, fun i _ => rfl⟩
  | u :: vs, o, w, cs, h, hl => by
    rw [List.length_cons] at hl
    obtain ⟨cs', h1, h2, h3, h4⟩ := has_setCells_ vs (o + 1) (w.setCell ⟨g, o, none⟩ u) (cs.setIfInBounds o u) (h.put o u) (by simp; omega)
    refine ⟨cs', h1, by rw [h2]; simp, fun j v hv => ?_, fun i hi => ?_⟩
    · cases j with
      | zero =>
        have e : u = v := by simpa using hv
        subst e
        rw [Nat.add_zero, h4 o (by omega), Array.getElem?_setIfInBounds, if_pos rfl, if_pos (by omega)]
      | succ j =>
        have := h3 j v (by simpa using hv)
        rwa [show o + (j + 1) = o + 1 + j by omega]
    · rw [List.length_cons] at hi
      rw [h4 i (by omega), Array.getElem?_setIfInBounds, if_neg (by omega)]
theorem has_there_ {w : World} {g : Nat} {t : TypeId} {cs : Array Value} (h : Has w g t cs) {o n : Nat} (hn : o + n ≤ cs.size) : w.there g o n := fun j hj => by
  refine ⟨?_, h.frozen _⟩
  rw [h.cell, Array.getElem?_eq_getElem (by omega)]; rfl
theorem has_range_ {w : World} {g : Nat} {t : TypeId} {cs : Array Value} (h : Has w g t cs) {o : Nat} {vs : List Value} (hv : ∀ j v, vs[j]? = some v → cs[o + j]? = some v) : w.rangeAt g o vs := fun j v hj => (h.cell _).trans (hv j v hj)
theorem results_cell_ {fn : Func} {p : Tmp} {ty : TypeId} (h : fn.results = #[.cell p ty]) (tmps : Array Value) (P : Program) (w : World) :
    (results fn tmps).run P w = ((asAddr (tmps.getD p undef)).run P w).andThen fun a w₁ => (loadVar ty a).run P w₁ := by
  simp only [results, h]
  simp [Sem.run_bind, Result.andThen]
end Go.Proofs.Ytghkpmafocacoaa

namespace Go.Proofs.Ytghkpmafocacoaa
set_option maxRecDepth 100000
set_option linter.unusedVariables false
open Go.RowKit
/-- A forest's cells. -/
structure Fo where
  own : Nat → Nat → Int
  root : Nat → Int
  prs : Int
  b1 : Nat → Nat → Value
  b2 : Nat → Nat → Value
  told : Nat → Nat → Nat → Int
def Fo.cell (f : Fo) (i : Nat) : Value :=
  if i < 12 then .int .i64 (f.own (i / 3) (i % 3)) else if i < 16 then .int .i64 (f.root (i - 12)) else if i = 16 then .int .i64 f.prs
  else if i < 49 then (if (i - 17) % 2 = 0 then f.b1 ((i - 17) / 8) ((i - 17) / 2 % 4) else f.b2 ((i - 17) / 8) ((i - 17) / 2 % 4))
  else .int .i64 (f.told ((i - 49) / 12) ((i - 49) / 3 % 4) ((i - 49) % 3))
def Fo.cells (f : Fo) : Array Value := ((List.range 97).map f.cell).toArray
theorem Fo.size (f : Fo) : f.cells.size = 97 := by unfold Fo.cells; simp
theorem Fo.len (f : Fo) : f.cells.toList.length = 97 := by rw [Array.length_toList]; exact f.size
theorem Fo.at_ (f : Fo) {i : Nat} (h : i < 97) : f.cells[i]? = some (f.cell i) := by
  unfold Fo.cells
  rw [List.getElem?_toArray, List.getElem?_map, List.getElem?_range h]
  rfl
theorem Fo.ext {f f' : Fo} (h : ∀ i, i < 97 → f.cell i = f'.cell i) : f.cells = f'.cells := by
  unfold Fo.cells
  congr 1
  exact List.map_congr_left fun i hi => h i (List.mem_range.1 hi)
theorem Fo.put {f f' : Fo} {k : Nat} {v : Value} (h : ∀ i, i < 97 → f'.cell i = if i = k then v else f.cell i) : f.cells.setIfInBounds k v = f'.cells := by
  apply Array.ext_getElem?
  intro i
  rw [Array.getElem?_setIfInBounds]
  by_cases hi : i < 97
  · rw [f'.at_ hi, h i hi, f.at_ hi, f.size]
    by_cases e : i = k
    · subst e
      rw [if_pos rfl, if_pos hi, if_pos rfl]
    · rw [if_neg (fun q => e q.symm), if_neg e]
  · have h1 : f.cells[i]? = none := Array.getElem?_eq_none (by rw [f.size]; omega)
    have h2 : f'.cells[i]? = none := Array.getElem?_eq_none (by rw [f'.size]; omega)
    rw [h1, h2, f.size]
    split
    · rw [if_neg (by omega)]
    · rfl
theorem Fo.own_at (f : Fo) {v x i : Nat} (hv : v ≤ 3) (hx : x ≤ 2) (hi : i = v * 3 + x) : f.cells[i]? = some (.int .i64 (f.own v x)) := by
  subst hi
  rw [f.at_ (by omega)]
  unfold Fo.cell
  rw [if_pos (by omega), show (v * 3 + x) / 3 = v by omega, show (v * 3 + x) % 3 = x by omega]
theorem Fo.root_at (f : Fo) {v i : Nat} (hv : v ≤ 3) (hi : i = 12 + v) : f.cells[i]? = some (.int .i64 (f.root v)) := by
  subst hi
  rw [f.at_ (by omega)]
  unfold Fo.cell
  rw [if_neg (by omega), if_pos (by omega), show 12 + v - 12 = v by omega]
theorem Fo.prs_at (f : Fo) : f.cells[16]? = some (.int .i64 f.prs) := f.at_ (by decide)
theorem Fo.b1_at (f : Fo) {a b i : Nat} (ha : a ≤ 3) (hb : b ≤ 3) (hi : i = 17 + a * 8 + b * 2) : f.cells[i]? = some (f.b1 a b) := by
  subst hi
  rw [f.at_ (by omega)]
  unfold Fo.cell
  rw [if_neg (by omega), if_neg (by omega), if_neg (by omega), if_pos (by omega), if_pos (by omega), show (17 + a * 8 + b * 2 - 17) / 8 = a by omega, show (17 + a * 8 + b * 2 - 17) / 2 % 4 = b by omega]
theorem Fo.b2_at (f : Fo) {a b i : Nat} (ha : a ≤ 3) (hb : b ≤ 3) (hi : i = 17 + a * 8 + b * 2 + 1) : f.cells[i]? = some (f.b2 a b) := by
  subst hi
  rw [f.at_ (by omega)]
  unfold Fo.cell
  rw [if_neg (by omega), if_neg (by omega), if_neg (by omega), if_pos (by omega), if_neg (by omega), show (17 + a * 8 + b * 2 + 1 - 17) / 8 = a by omega, show (17 + a * 8 + b * 2 + 1 - 17) / 2 % 4 = b by omega]
theorem Fo.told_at (f : Fo) {u t y i : Nat} (hu : u ≤ 3) (ht : t ≤ 3) (hy : y ≤ 2) (hi : i = 49 + u * 12 + t * 3 + y) : f.cells[i]? = some (.int .i64 (f.told u t y)) := by
  subst hi
  rw [f.at_ (by omega)]
  unfold Fo.cell
  rw [if_neg (by omega), if_neg (by omega), if_neg (by omega), if_neg (by omega), show (49 + u * 12 + t * 3 + y - 49) / 12 = u by omega, show (49 + u * 12 + t * 3 + y - 49) / 3 % 4 = t by omega, show (49 + u * 12 + t * 3 + y - 49) % 3 = y by omega]
def Fo.setOwn (f : Fo) (v x : Nat) (n : Int) : Fo := { f with own := fun a b => if a = v ∧ b = x then n else f.own a b }
def Fo.setRoot (f : Fo) (v : Nat) (n : Int) : Fo := { f with root := fun a => if a = v then n else f.root a }
def Fo.setPrs (f : Fo) (n : Int) : Fo := { f with prs := n }
def Fo.setB1 (f : Fo) (u t : Nat) (v1 : Value) : Fo := { f with b1 := fun a b => if a = u ∧ b = t then v1 else f.b1 a b }
def Fo.setB2 (f : Fo) (u t : Nat) (v2 : Value) : Fo := { f with b2 := fun a b => if a = u ∧ b = t then v2 else f.b2 a b }
def Fo.setTold (f : Fo) (u t y : Nat) (n : Int) : Fo := { f with told := fun a b c => if a = u ∧ b = t ∧ c = y then n else f.told a b c }
theorem Fo.own_put (f : Fo) {v x i : Nat} (hv : v ≤ 3) (hx : x ≤ 2) (hi : i = v * 3 + x) (n : Int) : f.cells.setIfInBounds i (.int .i64 n) = (f.setOwn v x n).cells := by
  refine Fo.put fun j hj => ?_
  unfold Fo.cell Fo.setOwn
  dsimp only
  by_cases h12 : j < 12
  · rw [if_pos h12, if_pos h12]
    by_cases e : j = i
    · rw [if_pos e, if_pos (by omega)]
    · rw [if_neg e, if_neg (by omega)]
  · rw [if_neg h12, if_neg h12, if_neg (show ¬ j = i by omega)]
theorem Fo.root_put (f : Fo) {v i : Nat} (hv : v ≤ 3) (hi : i = 12 + v) (n : Int) : f.cells.setIfInBounds i (.int .i64 n) = (f.setRoot v n).cells := by
  refine Fo.put fun j hj => ?_
  unfold Fo.cell Fo.setRoot
  dsimp only
  by_cases h12 : j < 12
  · rw [if_pos h12, if_pos h12, if_neg (by omega)]
  · rw [if_neg h12, if_neg h12]
    by_cases h16 : j < 16
    · rw [if_pos h16, if_pos h16]
      by_cases e : j = i
      · rw [if_pos e, if_pos (by omega)]
      · rw [if_neg e, if_neg (by omega)]
    · rw [if_neg h16, if_neg h16, if_neg (show ¬ j = i by omega)]
theorem Fo.prs_put (f : Fo) (n : Int) : f.cells.setIfInBounds 16 (.int .i64 n) = (f.setPrs n).cells := by
  refine Fo.put fun j hj => ?_
  unfold Fo.cell Fo.setPrs
  dsimp only
  by_cases e : j = 16
  · subst e
    rfl
  · rw [if_neg e, if_neg e, if_neg e]
theorem Fo.b1_put (f : Fo) {u t i : Nat} (hu : u ≤ 3) (ht : t ≤ 3) (hi : i = 17 + u * 8 + t * 2) (v : Value) : f.cells.setIfInBounds i v = (f.setB1 u t v).cells := by
  refine Fo.put fun j hj => ?_
  unfold Fo.cell Fo.setB1
  dsimp only
  by_cases h12 : j < 12
  · rw [if_pos h12, if_pos h12, if_neg (by omega)]
  rw [if_neg h12, if_neg h12]
  by_cases h16 : j < 16
  · rw [if_pos h16, if_pos h16, if_neg (by omega)]
  rw [if_neg h16, if_neg h16]
  by_cases h17 : j = 16
  · rw [if_pos h17, if_pos h17, if_neg (by omega)]
  rw [if_neg h17, if_neg h17]
  by_cases h49 : j < 49
  · rw [if_pos h49, if_pos h49]
    by_cases hm : (j - 17) % 2 = 0
    · rw [if_pos hm, if_pos hm]
      by_cases e : j = i
      · rw [if_pos e, if_pos (by omega)]
      · rw [if_neg e, if_neg (by omega)]
    · rw [if_neg hm, if_neg hm, if_neg (by omega)]
  · rw [if_neg h49, if_neg h49, if_neg (by omega)]
theorem Fo.b2_put (f : Fo) {u t i : Nat} (hu : u ≤ 3) (ht : t ≤ 3) (hi : i = 17 + u * 8 + t * 2 + 1) (v : Value) : f.cells.setIfInBounds i v = (f.setB2 u t v).cells := by
  refine Fo.put fun j hj => ?_
  unfold Fo.cell Fo.setB2
  dsimp only
  by_cases h12 : j < 12
  · rw [if_pos h12, if_pos h12, if_neg (by omega)]
  rw [if_neg h12, if_neg h12]
  by_cases h16 : j < 16
  · rw [if_pos h16, if_pos h16, if_neg (by omega)]
  rw [if_neg h16, if_neg h16]
  by_cases h17 : j = 16
  · rw [if_pos h17, if_pos h17, if_neg (by omega)]
  rw [if_neg h17, if_neg h17]
  by_cases h49 : j < 49
  · rw [if_pos h49, if_pos h49]
    by_cases hm : (j - 17) % 2 = 0
    · rw [if_pos hm, if_pos hm, if_neg (by omega)]
    · rw [if_neg hm, if_neg hm]
      by_cases e : j = i
      · rw [if_pos e, if_pos (by omega)]
      · rw [if_neg e, if_neg (by omega)]
  · rw [if_neg h49, if_neg h49, if_neg (by omega)]
theorem Fo.told_put (f : Fo) {u t y i : Nat} (hu : u ≤ 3) (ht : t ≤ 3) (hy : y ≤ 2) (hi : i = 49 + u * 12 + t * 3 + y) (n : Int) : f.cells.setIfInBounds i (.int .i64 n) = (f.setTold u t y n).cells := by
  refine Fo.put fun j hj => ?_
  unfold Fo.cell Fo.setTold
  dsimp only
  by_cases h12 : j < 12
  · rw [if_pos h12, if_pos h12, if_neg (by omega)]
  rw [if_neg h12, if_neg h12]
  by_cases h16 : j < 16
  · rw [if_pos h16, if_pos h16, if_neg (by omega)]
  rw [if_neg h16, if_neg h16]
  by_cases h17 : j = 16
  · rw [if_pos h17, if_pos h17, if_neg (by omega)]
  rw [if_neg h17, if_neg h17]
  by_cases h49 : j < 49
  · rw [if_pos h49, if_pos h49, if_neg (show ¬ j = i by omega)]
  rw [if_neg h49, if_neg h49]
  by_cases e : j = i
  · have e1 : (j - 49) / 12 = u := by omega
    have e2 : (j - 49) / 3 % 4 = t := by omega
    have e3 : (j - 49) % 3 = y := by omega
    rw [if_pos e, if_pos ⟨e1, e2, e3⟩]
  · rw [if_neg e, if_neg (fun q => e (by omega))]
/-- A forest lies in a block. -/
def FoW (w : World) (G : Nat) (f : Fo) : Prop := Has w G 102 f.cells
theorem FoW.own_cell {w : World} {G : Nat} {f : Fo} (h : FoW w G f) {v x i : Nat} (hv : v ≤ 3) (hx : x ≤ 2) (hi : i = v * 3 + x) : w.cell? ⟨G, i, none⟩ = some (.int .i64 (f.own v x)) := (Has.cell h i).trans (f.own_at hv hx hi)
theorem FoW.root_cell {w : World} {G : Nat} {f : Fo} (h : FoW w G f) {v i : Nat} (hv : v ≤ 3) (hi : i = 12 + v) : w.cell? ⟨G, i, none⟩ = some (.int .i64 (f.root v)) := (Has.cell h i).trans (f.root_at hv hi)
theorem FoW.prs_cell {w : World} {G : Nat} {f : Fo} (h : FoW w G f) : w.cell? ⟨G, 16, none⟩ = some (.int .i64 f.prs) := (Has.cell h 16).trans f.prs_at
theorem FoW.told_cell {w : World} {G : Nat} {f : Fo} (h : FoW w G f) {u t y i : Nat} (hu : u ≤ 3) (ht : t ≤ 3) (hy : y ≤ 2) (hi : i = 49 + u * 12 + t * 3 + y) : w.cell? ⟨G, i, none⟩ = some (.int .i64 (f.told u t y)) := (Has.cell h i).trans (f.told_at hu ht hy hi)
theorem FoW.own_set {w : World} {G : Nat} {f : Fo} (h : FoW w G f) {v x i : Nat} (hv : v ≤ 3) (hx : x ≤ 2) (hi : i = v * 3 + x) (n : Int) : FoW (w.setCell ⟨G, i, none⟩ (.int .i64 n)) G (f.setOwn v x n) := by
  unfold FoW
  rw [← f.own_put hv hx hi n]
  exact Has.put h i _
theorem FoW.root_set {w : World} {G : Nat} {f : Fo} (h : FoW w G f) {v i : Nat} (hv : v ≤ 3) (hi : i = 12 + v) (n : Int) : FoW (w.setCell ⟨G, i, none⟩ (.int .i64 n)) G (f.setRoot v n) := by
  unfold FoW
  rw [← f.root_put hv hi n]
  exact Has.put h i _
theorem FoW.prs_set {w : World} {G : Nat} {f : Fo} (h : FoW w G f) (n : Int) : FoW (w.setCell ⟨G, 16, none⟩ (.int .i64 n)) G (f.setPrs n) := by
  unfold FoW
  rw [← f.prs_put n]
  exact Has.put h 16 _
theorem FoW.b1_set {w : World} {G : Nat} {f : Fo} (h : FoW w G f) {u t i : Nat} (hu : u ≤ 3) (ht : t ≤ 3) (hi : i = 17 + u * 8 + t * 2) (v : Value) : FoW (w.setCell ⟨G, i, none⟩ v) G (f.setB1 u t v) := by
  unfold FoW
  rw [← f.b1_put hu ht hi v]
  exact Has.put h i _
theorem FoW.b2_set {w : World} {G : Nat} {f : Fo} (h : FoW w G f) {u t i : Nat} (hu : u ≤ 3) (ht : t ≤ 3) (hi : i = 17 + u * 8 + t * 2 + 1) (v : Value) : FoW (w.setCell ⟨G, i, none⟩ v) G (f.setB2 u t v) := by
  unfold FoW
  rw [← f.b2_put hu ht hi v]
  exact Has.put h i _
theorem FoW.told_set {w : World} {G : Nat} {f : Fo} (h : FoW w G f) {u t y i : Nat} (hu : u ≤ 3) (ht : t ≤ 3) (hy : y ≤ 2) (hi : i = 49 + u * 12 + t * 3 + y) (n : Int) : FoW (w.setCell ⟨G, i, none⟩ (.int .i64 n)) G (f.setTold u t y n) := by
  unfold FoW
  rw [← f.told_put hu ht hy hi n]
  exact Has.put h i _
theorem FoW.kept {w w' : World} {G : Nat} {f : Fo} (h : FoW w G f) (hb : Below w.heap.size w w') : FoW w' G f := Has.kept h hb
theorem FoW.alloc {w : World} {G : Nat} {f : Fo} (h : FoW w G f) (o : Obj) : FoW (w.alloc o) G f := Has.alloc h o
theorem FoW.but {w w' : World} {G : Nat} {f : Fo} {S : Nat → Prop} (h : FoW w G f) (hk : KeptBut w w' S) (hn : ¬ S G) : FoW w' G f := Has.but h hk hn
/-- Two forests of the same cells. -/
theorem Fo.same {f f' : Fo} (h1 : ∀ v x, v ≤ 3 → x ≤ 2 → f.own v x = f'.own v x) (h2 : ∀ v, v ≤ 3 → f.root v = f'.root v) (h3 : f.prs = f'.prs) (h4 : ∀ a b, a ≤ 3 → b ≤ 3 → f.b1 a b = f'.b1 a b ∧ f.b2 a b = f'.b2 a b) (h5 : ∀ u t y, u ≤ 3 → t ≤ 3 → y ≤ 2 → f.told u t y = f'.told u t y) : f.cells = f'.cells := by
  refine Fo.ext fun i hi => ?_
  unfold Fo.cell
  split
  · rw [h1 _ _ (by omega) (by omega)]
  split
  · rw [h2 _ (by omega)]
  split
  · rw [h3]
  split
  · split
    · exact (h4 _ _ (by omega) (by omega)).1
    · exact (h4 _ _ (by omega) (by omega)).2
  · rw [h5 _ _ _ (by omega) (by omega) (by omega)]
end Go.Proofs.Ytghkpmafocacoaa

namespace Go.Proofs.Ytghkpmafocacoaa
set_option maxRecDepth 100000
set_option linter.unusedVariables false
open Go.RowKit
/-- The set of those next to one. -/
def nxI (g : Gr) (v : Int) : Int := if inB v 0 3 = true then (g.nx v.toNat : Int) else 0
theorem nx_bits (g : Gr) : bits .and .i64 (g.prs : Int) 15 = (g.nx 0 : Int) ∧ bits .and .i64 ((g.prs : Int) / 16) 15 = (g.nx 1 : Int) ∧ bits .and .i64 ((g.prs : Int) / 256) 15 = (g.nx 2 : Int) ∧ bits .and .i64 ((g.prs : Int) / 4096) 15 = (g.nx 3 : Int) :=
  gr_all (P := fun g => bits .and .i64 (g.prs : Int) 15 = (g.nx 0 : Int) ∧ bits .and .i64 ((g.prs : Int) / 16) 15 = (g.nx 1 : Int) ∧ bits .and .i64 ((g.prs : Int) / 256) 15 = (g.nx 2 : Int) ∧ bits .and .i64 ((g.prs : Int) / 4096) 15 = (g.nx 3 : Int)) (by decide +kernel) g
theorem nxI_bd (g : Gr) (v : Int) : 0 ≤ nxI g v ∧ nxI g v ≤ 15 := by
  unfold nxI
  split
  · rename_i h
    have h1 := inB_iff.1 h
    have := (prs_row g ⟨v.toNat, by omega⟩).2.2.1
    simp only at this
    omega
  · decide
theorem nextTo_any (G : Nat) (f : Fo) (g : Gr) (v : Int) (w : World) (h : FoW w G f) (hp : f.prs = (g.prs : Int)) :
    Calls Try.prog 90 #[.pointer (some ⟨G, 0, none⟩), .int .i64 v] w fun e w' => e = .returned (.int .i64 (nxI g v)) ∧ w = w' := by
  have c16 := h.prs_cell
  rw [hp] at c16
  have hnb := Lib.hid (nx_bits g)
  have hpb := (prs_row g 0).1
  have cV := Lib.hid (fun wx => varOk_any v wx)
  generalize g.prs = p at *
  clear h hp
  rcases inB_cases v 0 3 with ⟨h1, h2, hr⟩ | ⟨h1, hr⟩
  · have hR := Lib.hid (show nxI g v = (g.nx v.toNat : Int) by unfold nxI; rw [if_pos hr])
    rw [hr] at cV
    obtain ⟨k, rfl, hk⟩ := nat4 h1 h2
    obtain rfl | rfl | rfl | rfl : k = 0 ∨ k = 1 ∨ k = 2 ∨ k = 3 := by omega
    all_goals
      go_enter Try.func90, Try.ntmps90
      go_wp2_with (go_at_call 97; refine (cV.out _).mono ?_; rintro e w' ⟨rfl, rfl⟩)
      go_ret
      first
        | exact ⟨ret_int (hR.out.trans hnb.out.1.symm), rfl⟩
        | exact ⟨ret_int (hR.out.trans hnb.out.2.1.symm), rfl⟩
        | exact ⟨ret_int (hR.out.trans hnb.out.2.2.1.symm), rfl⟩
        | exact ⟨ret_int (hR.out.trans hnb.out.2.2.2.symm), rfl⟩
  · have hR := Lib.hid (show nxI g v = 0 by unfold nxI; rw [hr]; rfl)
    rw [hr] at cV
    go_enter Try.func90, Try.ntmps90
    go_wp2_with (go_at_call 97; refine (cV.out _).mono ?_; rintro e w' ⟨rfl, rfl⟩)
    go_ret
    exact ⟨ret_int hR.out, rfl⟩
theorem pairBit_any (a b : Fin 4) (w : World) :
    Calls Try.prog 188 #[.int .i64 (a.val : Int), .int .i64 (b.val : Int)] w fun e w' => e = .returned (.int .i64 ((2 ^ (4 * a.val + b.val) : Nat) : Int)) ∧ w = w' := by
  obtain ⟨a, ha⟩ := a
  obtain ⟨b, hb⟩ := b
  obtain rfl | rfl | rfl | rfl : a = 0 ∨ a = 1 ∨ a = 2 ∨ a = 3 := by omega
  all_goals obtain rfl | rfl | rfl | rfl : b = 0 ∨ b = 1 ∨ b = 2 ∨ b = 3 := by omega
  all_goals
    go_enter Try.func188, Try.ntmps188
    go_wp2
    go_ret
    exact ⟨rfl, rfl⟩
theorem has_far_setCells_ {g b : Nat} {t : TypeId} {cs : Array Value} (hne : g ≠ b) : ∀ (vs : List Value) (o : Nat) (w : World), Has w g t cs → Has (w.setCells b o vs) g t cs
  | [], _, _, h => h
  | u :: r, o, w, h => has_far_setCells_ hne r (o + 1) _ (h.far (p := ⟨b, o, none⟩) hne u)
theorem setCells_below {G base : Nat} (hG : base ≤ G) : ∀ (vs : List Value) (o : Nat) {w w' : World}, Below base w w' → Below base w (w'.setCells G o vs)
  | [], _, _, _, h => h
  | u :: r, o, _, _, h => setCells_below hG r (o + 1) (h.setCell (p := ⟨G, o, none⟩) hG u)
/-- A whole forest stored. -/
theorem FoW.fill {w : World} {G : Nat} {f f' : Fo} (h : FoW w G f) : FoW (w.setCells G 0 f'.cells.toList) G f' := by
  obtain ⟨cs', h1, h2, h3, _⟩ := has_setCells_ f'.cells.toList 0 w f.cells h (by rw [f'.len, f.size]; exact Nat.le_refl _)
  have : cs' = f'.cells := by
    apply Array.ext_getElem?
    intro q
    by_cases hq : q < 97
    · have := h3 q (f'.cell q) (by rw [Array.getElem?_toList]; exact f'.at_ hq)
      rw [Nat.zero_add] at this
      rw [this, f'.at_ hq]
    · rw [Array.getElem?_eq_none (by rw [h2, f.size]; omega), Array.getElem?_eq_none (by rw [f'.size]; omega)]
  subst this
  exact h1
theorem FoW.range {w : World} {G : Nat} {f : Fo} (h : FoW w G f) : w.rangeAt G 0 f.cells.toList := has_range_ h (fun j v hv => by rw [Nat.zero_add]; simpa using hv)
theorem FoW.room {w : World} {G : Nat} {f : Fo} (h : FoW w G f) : w.there G 0 97 := has_there_ h (by rw [f.size]; exact Nat.le_refl _)
def fz : Fo := ⟨fun _ _ => 0, fun _ => 0, 0, fun _ _ => .slice none 0 0, fun _ _ => .slice none 0 0, fun _ _ _ => 0⟩
theorem info_forest : (Try.prog.info? 102).map (fun i => (i.zero, i.size)) = some (some (.agg fz.cells), 97) := by kernel_rfl
theorem Fo.one (f : Fo) (h : ∀ a b, (f.b1 a b).oneCell' = true ∧ (f.b2 a b).oneCell' = true) : f.cells.all (·.oneCell') = true := by
  have : f.cells = f.cells.toList.toArray := by simp
  rw [this]
  refine all_oneCell_toArray fun v hv => ?_
  unfold Fo.cells at hv
  rw [List.toList_toArray] at hv
  obtain ⟨i, _, rfl⟩ := List.mem_map.1 hv
  unfold Fo.cell
  split
  · rfl
  split
  · rfl
  split
  · rfl
  split
  · split
    · exact (h _ _).1
    · exact (h _ _).2
  · rfl
theorem FoW.ownRow_ {w : World} {G : Nat} {f : Fo} (h : FoW w G f) {v : Nat} (hv : v ≤ 3) (a b c : Int) : FoW (((w.setCell ⟨G, v * 3, none⟩ (.int .i64 a)).setCell ⟨G, v * 3 + 1, none⟩ (.int .i64 b)).setCell ⟨G, v * 3 + 2, none⟩ (.int .i64 c)) G (((f.setOwn v 0 a).setOwn v 1 b).setOwn v 2 c) :=
  ((h.own_set hv (by decide) (i := v * 3) rfl a).own_set hv (by decide) (i := v * 3 + 1) rfl b).own_set hv (by decide) (i := v * 3 + 2) rfl c
/-- The forest of no factors, as far as it is laid. -/
def bF (k : Nat) : Fo := { fz with own := fun v _ => if v < k then 1 else 0, root := fun v => if v < k then (v : Int) else 0 }
set_option maxHeartbeats 1000000 in
theorem bareForest_any (w : World) : Calls Try.prog 139 #[] w fun e w' => e = .returned (.agg (bF 4).cells) ∧ Below w.heap.size w w' := by
  obtain ⟨hzero, hsize⟩ := zero_of_info (P := Try.prog) info_forest
  have hz0 : fz.cells = (bF 0).cells := Fo.same (fun v x _ _ => rfl) (fun v _ => rfl) rfl (fun a b _ _ => ⟨rfl, rfl⟩) (fun _ _ _ _ _ _ => rfl)
  have hB0 : Below w.heap.size w ((w.alloc (.cells fz.cells 102)).alloc (.cells fz.cells 102)) := ((Below.refl _ _).alloc (Nat.le_refl _) _).alloc (by simp) _
  have hH0 : FoW ((w.alloc (.cells fz.cells 102)).alloc (.cells fz.cells 102)) w.heap.size fz := (Has.new w 102 fz.cells).alloc _
  have hH1 : FoW ((w.alloc (.cells fz.cells 102)).alloc (.cells fz.cells 102)) (w.heap.size + 1) (bF 0) := by
    have := Has.new (w.alloc (.cells fz.cells 102)) 102 fz.cells
    unfold FoW
    rw [← hz0]
    simpa using this
  have hsz := Lib.hid hsize
  have hB0' := Lib.hid hB0
  have hH0' := Lib.hid hH0
  have hH1' := Lib.hid hH1
  clear hsize hB0 hH0 hH1 hz0
  generalize hzc : fz.cells = zc at hzero hB0' hH0' hH1'
  clear hzc
  go_enter Try.func139, Try.ntmps139
  go_wp2_with fail
  clear hzero
  generalize hGG : w.heap.size = G at hB0' hH0' hH1' ⊢
  generalize (w.alloc (.cells zc 102)).alloc (.cells zc 102) = W at hB0' hH0' hH1' ⊢
  go_loopg [2] 4 (fun gn v wr => ∃ (k : Nat), k ≤ 4 ∧ gn = 4 - k ∧ v = .int .i64 k ∧ FoW wr G fz ∧ FoW wr (G + 1) (bF k) ∧ Below G w wr)
  case atStart => exact ⟨0, by omega, rfl, rfl, hH0'.out, hH1'.out, hB0'.out⟩
  case round =>
    obtain ⟨k, hk, hgn, rfl, hH0, hH1, hB⟩ := hrel
    have hgk : gk = 4 - k := hgn
    clear hgn
    by_cases hlt : k < 4
    · have hk0 : (0 : Int) ≤ (k : Int) := by omega
      have hk1 : (k : Int) < 4 := by omega
      have hW1 := Lib.hid (hH1.ownRow_ (v := k) (by omega) 1 1 1)
      have hW0 := Lib.hid (((hH0.far (p := ⟨G + 1, k * 3, none⟩) (by show G ≠ G + 1; omega) (.int .i64 1)).far (p := ⟨G + 1, k * 3 + 1, none⟩) (by show G ≠ G + 1; omega) (.int .i64 1)).far (p := ⟨G + 1, k * 3 + 2, none⟩) (by show G ≠ G + 1; omega) (.int .i64 1))
      have hBn := Lib.hid (((hB.setCell (p := ⟨G + 1, k * 3, none⟩) (by show G ≤ G + 1; omega) (.int .i64 1)).setCell (p := ⟨G + 1, k * 3 + 1, none⟩) (by show G ≤ G + 1; omega) (.int .i64 1)).setCell (p := ⟨G + 1, k * 3 + 2, none⟩) (by show G ≤ G + 1; omega) (.int .i64 1))
      have hc0 := hH1.own_cell (v := k) (x := 0) (by omega) (by decide) (i := k * 3) rfl
      have hc1 := hH1.own_cell (v := k) (x := 1) (by omega) (by decide) rfl
      have hc2 := hH1.own_cell (v := k) (x := 2) (by omega) (by decide) rfl
      have hf0 := Has.frozen hH1
      have hcr := hW1.out.root_cell (v := k) (by omega) rfl
      have hfr := Has.frozen hW1.out
      have hE := Lib.hid (Fo.same (f := (((((bF k).setOwn k 0 1).setOwn k 1 1).setOwn k 2 1).setRoot k k)) (f' := bF (k + 1)) (fun v x hv hx => by
        show (if v = k ∧ x = 2 then (1 : Int) else if v = k ∧ x = 1 then 1 else if v = k ∧ x = 0 then 1 else if v < k then 1 else 0) = if v < k + 1 then 1 else 0
        by_cases h1 : v = k
        · rw [if_pos (show v < k + 1 by omega)]
          split
          · rfl
          split
          · rfl
          rw [if_pos (by omega)]
        · rw [if_neg (fun q => h1 q.1), if_neg (fun q => h1 q.1), if_neg (fun q => h1 q.1)]
          by_cases h2 : v < k
          · rw [if_pos h2, if_pos (by omega)]
          · rw [if_neg h2, if_neg (by omega)]) (fun v hv => by
        show (if v = k then (k : Int) else if v < k then (v : Int) else 0) = if v < k + 1 then (v : Int) else 0
        by_cases h1 : v = k
        · rw [if_pos h1, if_pos (by omega), h1]
        · rw [if_neg h1]
          by_cases h2 : v < k
          · rw [if_pos h2, if_pos (by omega)]
          · rw [if_neg h2, if_neg (by omega)]) rfl (fun a b _ _ => ⟨rfl, rfl⟩) (fun _ _ _ _ _ _ => rfl))
      have hW2 := Lib.hid (hW1.out.root_set (v := k) (by omega) rfl (k : Int))
      have hW02 := Lib.hid (hW0.out.far (p := ⟨G + 1, 12 + k, none⟩) (by show G ≠ G + 1; omega) (.int .i64 k))
      have hBn2 := Lib.hid (hBn.out.setCell (p := ⟨G + 1, 12 + k, none⟩) (by show G ≤ G + 1; omega) (.int .i64 k))
      clear hH0 hH1 hB
      go_wp2_with fail
      go_roundg (4 - (k + 1))
      case measure => omega
      case rel => exact ⟨k + 1, by omega, rfl, by go_num, hW02.out, by unfold FoW; rw [← hE.out]; exact hW2.out, hBn2.out⟩
    · obtain rfl : k = 4 := by omega
      have hone := Lib.hid (Fo.one (bF 4) (fun a b => ⟨rfl, rfl⟩))
      have hR1 := Lib.hid hH1.range
      have hT1 := Lib.hid (show wr.there G 0 (bF 4).cells.size from by rw [Fo.size]; exact hH0.room)
      have hZ1 := Lib.hid (show (Try.prog.info? 102).map (·.size) = some (bF 4).cells.toList.length from by rw [hsz.out, Fo.len])
      have hZ2 := Lib.hid (show (Try.prog.info? 102).map (·.size) = some (bF 4).cells.size from by rw [hsz.out, Fo.size])
      have hF1 := Lib.hid (FoW.fill (f' := bF 4) hH0)
      have hBn := Lib.hid (setCells_below (Nat.le_refl G) (bF 4).cells.toList 0 hB)
      have hlv := Lib.hid (run_loadVar_row (P := Try.prog) _ G 102 102 (bF 4).cells (0, 0) _ hF1.out Try.underlying102 rfl hZ2.out)
      clear hH0 hH1 hB
      generalize hcq : (bF 4).cells = cs at hone hR1 hT1 hZ1 hZ2 hF1 hBn hlv ⊢
      have hcs := Lib.hid hcq
      clear hcq
      go_wp2_with (first
        | (refine wpList_load_mid rfl 102 (.tmp 1) rfl (G + 1) 0 (by simp [Act.eval]) cs.toList _ hR1.out Try.underlying102 rfl hZ1.out ?_)
        | (refine wpList_store_mid rfl 102 (.tmp 0) (.tmp 15) rfl G 0 cs (by rfl) (by rfl) hT1.out hZ2.out hone.out ?_))
      refine bodyPost_ret (v := .agg cs) (by rw [results_cell_ rfl]; simp [asAddr, Result.andThen, Act.put, hlv.out]) rfl ?_
      rw [hGG, hcs.out]
      exact ⟨rfl, hBn.out⟩
end Go.Proofs.Ytghkpmafocacoaa
