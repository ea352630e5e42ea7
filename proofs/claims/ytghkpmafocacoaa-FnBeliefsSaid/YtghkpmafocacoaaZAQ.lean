/- Parts of the proof: KP, KD, KE, KF, KG, KQ, MA, L2, L3. -/
import Derived.Test.YtghkpmafocacoaaZAP
import Derived.Test.YtghkpmafocacoaaZAM
import Derived.Test.YtghkpmafocacoaaZAC
import Derived.Deep.MidRow
import Derived.Deep.WholeRow
import Derived.Test.YtghkpmafocacoaaZAG
import Derived.Laws.CopyOwn
import Derived.Test.YtghkpmafocacoaaZAJ
namespace Go.Proofs.Ytghkpmafocacoaa
set_option maxRecDepth 100000
set_option linter.unusedVariables false
open Go.RowKit
theorem fold_mul (st : Int) : ∀ (l : List Fac) (m : Int), l.foldl (fun m F => m * fAt F st) m = m * l.foldl (fun m F => m * fAt F st) 1
  | [], m => by show m = m * 1; omega
  | F :: r, m => by
    rw [List.foldl_cons, List.foldl_cons, fold_mul st r (m * fAt F st), fold_mul st r (1 * fAt F st), Int.one_mul, Int.mul_assoc]
theorem wcInts_eq (A A2 : Option Addr) (n n2 c c2 : Nat) (ds es : List Int) (w : World) (h : Ils w w.heap.size A n ds) (h2 : Ils w w.heap.size A2 n2 es) (hn : n ≤ maxLen) (hn2 : n2 ≤ maxLen) (he : ds = es) :
    Calls Try.prog 46 #[.slice A n c, .slice A2 n2 c2] w fun e w' => e = .returned (.bool true) ∧ Below w.heap.size w w' :=
  (wcInts_any A A2 n n2 c c2 ds es w h h2 hn hn2).mono fun e w' ⟨h1, q, h3⟩ => ⟨by rw [h1, decide_eq_true he], by rw [h3]; exact below_drewN (Below.refl _ _) q⟩
/-- A row of factors of the call's own whose numbers are elder ones. -/
def Bk (w : World) (b : Nat) (v : Value) (Fs : List Fac) (vs : List Value) : Prop :=
  w.ownsRow b 56 2 v Fs.length vs ∧ ∀ j F, Fs[j]? = some F → ∃ (A1 : Option Addr) (n1 c1 : Nat) (A2 : Option Addr) (n2 c2 : Nat), vs[j * 2]? = some (.slice A1 n1 c1) ∧ vs[j * 2 + 1]? = some (.slice A2 n2 c2) ∧ FacW w b A1 n1 A2 n2 F
theorem Bk.length {w : World} {b : Nat} {v : Value} {Fs : List Fac} {vs : List Value} (h : Bk w b v Fs vs) : vs.length = Fs.length * 2 := h.1.1
theorem Bk.form {w : World} {b : Nat} {v : Value} {Fs : List Fac} {vs : List Value} (h : Bk w b v Fs vs) : ∃ A c, v = .slice A Fs.length c ∧ Fs.length ≤ c ∧ c ≤ maxLen := by
  rcases h.1.2 with ⟨hv, hn⟩ | ⟨g, cap, cur, hv, _, _, h1, h2, _⟩
  · exact ⟨none, 0, by rw [hv, hn], by omega, by simp [maxLen]⟩
  · exact ⟨_, cap, hv, h1, h2⟩
theorem Bk.flst {w : World} {b n c : Nat} {A : Option Addr} {Fs : List Fac} {vs : List Value} (h : Bk w b (.slice A n c) Fs vs) (hn : Fs.length = n) (hb : b ≤ w.heap.size) : FLst w w.heap.size A n Fs := by
  refine ⟨hn, fun h0 => ?_⟩
  obtain ⟨g, hA⟩ : ∃ g, A = some ⟨g, 0, none⟩ := by
    rcases h.1.2 with ⟨hv, h9⟩ | ⟨g', cap, cur, hv, _⟩
    · injection hv; omega
    · injection hv with e1 _ _; exact ⟨g', e1⟩
  subst hA
  refine ⟨g, 0, rfl, (World.ownsRow.lt h.1 g rfl).2, fun k F hF => ?_⟩
  obtain ⟨A1, n1, c1, A2, n2, c2, h1, h2, h3⟩ := h.2 k F hF
  have e1 := World.ownsRow.cells h.1 (g := g) rfl _ _ h1
  have e2 := World.ownsRow.cells h.1 (g := g) rfl _ _ h2
  rw [cell_add] at e1 e2
  rw [Nat.zero_add]
  exact ⟨A1, n1, c1, A2, n2, c2, e1, e2, h3.more hb⟩
theorem Bk.append_ {w w' : World} {b m1 d1 m2 d2 : Nat} {D1 D2 : Option Addr} {v v' : Value} {Fs : List Fac} {vs : List Value} {F : Fac} (h : Bk w b v Fs vs) (hx : FacW w b D1 m1 D2 m2 F)
    (hN : w'.ownsRow b 56 2 v' (Fs.length + 1) (vs ++ [.slice D1 m1 d1, .slice D2 m2 d2])) (hb : Below b w w') : Bk w' b v' (Fs ++ [F]) (vs ++ [.slice D1 m1 d1, .slice D2 m2 d2]) := by
  refine ⟨by rw [List.length_append, List.length_singleton]; exact hN, fun j G hG => ?_⟩
  have hl := h.length
  by_cases hj : j < Fs.length
  · rw [List.getElem?_append_left hj] at hG
    obtain ⟨A1, n1, c1, A2, n2, c2, h1, h2, h3⟩ := h.2 j G hG
    exact ⟨A1, n1, c1, A2, n2, c2, by rw [List.getElem?_append_left (by omega)]; exact h1, by rw [List.getElem?_append_left (by omega)]; exact h2, h3.keep_ hb⟩
  · have hjl : j = Fs.length := by
      have := (List.getElem?_eq_some_iff.1 hG).1
      rw [List.length_append, List.length_singleton] at this
      omega
    subst hjl
    rw [List.getElem?_append_right (Nat.le_refl _), Nat.sub_self] at hG
    obtain rfl : F = G := by simpa using hG
    refine ⟨D1, m1, d1, D2, m2, d2, ?_, ?_, hx.keep_ hb⟩
    · rw [List.getElem?_append_right (by omega), hl, Nat.sub_self]; rfl
    · rw [List.getElem?_append_right (by omega), hl, Nat.add_sub_cancel_left]; rfl
theorem Bk.below {w w' : World} {b : Nat} {v : Value} {Fs : List Fac} {vs : List Value} (h : Bk w b v Fs vs) (hb : Below w.heap.size w w') (hbw : b ≤ w.heap.size) : Bk w' b v Fs vs :=
  ⟨owns_but h.1 (KeptBut.of_below hb (fun _ => False)) (fun _ _ e => e), fun j F hF => by
    obtain ⟨A1, n1, c1, A2, n2, c2, h1, h2, h3⟩ := h.2 j F hF
    exact ⟨A1, n1, c1, A2, n2, c2, h1, h2, h3.keep_ (hb.mono hbw)⟩⟩
end Go.Proofs.Ytghkpmafocacoaa

namespace Go.Proofs.Ytghkpmafocacoaa
set_option maxRecDepth 100000
set_option linter.unusedVariables false
open Go.RowKit
/-- The stride of a variable in a factor over a set. -/
def strL (L : Int) (v : Nat) : Int := if tb L v = true then ((3 ^ ((List.range v).filter fun u => tb L u).length : Nat) : Int) else 0
end Go.Proofs.Ytghkpmafocacoaa

namespace Go.Proofs.Ytghkpmafocacoaa
set_option maxRecDepth 100000
set_option linter.unusedVariables false
open Go.RowKit
def strA (v1 v2 : Value) (f : Nat → Int) : Array Value := #[v1, v2, .int .i64 (f 0), .int .i64 (f 1), .int .i64 (f 2), .int .i64 (f 3)]
theorem strA_size (v1 v2 : Value) (f : Nat → Int) : (strA v1 v2 f).size = 6 := rfl
end Go.Proofs.Ytghkpmafocacoaa

namespace Go.Proofs.Ytghkpmafocacoaa
set_option maxRecDepth 100000
set_option linter.unusedVariables false
open Go.RowKit
/-- Inner rows of factors. -/
def InnF (w : World) (base : Nat) (Fs : List Fac) (us : List Value) : Prop := us.length = Fs.length * 2 ∧ ∀ (i : Nat) (x : Value), us[i]? = some x → ∃ ds, (rowsF Fs)[i]? = some ds ∧ IOwn w base x ds
theorem InnF.nil (w : World) (base : Nat) : InnF w base [] [] := ⟨rfl, fun i x h => by simp at h⟩
theorem InnF.but {w w' : World} {base : Nat} {Fs : List Fac} {us : List Value} {S : Nat → Prop} (h : InnF w base Fs us) (hk : KeptBut w w' S) (hS : ∀ k cur, Has w k 3 cur → base ≤ k → (∃ x ∈ us, x.ownBlock = some k) → ¬ S k) : InnF w' base Fs us := ⟨h.1, fun i x hx => by
  obtain ⟨ds, hd, ho⟩ := h.2 i x hx
  refine ⟨ds, hd, ho.but hk fun k hkb => ?_⟩
  obtain ⟨cur, hc⟩ := owns_has ho hkb
  exact hS k cur hc (World.ownsRow.lt ho k hkb).1 ⟨x, List.mem_of_getElem? hx, hkb⟩⟩
theorem InnF.below {w w' : World} {base : Nat} {Fs : List Fac} {us : List Value} (h : InnF w base Fs us) (hb : Below w.heap.size w w') : InnF w' base Fs us := h.but (KeptBut.of_below hb (fun _ => False)) (fun _ _ _ _ _ e => e)
theorem InnF.at_ {w : World} {base k : Nat} {Fs : List Fac} {us : List Value} {F : Fac} (h : InnF w base Fs us) (hF : Fs[k]? = some F) : ∃ (A1 : Option Addr) (c1 : Nat) (A2 : Option Addr) (c2 : Nat), us[k * 2]? = some (.slice A1 F.vs.length c1) ∧ us[k * 2 + 1]? = some (.slice A2 F.ns.length c2) ∧ IOwn w base (.slice A1 F.vs.length c1) F.vs ∧ IOwn w base (.slice A2 F.ns.length c2) F.ns := by
  have hk := (List.getElem?_eq_some_iff.1 hF).1
  have hl := h.1
  obtain ⟨r1, r2⟩ := rowsF_get hF
  obtain ⟨x, hx⟩ : ∃ x, us[k * 2]? = some x := ⟨_, List.getElem?_eq_getElem (by omega)⟩
  obtain ⟨y, hy⟩ : ∃ y, us[k * 2 + 1]? = some y := ⟨_, List.getElem?_eq_getElem (by omega)⟩
  obtain ⟨ds, hds, hxo⟩ := h.2 _ x hx
  obtain ⟨es, hes, hyo⟩ := h.2 _ y hy
  obtain rfl : F.vs = ds := Option.some.inj (r1.symm.trans hds)
  obtain rfl : F.ns = es := Option.some.inj (r2.symm.trans hes)
  obtain ⟨A1, c1, rfl, _, _⟩ := IOwn.form hxo
  obtain ⟨A2, c2, rfl, _, _⟩ := IOwn.form hyo
  exact ⟨A1, c1, A2, c2, hx, hy, hxo, hyo⟩
/-- The cells of a list of factors as arrays. -/
def sflat : List Fac → List Value → List Value
  | F :: r, x :: y :: us => (strA x y (strL (setOf F.vs))).toList ++ sflat r us
  | _, _ => []
theorem sflat_len : ∀ (Fs : List Fac) (us : List Value), us.length = Fs.length * 2 → (sflat Fs us).length = Fs.length * 6
  | [], _, _ => by unfold sflat; rfl
  | F :: r, [], h => by simp at h
  | F :: r, [x], h => by simp at h; omega
  | F :: r, x :: y :: us, h => by
    have ih := sflat_len r us (by simp at h; omega)
    show ((strA x y (strL (setOf F.vs))).toList ++ sflat r us).length = (r.length + 1) * 6
    rw [List.length_append, ih]
    show 6 + r.length * 6 = (r.length + 1) * 6
    omega
theorem sflat_get : ∀ {Fs : List Fac} {us : List Value}, us.length = Fs.length * 2 → ∀ {k : Nat} {F : Fac} {x y : Value}, Fs[k]? = some F → us[k * 2]? = some x → us[k * 2 + 1]? = some y → ∀ j, j < 6 → (sflat Fs us)[k * 6 + j]? = (strA x y (strL (setOf F.vs)))[j]?
  | [], _, _, k, F, x, y, hF, _, _, _, _ => by simp at hF
  | G :: r, [], h, _, _, _, _, _, _, _, _, _ => by simp at h
  | G :: r, [a], h, _, _, _, _, _, _, _, _, _ => by simp at h; omega
  | G :: r, a :: b :: us, h, 0, F, x, y, hF, hx, hy, j, hj => by
    have e1 : G = F := by simpa using hF
    have e2 : a = x := by simpa using hx
    have e3 : b = y := by simpa using hy
    subst e1 e2 e3
    show ((strA a b (strL (setOf G.vs))).toList ++ sflat r us)[0 * 6 + j]? = _
    rw [Nat.zero_mul, Nat.zero_add, List.getElem?_append_left (by show j < 6; exact hj), Array.getElem?_toList]
  | G :: r, a :: b :: us, h, k + 1, F, x, y, hF, hx, hy, j, hj => by
    have ih := sflat_get (Fs := r) (us := us) (by simp at h; omega) (k := k) (F := F) (x := x) (y := y) (by simpa using hF)
      (by rw [show (k + 1) * 2 = k * 2 + 1 + 1 by omega] at hx; simpa using hx) (by rw [show (k + 1) * 2 + 1 = k * 2 + 1 + 1 + 1 by omega] at hy; simpa using hy) j hj
    show ((strA a b (strL (setOf G.vs))).toList ++ sflat r us)[(k + 1) * 6 + j]? = _
    rw [List.getElem?_append_right (by show 6 ≤ (k + 1) * 6 + j; omega), ← ih]
    congr 1
    show (k + 1) * 6 + j - 6 = _
    omega
theorem InnF.one {w : World} {base : Nat} {Fs : List Fac} {us : List Value} (h : InnF w base Fs us) : ∀ u ∈ us, u.oneCell' = true := fun u hu => by
  obtain ⟨i, hi, rfl⟩ := List.getElem_of_mem hu
  obtain ⟨ds, _, ho⟩ := h.2 i _ (List.getElem?_eq_getElem hi)
  obtain ⟨A, c, e, _, _⟩ := IOwn.form ho
  rw [e]; rfl
end Go.Proofs.Ytghkpmafocacoaa

namespace Go.Proofs.Ytghkpmafocacoaa
set_option maxRecDepth 100000
set_option linter.unusedVariables false
open Go.RowKit
/-- The first k places are filled in. -/
def FillS (cs : Array Value) (Fs : List Fac) (us : List Value) (n k : Nat) : Prop := cs.size = n * 6 ∧ ∀ i F x y, i < k → Fs[i]? = some F → us[i * 2]? = some x → us[i * 2 + 1]? = some y → ∀ j, j < 6 → cs[i * 6 + j]? = (strA x y (strL (setOf F.vs)))[j]?
theorem FillS.all {cs : Array Value} {Fs : List Fac} {us : List Value} {n : Nat} (h : FillS cs Fs us n n) (hn : Fs.length = n) (hu : us.length = Fs.length * 2) : cs.toList = sflat Fs us := by
  apply List.ext_getElem?
  intro z
  rw [Array.getElem?_toList]
  by_cases hz : z < n * 6
  · have hk : z / 6 < Fs.length := by omega
    have h1 := h.2 (z / 6) Fs[z / 6] us[z / 6 * 2] us[z / 6 * 2 + 1] (by omega) (List.getElem?_eq_getElem hk) (List.getElem?_eq_getElem (by omega)) (List.getElem?_eq_getElem (by omega)) (z % 6) (by omega)
    have h2 := sflat_get hu (k := z / 6) (List.getElem?_eq_getElem hk) (List.getElem?_eq_getElem (show z / 6 * 2 < us.length by omega)) (List.getElem?_eq_getElem (show z / 6 * 2 + 1 < us.length by omega)) (z % 6) (by omega)
    rw [show z / 6 * 6 + z % 6 = z by omega] at h1 h2
    rw [h1, h2]
  · rw [Array.getElem?_eq_none (by rw [h.1]; omega), List.getElem?_eq_none (by rw [sflat_len Fs us hu]; omega)]
theorem FillS.step {cs cs' : Array Value} {Fs : List Fac} {us : List Value} {n k : Nat} {F : Fac} {x y : Value} (h : FillS cs Fs us n k) (hu : us.length = k * 2) (hF : Fs[k]? = some F) (h1 : cs'.size = cs.size)
    (h2 : ∀ j v, (strA x y (strL (setOf F.vs))).toList[j]? = some v → cs'[k * 6 + j]? = some v) (h3 : ∀ i, (i < k * 6 ∨ k * 6 + 6 ≤ i) → cs'[i]? = cs[i]?) : FillS cs' Fs (us ++ [x, y]) n (k + 1) := by
  refine ⟨by rw [h1]; exact h.1, fun i G a b hi hG ha hb j hj => ?_⟩
  by_cases hik : i < k
  · rw [List.getElem?_append_left (by omega)] at ha hb
    rw [h3 _ (by omega)]
    exact h.2 i G a b hik hG ha hb j hj
  · obtain rfl : i = k := by omega
    rw [List.getElem?_append_right (by omega), hu, Nat.sub_self] at ha
    rw [List.getElem?_append_right (by omega), hu, show i * 2 + 1 - i * 2 = 1 by omega] at hb
    obtain rfl : x = a := by simpa using ha
    obtain rfl : y = b := by simpa using hb
    obtain rfl : F = G := Option.some.inj (hF.symm.trans hG)
    have hjs : j < (strA x y (strL (setOf F.vs))).size := by rw [strA_size]; exact hj
    rw [h2 j (strA x y (strL (setOf F.vs)))[j] (by rw [Array.getElem?_toList]; exact Array.getElem?_eq_getElem hjs), Array.getElem?_eq_getElem hjs]
end Go.Proofs.Ytghkpmafocacoaa

namespace Go.Proofs.Ytghkpmafocacoaa
set_option maxRecDepth 100000
set_option linter.unusedVariables false
open Go.RowKit
theorem prodAt_cons (F : Fac) (r : List Fac) (st : Int) : prodAt (F :: r) st = fAt F st * prodAt r st := by
  unfold prodAt
  rw [List.foldl_cons, fold_mul st r (1 * fAt F st), Int.one_mul]
theorem prodAt_part (p : Fac → Bool) (st : Int) : ∀ Fs, prodAt (Fs.filter p) st * prodAt (Fs.filter fun F => !p F) st = prodAt Fs st
  | [] => rfl
  | F :: r => by
    have ih := prodAt_part p st r
    cases hp : p F
    · rw [List.filter_cons_of_neg (by simp [hp]), List.filter_cons_of_pos (by simp [hp]), prodAt_cons, prodAt_cons, ← ih, Int.mul_left_comm]
    · rw [List.filter_cons_of_pos hp, List.filter_cons_of_neg (by simp [hp]), prodAt_cons, prodAt_cons, ← ih, Int.mul_assoc]
end Go.Proofs.Ytghkpmafocacoaa

namespace Go.Proofs.Ytghkpmafocacoaa
set_option maxRecDepth 100000
set_option linter.unusedVariables false
open Go.RowKit
def prsL (Fs : List Fac) : List Int := (Fs.filter fun F => F.vs.length == 2).map fun F => setOf F.vs
def sa (s : Int) : Nat := (vAt (over s) 0).toNat
def sb (s : Int) : Nat := (vAt (over s) 1).toNat
def addS (g : Gr) (s : Int) : Option Gr := if g.root (sa s) = g.root (sb s) then none else some (g.put (sa s) (sb s))
def prG (ss : List Int) : Option Gr := ss.foldl (fun o s => o.bind fun g => addS g s) (some Gr.none_)
def lenOk (F : Fac) : Bool := inB (F.vs.length : Int) 1 2
theorem over_set {F : Fac} (h : facOk 9 F = true) : over (setOf F.vs) = F.vs := by
  obtain ⟨L, h1, h2, _⟩ := fac_set h
  rw [h2, h1]
theorem addF_pair {F : Fac} (h : facOk 9 F = true) (h2 : F.vs.length = 2) (g : Gr) : addF g F = addS g (setOf F.vs) := by
  unfold addF addS sa sb Fac.a Fac.b
  rw [over_set h, if_neg (by omega), if_pos h2]
theorem grL_fold : ∀ (l : List Fac) (o : Option Gr), (∀ F ∈ l, facOk 9 F = true) → l.all lenOk = true → l.foldl (fun o F => o.bind fun g => addF g F) o = (prsL l).foldl (fun o s => o.bind fun g => addS g s) o
  | [], o, _, _ => rfl
  | F :: r, o, h, hl => by
    rw [List.all_cons, Bool.and_eq_true] at hl
    have ih := fun o => grL_fold r o (fun G hG => h G (List.mem_cons_of_mem _ hG)) hl.2
    have h1 := inB_iff.1 hl.1
    unfold prsL
    rw [List.foldl_cons]
    by_cases h2 : F.vs.length = 2
    · rw [List.filter_cons_of_pos (by simp [h2]), List.map_cons, List.foldl_cons, ih]
      have e : (fun g => addF g F) = fun g => addS g (setOf F.vs) := funext fun g => addF_pair (h F List.mem_cons_self) h2 g
      rw [e]
      rfl
    · rw [List.filter_cons_of_neg (by simp [h2]), ih]
      have e : (fun g => addF g F) = fun g => some g := funext fun g => by unfold addF; rw [if_pos (by omega)]
      rw [e]
      cases o <;> rfl
theorem grL_bad : ∀ (l : List Fac) (o : Option Gr), l.all lenOk = false → l.foldl (fun o F => o.bind fun g => addF g F) o = none
  | [], _, h => by cases h
  | F :: r, o, h => by
    rw [List.foldl_cons]
    rw [List.all_cons, Bool.and_eq_false_iff] at h
    rcases h with h | h
    · have e : (fun g => addF g F) = fun _ => none := funext fun g => by
        unfold addF
        have h3 : ¬ inB (F.vs.length : Int) 1 2 = true := by unfold lenOk at h; rw [h]; decide
        rw [inB_iff] at h3
        rw [if_neg (by omega), if_neg (by omega)]
      rw [e]
      have e2 : (o.bind fun _ => (none : Option Gr)) = none := by cases o <;> rfl
      rw [e2]
      exact grL_none r
    · exact grL_bad r _ h
theorem grL_sets {Fs : List Fac} (h : ∀ F ∈ Fs, facOk 9 F = true) (hl : Fs.all lenOk = true) : grL Fs = prG (prsL Fs) := grL_fold Fs _ h hl
theorem prsL_take {Fs : List Fac} {k : Nat} {F : Fac} (h : Fs[k]? = some F) : prsL (Fs.take (k + 1)) = prsL (Fs.take k) ++ if F.vs.length = 2 then [setOf F.vs] else [] := by
  obtain ⟨hl, he⟩ := List.getElem?_eq_some_iff.1 h
  unfold prsL
  rw [List.take_succ_eq_append_getElem hl, he, List.filter_append, List.map_append]
  congr 1
  by_cases h2 : F.vs.length = 2
  · rw [if_pos h2, List.filter_cons_of_pos (by simp [h2])]; rfl
  · rw [if_neg h2, List.filter_cons_of_neg (by simp [h2])]; rfl
theorem prsL_len (Fs : List Fac) (k : Nat) : (prsL (Fs.take k)).length ≤ k := by
  unfold prsL
  rw [List.length_map]
  have h1 := List.length_filter_le (fun F : Fac => F.vs.length == 2) (Fs.take k)
  rw [List.length_take] at h1
  omega
theorem prsL_mem {Fs : List Fac} (h : ∀ F ∈ Fs, facOk 9 F = true) {s : Int} (hs : s ∈ prsL Fs) : (0 ≤ s ∧ s ≤ 15) ∧ ∃ F ∈ Fs, F.vs.length = 2 ∧ s = setOf F.vs ∧ ∃ a b : Fin 4, a ≠ b ∧ over s = [(a.val : Int), (b.val : Int)] ∧ sa s = a.val ∧ sb s = b.val := by
  unfold prsL at hs
  obtain ⟨F, hF, rfl⟩ := List.mem_map.1 hs
  obtain ⟨h1, h2⟩ := List.mem_filter.1 hF
  have h3 : F.vs.length = 2 := by simpa using h2
  have h4 := h F h1
  obtain ⟨L, e1, e2, _⟩ := fac_set h4
  obtain ⟨a, b, hab, hv, ha, hb⟩ := pair_two h4 h3
  refine ⟨by rw [e2]; omega, F, h1, h3, rfl, a, b, hab, by rw [over_set h4, hv], ?_, ?_⟩
  · unfold sa; rw [over_set h4]; exact ha
  · unfold sb; rw [over_set h4]; exact hb
set_option maxHeartbeats 1000000 in
theorem l10Pairs_any (A : Option Addr) (n c : Nat) (Fs : List Fac) (w : World) (h : FLst w w.heap.size A n Fs) (hn : n ≤ 1000) (hF : ∀ F ∈ Fs, facOk 9 F = true) :
    Calls Try.prog 86 #[.slice A n c] w (Wtsd w (prsL Fs)) := by
  have hB0 : Below w.heap.size w (w.alloc (.cells #[] 3)) := (Below.refl _ _).alloc (Nat.le_refl _) _
  have hN := Lib.hid (show IOwn (w.alloc (.cells #[] 3)) w.heap.size (.slice (some ⟨w.heap.size, 0, none⟩) 0 0) [] from
    ⟨rfl, .inr ⟨w.heap.size, 0, #[], rfl, Nat.le_refl _, Has.new w _ _, Nat.le_refl _, Nat.zero_le _, rfl, rfl⟩⟩)
  obtain ⟨i0, hi0, hz0, hz1', hz2'⟩ := info_parts info_int
  have hI := Lib.hid h
  have hl := h.1
  have hFh := Lib.hid hF
  clear h hF
  go_enter Try.func86, Try.ntmps86
  go_wp2_with fail
  go_loopg [3, 4] n (fun gn o v wr => ∃ k : Nat, k ≤ n ∧ gn = n - k ∧ v = .int .i64 k ∧ IOwn wr w.heap.size o (prsL (Fs.take k)) ∧ Below w.heap.size w wr)
  case atStart => exact ⟨0, Nat.zero_le _, rfl, rfl, hN.out, hB0⟩
  case round =>
    obtain ⟨k, hk, hgn, rfl, hO, hb⟩ := hrel
    have hgk : gk = n - k := hgn
    obtain ⟨Ao, co, hvo, _, _⟩ := hO.form
    subst hvo
    have hz := hb.size
    have hOh := Lib.hid hO
    have hbh := Lib.hid hb
    have hol : (prsL (Fs.take k)).length ≤ 1000 := by have := prsL_len Fs k; omega
    clear hgn hO hb hN hB0
    by_cases hlt : k < n
    · obtain ⟨gl, off, F, B1, m1, e1, B2, m2, e2, rfl, hgl, hFk, cl1, cl2, hFW⟩ := (hI.out.below hbh.out).at_ hlt
      have hk0 : (0 : Int) ≤ (k : Int) := by omega
      have hk1 : (k : Int) < (n : Int) := by omega
      have hst := Lib.hid (prsL_take hFk)
      have hok := hFh.out F (List.mem_of_getElem? hFk)
      obtain ⟨q1, q2, q3, q4, q5⟩ := fac_parts hok
      have hm1 := hFW.1.1
      have hm4 : m1 ≤ 4 := by omega
      have cS := Lib.hid (fun wx hx => l8Set_any B1 m1 e1 F.vs wx hx (by unfold maxLen; omega) q5)
      have hVw := Lib.hid (hFW.1.more hz)
      clear hFk hok q1 q2 q3 q4 q5 hFW
      by_cases h2 : m1 = 2
      · subst h2
        obtain ⟨s, hs⟩ : ∃ s, setOf F.vs = s := ⟨_, rfl⟩
        rw [hs] at cS hst
        have hE := Lib.hid (show prsL (Fs.take (k + 1)) = prsL (Fs.take k) ++ [s] by rw [hst.out, if_pos hm1])
        have hO3 := Lib.hid (hOh.out.alloc (.cells #[.int .i64 s] 3))
        have hnw := Lib.hid (new_one wr (.int .i64 s) 3)
        have hB3 := Lib.hid (hbh.out.alloc hz (.cells #[.int .i64 s] 3))
        clear hs hst hm1
        generalize prsL (Fs.take k) = ds at *
        go_wp2_with (first
          | (go_at_call 138; refine (cS.out wr hVw.out).mono ?_; rintro e w' ⟨rfl, rfl⟩)
          | (at_builtin; refine wpList_append_lies _ rfl (.tmp 19) (.tmp 26) 31 rfl w.heap.size 3 i0 _ 1 8 Try.underlying31 hi0 hz0 hz1' hz2' rfl (by decide) (.slice Ao ds.length co) ds.length (ints ds) rfl (by exact hO3.out) ⟨wr.heap.size, 0, none⟩ 1 1 [.int .i64 s] rfl rfl (by exact hnw.out) (by simp [Value.oneCell']) (by omega) (by unfold maxLen; omega) (by omega) (by exact hB3.out.size) (wr.heap.size + 1) (by simp) ?_; intro gr cr2 w4 hown4 hgrow4 hat4 hlt4))
        have hA := Lib.hid (IOwn.append_ (news := [s]) hO3.out hown4 hgrow4 hB3.out (by exact hB3.out.size))
        clear hown4 hgrow4 hat4
        go_wp2_with fail
        go_roundg (n - (k + 1))
        case measure => omega
        case rel => exact ⟨k + 1, by omega, rfl, by go_num, by rw [hE.out]; exact hA.out.1, hA.out.2⟩
      · have hE := Lib.hid (show prsL (Fs.take (k + 1)) = prsL (Fs.take k) by rw [hst.out, if_neg (by omega), List.append_nil])
        have hm2 : ((m1 : Int) == 2) = false := by rw [beq_eq_false_iff_ne]; omega
        clear hst hm1
        go_wp2_with fail
        go_roundg (n - (k + 1))
        case measure => omega
        case rel => exact ⟨k + 1, by omega, rfl, by go_num, by rw [hE.out]; exact hOh.out, hbh.out⟩
    · obtain rfl : k = n := by omega
      have hfull : Fs.take k = Fs := List.take_of_length_le (by omega)
      have hFin := Lib.hid (show Wtsd w (prsL Fs) (.returned (.slice Ao (prsL (Fs.take k)).length co)) wr from ⟨_, rfl, by have := hOh.out; rw [hfull] at this ⊢; exact this, hbh.out⟩)
      clear hOh hbh hfull
      go_wp2_with fail
      go_ret
      exact hFin.out
end Go.Proofs.Ytghkpmafocacoaa

namespace Go.Proofs.Ytghkpmafocacoaa
set_option maxRecDepth 100000
set_option linter.unusedVariables false
open Go.RowKit
/-- A forest's cells. -/
structure Fo where
  own : Nat → Nat → Int
  root : Nat → Int
  prs : Int
  b1 : Nat → Nat → Value
  b2 : Nat → Nat → Value
  told : Nat → Nat → Nat → Int
def Fo.cell (f : Fo) (i : Nat) : Value :=
  if i < 12 then .int .i64 (f.own (i / 3) (i % 3)) else if i < 16 then .int .i64 (f.root (i - 12)) else if i = 16 then .int .i64 f.prs
  else if i < 49 then (if (i - 17) % 2 = 0 then f.b1 ((i - 17) / 8) ((i - 17) / 2 % 4) else f.b2 ((i - 17) / 8) ((i - 17) / 2 % 4))
  else .int .i64 (f.told ((i - 49) / 12) ((i - 49) / 3 % 4) ((i - 49) % 3))
def Fo.cells (f : Fo) : Array Value := ((List.range 97).map f.cell).toArray
theorem Fo.size (f : Fo) : f.cells.size = 97 := by unfold Fo.cells; simp
theorem Fo.len (f : Fo) : f.cells.toList.length = 97 := by rw [Array.length_toList]; exact f.size
theorem Fo.at_ (f : Fo) {i : Nat} (h : i < 97) : f.cells[i]? = some (f.cell i) := by
  unfold Fo.cells
  rw [List.getElem?_toArray, List.getElem?_map, List.getElem?_range h]
  rfl
theorem Fo.ext {f f' : Fo} (h : ∀ i, i < 97 → f.cell i = f'.cell i) : f.cells = f'.cells := by
  unfold Fo.cells
  congr 1
  exact List.map_congr_left fun i hi => h i (List.mem_range.1 hi)
theorem Fo.put {f f' : Fo} {k : Nat} {v : Value} (h : ∀ i, i < 97 → f'.cell i = if i = k then v else f.cell i) : f.cells.setIfInBounds k v = f'.cells := by
  apply Array.ext_getElem?
  intro i
  rw [Array.getElem?_setIfInBounds]
  by_cases hi : i < 97
  · rw [f'.at_ hi, h i hi, f.at_ hi, f.size]
    by_cases e : i = k
    · subst e
      rw [if_pos rfl, if_pos hi, if_pos rfl]
    · rw [if_neg (fun q => e q.symm), if_neg e]
  · have h1 : f.cells[i]? = none := Array.getElem?_eq_none (by rw [f.size]; omega)
    have h2 : f'.cells[i]? = none := Array.getElem?_eq_none (by rw [f'.size]; omega)
    rw [h1, h2, f.size]
    split
    · rw [if_neg (by omega)]
    · rfl
theorem Fo.own_at (f : Fo) {v x i : Nat} (hv : v ≤ 3) (hx : x ≤ 2) (hi : i = v * 3 + x) : f.cells[i]? = some (.int .i64 (f.own v x)) := by
  subst hi
  rw [f.at_ (by omega)]
  unfold Fo.cell
  rw [if_pos (by omega), show (v * 3 + x) / 3 = v by omega, show (v * 3 + x) % 3 = x by omega]
theorem Fo.root_at (f : Fo) {v i : Nat} (hv : v ≤ 3) (hi : i = 12 + v) : f.cells[i]? = some (.int .i64 (f.root v)) := by
  subst hi
  rw [f.at_ (by omega)]
  unfold Fo.cell
  rw [if_neg (by omega), if_pos (by omega), show 12 + v - 12 = v by omega]
theorem Fo.prs_at (f : Fo) : f.cells[16]? = some (.int .i64 f.prs) := f.at_ (by decide)
theorem Fo.b1_at (f : Fo) {a b i : Nat} (ha : a ≤ 3) (hb : b ≤ 3) (hi : i = 17 + a * 8 + b * 2) : f.cells[i]? = some (f.b1 a b) := by
  subst hi
  rw [f.at_ (by omega)]
  unfold Fo.cell
  rw [if_neg (by omega), if_neg (by omega), if_neg (by omega), if_pos (by omega), if_pos (by omega), show (17 + a * 8 + b * 2 - 17) / 8 = a by omega, show (17 + a * 8 + b * 2 - 17) / 2 % 4 = b by omega]
theorem Fo.b2_at (f : Fo) {a b i : Nat} (ha : a ≤ 3) (hb : b ≤ 3) (hi : i = 17 + a * 8 + b * 2 + 1) : f.cells[i]? = some (f.b2 a b) := by
  subst hi
  rw [f.at_ (by omega)]
  unfold Fo.cell
  rw [if_neg (by omega), if_neg (by omega), if_neg (by omega), if_pos (by omega), if_neg (by omega), show (17 + a * 8 + b * 2 + 1 - 17) / 8 = a by omega, show (17 + a * 8 + b * 2 + 1 - 17) / 2 % 4 = b by omega]
theorem Fo.told_at (f : Fo) {u t y i : Nat} (hu : u ≤ 3) (ht : t ≤ 3) (hy : y ≤ 2) (hi : i = 49 + u * 12 + t * 3 + y) : f.cells[i]? = some (.int .i64 (f.told u t y)) := by
  subst hi
  rw [f.at_ (by omega)]
  unfold Fo.cell
  rw [if_neg (by omega), if_neg (by omega), if_neg (by omega), if_neg (by omega), show (49 + u * 12 + t * 3 + y - 49) / 12 = u by omega, show (49 + u * 12 + t * 3 + y - 49) / 3 % 4 = t by omega, show (49 + u * 12 + t * 3 + y - 49) % 3 = y by omega]
def Fo.setOwn (f : Fo) (v x : Nat) (n : Int) : Fo := { f with own := fun a b => if a = v ∧ b = x then n else f.own a b }
def Fo.setRoot (f : Fo) (v : Nat) (n : Int) : Fo := { f with root := fun a => if a = v then n else f.root a }
def Fo.setPrs (f : Fo) (n : Int) : Fo := { f with prs := n }
def Fo.setB1 (f : Fo) (u t : Nat) (v1 : Value) : Fo := { f with b1 := fun a b => if a = u ∧ b = t then v1 else f.b1 a b }
def Fo.setB2 (f : Fo) (u t : Nat) (v2 : Value) : Fo := { f with b2 := fun a b => if a = u ∧ b = t then v2 else f.b2 a b }
def Fo.setTold (f : Fo) (u t y : Nat) (n : Int) : Fo := { f with told := fun a b c => if a = u ∧ b = t ∧ c = y then n else f.told a b c }
theorem Fo.own_put (f : Fo) {v x i : Nat} (hv : v ≤ 3) (hx : x ≤ 2) (hi : i = v * 3 + x) (n : Int) : f.cells.setIfInBounds i (.int .i64 n) = (f.setOwn v x n).cells := by
  refine Fo.put fun j hj => ?_
  unfold Fo.cell Fo.setOwn
  dsimp only
  by_cases h12 : j < 12
  · rw [if_pos h12, if_pos h12]
    by_cases e : j = i
    · rw [if_pos e, if_pos (by omega)]
    · rw [if_neg e, if_neg (by omega)]
  · rw [if_neg h12, if_neg h12, if_neg (show ¬ j = i by omega)]
theorem Fo.root_put (f : Fo) {v i : Nat} (hv : v ≤ 3) (hi : i = 12 + v) (n : Int) : f.cells.setIfInBounds i (.int .i64 n) = (f.setRoot v n).cells := by
  refine Fo.put fun j hj => ?_
  unfold Fo.cell Fo.setRoot
  dsimp only
  by_cases h12 : j < 12
  · rw [if_pos h12, if_pos h12, if_neg (by omega)]
  · rw [if_neg h12, if_neg h12]
    by_cases h16 : j < 16
    · rw [if_pos h16, if_pos h16]
      by_cases e : j = i
      · rw [if_pos e, if_pos (by omega)]
      · rw [if_neg e, if_neg (by omega)]
    · rw [if_neg h16, if_neg h16, if_neg (show ¬ j = i by omega)]
theorem Fo.prs_put (f : Fo) (n : Int) : f.cells.setIfInBounds 16 (.int .i64 n) = (f.setPrs n).cells := by
  refine Fo.put fun j hj => ?_
  unfold Fo.cell Fo.setPrs
  dsimp only
  by_cases e : j = 16
  · subst e
    rfl
  · rw [if_neg e, if_neg e, if_neg e]
theorem Fo.b1_put (f : Fo) {u t i : Nat} (hu : u ≤ 3) (ht : t ≤ 3) (hi : i = 17 + u * 8 + t * 2) (v : Value) : f.cells.setIfInBounds i v = (f.setB1 u t v).cells := by
  refine Fo.put fun j hj => ?_
  unfold Fo.cell Fo.setB1
  dsimp only
  by_cases h12 : j < 12
  · rw [if_pos h12, if_pos h12, if_neg (by omega)]
  rw [if_neg h12, if_neg h12]
  by_cases h16 : j < 16
  · rw [if_pos h16, if_pos h16, if_neg (by omega)]
  rw [if_neg h16, if_neg h16]
  by_cases h17 : j = 16
  · rw [if_pos h17, if_pos h17, if_neg (by omega)]
  rw [if_neg h17, if_neg h17]
  by_cases h49 : j < 49
  · rw [if_pos h49, if_pos h49]
    by_cases hm : (j - 17) % 2 = 0
    · rw [if_pos hm, if_pos hm]
      by_cases e : j = i
      · rw [if_pos e, if_pos (by omega)]
      · rw [if_neg e, if_neg (by omega)]
    · rw [if_neg hm, if_neg hm, if_neg (by omega)]
  · rw [if_neg h49, if_neg h49, if_neg (by omega)]
theorem Fo.b2_put (f : Fo) {u t i : Nat} (hu : u ≤ 3) (ht : t ≤ 3) (hi : i = 17 + u * 8 + t * 2 + 1) (v : Value) : f.cells.setIfInBounds i v = (f.setB2 u t v).cells := by
  refine Fo.put fun j hj => ?_
  unfold Fo.cell Fo.setB2
  dsimp only
  by_cases h12 : j < 12
  · rw [if_pos h12, if_pos h12, if_neg (by omega)]
  rw [if_neg h12, if_neg h12]
  by_cases h16 : j < 16
  · rw [if_pos h16, if_pos h16, if_neg (by omega)]
  rw [if_neg h16, if_neg h16]
  by_cases h17 : j = 16
  · rw [if_pos h17, if_pos h17, if_neg (by omega)]
  rw [if_neg h17, if_neg h17]
  by_cases h49 : j < 49
  · rw [if_pos h49, if_pos h49]
    by_cases hm : (j - 17) % 2 = 0
    · rw [if_pos hm, if_pos hm, if_neg (by omega)]
    · rw [if_neg hm, if_neg hm]
      by_cases e : j = i
      · rw [if_pos e, if_pos (by omega)]
      · rw [if_neg e, if_neg (by omega)]
  · rw [if_neg h49, if_neg h49, if_neg (by omega)]
theorem Fo.told_put (f : Fo) {u t y i : Nat} (hu : u ≤ 3) (ht : t ≤ 3) (hy : y ≤ 2) (hi : i = 49 + u * 12 + t * 3 + y) (n : Int) : f.cells.setIfInBounds i (.int .i64 n) = (f.setTold u t y n).cells := by
  refine Fo.put fun j hj => ?_
  unfold Fo.cell Fo.setTold
  dsimp only
  by_cases h12 : j < 12
  · rw [if_pos h12, if_pos h12, if_neg (by omega)]
  rw [if_neg h12, if_neg h12]
  by_cases h16 : j < 16
  · rw [if_pos h16, if_pos h16, if_neg (by omega)]
  rw [if_neg h16, if_neg h16]
  by_cases h17 : j = 16
  · rw [if_pos h17, if_pos h17, if_neg (by omega)]
  rw [if_neg h17, if_neg h17]
  by_cases h49 : j < 49
  · rw [if_pos h49, if_pos h49, if_neg (show ¬ j = i by omega)]
  rw [if_neg h49, if_neg h49]
  by_cases e : j = i
  · have e1 : (j - 49) / 12 = u := by omega
    have e2 : (j - 49) / 3 % 4 = t := by omega
    have e3 : (j - 49) % 3 = y := by omega
    rw [if_pos e, if_pos ⟨e1, e2, e3⟩]
  · rw [if_neg e, if_neg (fun q => e (by omega))]
/-- A forest lies in a block. -/
def FoW (w : World) (G : Nat) (f : Fo) : Prop := Has w G 102 f.cells
theorem FoW.own_cell {w : World} {G : Nat} {f : Fo} (h : FoW w G f) {v x i : Nat} (hv : v ≤ 3) (hx : x ≤ 2) (hi : i = v * 3 + x) : w.cell? ⟨G, i, none⟩ = some (.int .i64 (f.own v x)) := (Has.cell h i).trans (f.own_at hv hx hi)
theorem FoW.root_cell {w : World} {G : Nat} {f : Fo} (h : FoW w G f) {v i : Nat} (hv : v ≤ 3) (hi : i = 12 + v) : w.cell? ⟨G, i, none⟩ = some (.int .i64 (f.root v)) := (Has.cell h i).trans (f.root_at hv hi)
theorem FoW.prs_cell {w : World} {G : Nat} {f : Fo} (h : FoW w G f) : w.cell? ⟨G, 16, none⟩ = some (.int .i64 f.prs) := (Has.cell h 16).trans f.prs_at
theorem FoW.told_cell {w : World} {G : Nat} {f : Fo} (h : FoW w G f) {u t y i : Nat} (hu : u ≤ 3) (ht : t ≤ 3) (hy : y ≤ 2) (hi : i = 49 + u * 12 + t * 3 + y) : w.cell? ⟨G, i, none⟩ = some (.int .i64 (f.told u t y)) := (Has.cell h i).trans (f.told_at hu ht hy hi)
theorem FoW.own_set {w : World} {G : Nat} {f : Fo} (h : FoW w G f) {v x i : Nat} (hv : v ≤ 3) (hx : x ≤ 2) (hi : i = v * 3 + x) (n : Int) : FoW (w.setCell ⟨G, i, none⟩ (.int .i64 n)) G (f.setOwn v x n) := by
  unfold FoW
  rw [← f.own_put hv hx hi n]
  exact Has.put h i _
theorem FoW.root_set {w : World} {G : Nat} {f : Fo} (h : FoW w G f) {v i : Nat} (hv : v ≤ 3) (hi : i = 12 + v) (n : Int) : FoW (w.setCell ⟨G, i, none⟩ (.int .i64 n)) G (f.setRoot v n) := by
  unfold FoW
  rw [← f.root_put hv hi n]
  exact Has.put h i _
theorem FoW.prs_set {w : World} {G : Nat} {f : Fo} (h : FoW w G f) (n : Int) : FoW (w.setCell ⟨G, 16, none⟩ (.int .i64 n)) G (f.setPrs n) := by
  unfold FoW
  rw [← f.prs_put n]
  exact Has.put h 16 _
theorem FoW.b1_set {w : World} {G : Nat} {f : Fo} (h : FoW w G f) {u t i : Nat} (hu : u ≤ 3) (ht : t ≤ 3) (hi : i = 17 + u * 8 + t * 2) (v : Value) : FoW (w.setCell ⟨G, i, none⟩ v) G (f.setB1 u t v) := by
  unfold FoW
  rw [← f.b1_put hu ht hi v]
  exact Has.put h i _
theorem FoW.b2_set {w : World} {G : Nat} {f : Fo} (h : FoW w G f) {u t i : Nat} (hu : u ≤ 3) (ht : t ≤ 3) (hi : i = 17 + u * 8 + t * 2 + 1) (v : Value) : FoW (w.setCell ⟨G, i, none⟩ v) G (f.setB2 u t v) := by
  unfold FoW
  rw [← f.b2_put hu ht hi v]
  exact Has.put h i _
theorem FoW.told_set {w : World} {G : Nat} {f : Fo} (h : FoW w G f) {u t y i : Nat} (hu : u ≤ 3) (ht : t ≤ 3) (hy : y ≤ 2) (hi : i = 49 + u * 12 + t * 3 + y) (n : Int) : FoW (w.setCell ⟨G, i, none⟩ (.int .i64 n)) G (f.setTold u t y n) := by
  unfold FoW
  rw [← f.told_put hu ht hy hi n]
  exact Has.put h i _
theorem FoW.kept {w w' : World} {G : Nat} {f : Fo} (h : FoW w G f) (hb : Below w.heap.size w w') : FoW w' G f := Has.kept h hb
theorem FoW.alloc {w : World} {G : Nat} {f : Fo} (h : FoW w G f) (o : Obj) : FoW (w.alloc o) G f := Has.alloc h o
theorem FoW.but {w w' : World} {G : Nat} {f : Fo} {S : Nat → Prop} (h : FoW w G f) (hk : KeptBut w w' S) (hn : ¬ S G) : FoW w' G f := Has.but h hk hn
/-- Two forests of the same cells. -/
theorem Fo.same {f f' : Fo} (h1 : ∀ v x, v ≤ 3 → x ≤ 2 → f.own v x = f'.own v x) (h2 : ∀ v, v ≤ 3 → f.root v = f'.root v) (h3 : f.prs = f'.prs) (h4 : ∀ a b, a ≤ 3 → b ≤ 3 → f.b1 a b = f'.b1 a b ∧ f.b2 a b = f'.b2 a b) (h5 : ∀ u t y, u ≤ 3 → t ≤ 3 → y ≤ 2 → f.told u t y = f'.told u t y) : f.cells = f'.cells := by
  refine Fo.ext fun i hi => ?_
  unfold Fo.cell
  split
  · rw [h1 _ _ (by omega) (by omega)]
  split
  · rw [h2 _ (by omega)]
  split
  · rw [h3]
  split
  · split
    · exact (h4 _ _ (by omega) (by omega)).1
    · exact (h4 _ _ (by omega) (by omega)).2
  · rw [h5 _ _ _ (by omega) (by omega) (by omega)]
end Go.Proofs.Ytghkpmafocacoaa

namespace Go.Proofs.Ytghkpmafocacoaa
set_option maxRecDepth 100000
set_option linter.unusedVariables false
open Go.RowKit
/-- The set of those next to one. -/
def nxI (g : Gr) (v : Int) : Int := if inB v 0 3 = true then (g.nx v.toNat : Int) else 0
theorem nx_bits (g : Gr) : bits .and .i64 (g.prs : Int) 15 = (g.nx 0 : Int) ∧ bits .and .i64 ((g.prs : Int) / 16) 15 = (g.nx 1 : Int) ∧ bits .and .i64 ((g.prs : Int) / 256) 15 = (g.nx 2 : Int) ∧ bits .and .i64 ((g.prs : Int) / 4096) 15 = (g.nx 3 : Int) :=
  gr_all (P := fun g => bits .and .i64 (g.prs : Int) 15 = (g.nx 0 : Int) ∧ bits .and .i64 ((g.prs : Int) / 16) 15 = (g.nx 1 : Int) ∧ bits .and .i64 ((g.prs : Int) / 256) 15 = (g.nx 2 : Int) ∧ bits .and .i64 ((g.prs : Int) / 4096) 15 = (g.nx 3 : Int)) (by decide +kernel) g
theorem nxI_bd (g : Gr) (v : Int) : 0 ≤ nxI g v ∧ nxI g v ≤ 15 := by
  unfold nxI
  split
  · rename_i h
    have h1 := inB_iff.1 h
    have := (prs_row g ⟨v.toNat, by omega⟩).2.2.1
    simp only at this
    omega
  · decide
theorem nextTo_any (G : Nat) (f : Fo) (g : Gr) (v : Int) (w : World) (h : FoW w G f) (hp : f.prs = (g.prs : Int)) :
    Calls Try.prog 90 #[.pointer (some ⟨G, 0, none⟩), .int .i64 v] w fun e w' => e = .returned (.int .i64 (nxI g v)) ∧ w = w' := by
  have c16 := h.prs_cell
  rw [hp] at c16
  have hnb := Lib.hid (nx_bits g)
  have hpb := (prs_row g 0).1
  have cV := Lib.hid (fun wx => varOk_any v wx)
  generalize g.prs = p at *
  clear h hp
  rcases inB_cases v 0 3 with ⟨h1, h2, hr⟩ | ⟨h1, hr⟩
  · have hR := Lib.hid (show nxI g v = (g.nx v.toNat : Int) by unfold nxI; rw [if_pos hr])
    rw [hr] at cV
    obtain ⟨k, rfl, hk⟩ := nat4 h1 h2
    obtain rfl | rfl | rfl | rfl : k = 0 ∨ k = 1 ∨ k = 2 ∨ k = 3 := by omega
    all_goals
      go_enter Try.func90, Try.ntmps90
      go_wp2_with (go_at_call 97; refine (cV.out _).mono ?_; rintro e w' ⟨rfl, rfl⟩)
      go_ret
      first
        | exact ⟨ret_int (hR.out.trans hnb.out.1.symm), rfl⟩
        | exact ⟨ret_int (hR.out.trans hnb.out.2.1.symm), rfl⟩
        | exact ⟨ret_int (hR.out.trans hnb.out.2.2.1.symm), rfl⟩
        | exact ⟨ret_int (hR.out.trans hnb.out.2.2.2.symm), rfl⟩
  · have hR := Lib.hid (show nxI g v = 0 by unfold nxI; rw [hr]; rfl)
    rw [hr] at cV
    go_enter Try.func90, Try.ntmps90
    go_wp2_with (go_at_call 97; refine (cV.out _).mono ?_; rintro e w' ⟨rfl, rfl⟩)
    go_ret
    exact ⟨ret_int hR.out, rfl⟩
theorem pairBit_any (a b : Fin 4) (w : World) :
    Calls Try.prog 188 #[.int .i64 (a.val : Int), .int .i64 (b.val : Int)] w fun e w' => e = .returned (.int .i64 ((2 ^ (4 * a.val + b.val) : Nat) : Int)) ∧ w = w' := by
  obtain ⟨a, ha⟩ := a
  obtain ⟨b, hb⟩ := b
  obtain rfl | rfl | rfl | rfl : a = 0 ∨ a = 1 ∨ a = 2 ∨ a = 3 := by omega
  all_goals obtain rfl | rfl | rfl | rfl : b = 0 ∨ b = 1 ∨ b = 2 ∨ b = 3 := by omega
  all_goals
    go_enter Try.func188, Try.ntmps188
    go_wp2
    go_ret
    exact ⟨rfl, rfl⟩
theorem has_far_setCells_ {g b : Nat} {t : TypeId} {cs : Array Value} (hne : g ≠ b) : ∀ (vs : List Value) (o : Nat) (w : World), Has w g t cs → Has (w.setCells b o vs) g t cs
  | [], _, _, h => h
  | u :: r, o, w, h => has_far_setCells_ hne r (o + 1) _ (h.far (p := ⟨b, o, none⟩) hne u)
theorem setCells_below {G base : Nat} (hG : base ≤ G) : ∀ (vs : List Value) (o : Nat) {w w' : World}, Below base w w' → Below base w (w'.setCells G o vs)
  | [], _, _, _, h => h
  | u :: r, o, _, _, h => setCells_below hG r (o + 1) (h.setCell (p := ⟨G, o, none⟩) hG u)
/-- A whole forest stored. -/
theorem FoW.fill {w : World} {G : Nat} {f f' : Fo} (h : FoW w G f) : FoW (w.setCells G 0 f'.cells.toList) G f' := by
  obtain ⟨cs', h1, h2, h3, _⟩ := has_setCells_ f'.cells.toList 0 w f.cells h (by rw [f'.len, f.size]; exact Nat.le_refl _)
  have : cs' = f'.cells := by
    apply Array.ext_getElem?
    intro q
    by_cases hq : q < 97
    · have := h3 q (f'.cell q) (by rw [Array.getElem?_toList]; exact f'.at_ hq)
      rw [Nat.zero_add] at this
      rw [this, f'.at_ hq]
    · rw [Array.getElem?_eq_none (by rw [h2, f.size]; omega), Array.getElem?_eq_none (by rw [f'.size]; omega)]
  subst this
  exact h1
theorem FoW.range {w : World} {G : Nat} {f : Fo} (h : FoW w G f) : w.rangeAt G 0 f.cells.toList := has_range_ h (fun j v hv => by rw [Nat.zero_add]; simpa using hv)
theorem FoW.room {w : World} {G : Nat} {f : Fo} (h : FoW w G f) : w.there G 0 97 := has_there_ h (by rw [f.size]; exact Nat.le_refl _)
def fz : Fo := ⟨fun _ _ => 0, fun _ => 0, 0, fun _ _ => .slice none 0 0, fun _ _ => .slice none 0 0, fun _ _ _ => 0⟩
theorem info_forest : (Try.prog.info? 102).map (fun i => (i.zero, i.size)) = some (some (.agg fz.cells), 97) := by kernel_rfl
theorem Fo.one (f : Fo) (h : ∀ a b, (f.b1 a b).oneCell' = true ∧ (f.b2 a b).oneCell' = true) : f.cells.all (·.oneCell') = true := by
  have : f.cells = f.cells.toList.toArray := by simp
  rw [this]
  refine all_oneCell_toArray fun v hv => ?_
  unfold Fo.cells at hv
  rw [List.toList_toArray] at hv
  obtain ⟨i, _, rfl⟩ := List.mem_map.1 hv
  unfold Fo.cell
  split
  · rfl
  split
  · rfl
  split
  · rfl
  split
  · split
    · exact (h _ _).1
    · exact (h _ _).2
  · rfl
theorem FoW.ownRow_ {w : World} {G : Nat} {f : Fo} (h : FoW w G f) {v : Nat} (hv : v ≤ 3) (a b c : Int) : FoW (((w.setCell ⟨G, v * 3, none⟩ (.int .i64 a)).setCell ⟨G, v * 3 + 1, none⟩ (.int .i64 b)).setCell ⟨G, v * 3 + 2, none⟩ (.int .i64 c)) G (((f.setOwn v 0 a).setOwn v 1 b).setOwn v 2 c) :=
  ((h.own_set hv (by decide) (i := v * 3) rfl a).own_set hv (by decide) (i := v * 3 + 1) rfl b).own_set hv (by decide) (i := v * 3 + 2) rfl c
/-- The forest of no factors, as far as it is laid. -/
def bF (k : Nat) : Fo := { fz with own := fun v _ => if v < k then 1 else 0, root := fun v => if v < k then (v : Int) else 0 }
set_option maxHeartbeats 1000000 in
theorem bareForest_any (w : World) : Calls Try.prog 139 #[] w fun e w' => e = .returned (.agg (bF 4).cells) ∧ Below w.heap.size w w' := by
  obtain ⟨hzero, hsize⟩ := zero_of_info (P := Try.prog) info_forest
  have hz0 : fz.cells = (bF 0).cells := Fo.same (fun v x _ _ => rfl) (fun v _ => rfl) rfl (fun a b _ _ => ⟨rfl, rfl⟩) (fun _ _ _ _ _ _ => rfl)
  have hB0 : Below w.heap.size w ((w.alloc (.cells fz.cells 102)).alloc (.cells fz.cells 102)) := ((Below.refl _ _).alloc (Nat.le_refl _) _).alloc (by simp) _
  have hH0 : FoW ((w.alloc (.cells fz.cells 102)).alloc (.cells fz.cells 102)) w.heap.size fz := (Has.new w 102 fz.cells).alloc _
  have hH1 : FoW ((w.alloc (.cells fz.cells 102)).alloc (.cells fz.cells 102)) (w.heap.size + 1) (bF 0) := by
    have := Has.new (w.alloc (.cells fz.cells 102)) 102 fz.cells
    unfold FoW
    rw [← hz0]
    simpa using this
  have hsz := Lib.hid hsize
  have hB0' := Lib.hid hB0
  have hH0' := Lib.hid hH0
  have hH1' := Lib.hid hH1
  clear hsize hB0 hH0 hH1 hz0
  generalize hzc : fz.cells = zc at hzero hB0' hH0' hH1'
  clear hzc
  go_enter Try.func139, Try.ntmps139
  go_wp2_with fail
  clear hzero
  generalize hGG : w.heap.size = G at hB0' hH0' hH1' ⊢
  generalize (w.alloc (.cells zc 102)).alloc (.cells zc 102) = W at hB0' hH0' hH1' ⊢
  go_loopg [2] 4 (fun gn v wr => ∃ (k : Nat), k ≤ 4 ∧ gn = 4 - k ∧ v = .int .i64 k ∧ FoW wr G fz ∧ FoW wr (G + 1) (bF k) ∧ Below G w wr)
  case atStart => exact ⟨0, by omega, rfl, rfl, hH0'.out, hH1'.out, hB0'.out⟩
  case round =>
    obtain ⟨k, hk, hgn, rfl, hH0, hH1, hB⟩ := hrel
    have hgk : gk = 4 - k := hgn
    clear hgn
    by_cases hlt : k < 4
    · have hk0 : (0 : Int) ≤ (k : Int) := by omega
      have hk1 : (k : Int) < 4 := by omega
      have hW1 := Lib.hid (hH1.ownRow_ (v := k) (by omega) 1 1 1)
      have hW0 := Lib.hid (((hH0.far (p := ⟨G + 1, k * 3, none⟩) (by show G ≠ G + 1; omega) (.int .i64 1)).far (p := ⟨G + 1, k * 3 + 1, none⟩) (by show G ≠ G + 1; omega) (.int .i64 1)).far (p := ⟨G + 1, k * 3 + 2, none⟩) (by show G ≠ G + 1; omega) (.int .i64 1))
      have hBn := Lib.hid (((hB.setCell (p := ⟨G + 1, k * 3, none⟩) (by show G ≤ G + 1; omega) (.int .i64 1)).setCell (p := ⟨G + 1, k * 3 + 1, none⟩) (by show G ≤ G + 1; omega) (.int .i64 1)).setCell (p := ⟨G + 1, k * 3 + 2, none⟩) (by show G ≤ G + 1; omega) (.int .i64 1))
      have hc0 := hH1.own_cell (v := k) (x := 0) (by omega) (by decide) (i := k * 3) rfl
      have hc1 := hH1.own_cell (v := k) (x := 1) (by omega) (by decide) rfl
      have hc2 := hH1.own_cell (v := k) (x := 2) (by omega) (by decide) rfl
      have hf0 := Has.frozen hH1
      have hcr := hW1.out.root_cell (v := k) (by omega) rfl
      have hfr := Has.frozen hW1.out
      have hE := Lib.hid (Fo.same (f := (((((bF k).setOwn k 0 1).setOwn k 1 1).setOwn k 2 1).setRoot k k)) (f' := bF (k + 1)) (fun v x hv hx => by
        show (if v = k ∧ x = 2 then (1 : Int) else if v = k ∧ x = 1 then 1 else if v = k ∧ x = 0 then 1 else if v < k then 1 else 0) = if v < k + 1 then 1 else 0
        by_cases h1 : v = k
        · rw [if_pos (show v < k + 1 by omega)]
          split
          · rfl
          split
          · rfl
          rw [if_pos (by omega)]
        · rw [if_neg (fun q => h1 q.1), if_neg (fun q => h1 q.1), if_neg (fun q => h1 q.1)]
          by_cases h2 : v < k
          · rw [if_pos h2, if_pos (by omega)]
          · rw [if_neg h2, if_neg (by omega)]) (fun v hv => by
        show (if v = k then (k : Int) else if v < k then (v : Int) else 0) = if v < k + 1 then (v : Int) else 0
        by_cases h1 : v = k
        · rw [if_pos h1, if_pos (by omega), h1]
        · rw [if_neg h1]
          by_cases h2 : v < k
          · rw [if_pos h2, if_pos (by omega)]
          · rw [if_neg h2, if_neg (by omega)]) rfl (fun a b _ _ => ⟨rfl, rfl⟩) (fun _ _ _ _ _ _ => rfl))
      have hW2 := Lib.hid (hW1.out.root_set (v := k) (by omega) rfl (k : Int))
      have hW02 := Lib.hid (hW0.out.far (p := ⟨G + 1, 12 + k, none⟩) (by show G ≠ G + 1; omega) (.int .i64 k))
      have hBn2 := Lib.hid (hBn.out.setCell (p := ⟨G + 1, 12 + k, none⟩) (by show G ≤ G + 1; omega) (.int .i64 k))
      clear hH0 hH1 hB
      go_wp2_with fail
      go_roundg (4 - (k + 1))
      case measure => omega
      case rel => exact ⟨k + 1, by omega, rfl, by go_num, hW02.out, by unfold FoW; rw [← hE.out]; exact hW2.out, hBn2.out⟩
    · obtain rfl : k = 4 := by omega
      have hone := Lib.hid (Fo.one (bF 4) (fun a b => ⟨rfl, rfl⟩))
      have hR1 := Lib.hid hH1.range
      have hT1 := Lib.hid (show wr.there G 0 (bF 4).cells.size from by rw [Fo.size]; exact hH0.room)
      have hZ1 := Lib.hid (show (Try.prog.info? 102).map (·.size) = some (bF 4).cells.toList.length from by rw [hsz.out, Fo.len])
      have hZ2 := Lib.hid (show (Try.prog.info? 102).map (·.size) = some (bF 4).cells.size from by rw [hsz.out, Fo.size])
      have hF1 := Lib.hid (FoW.fill (f' := bF 4) hH0)
      have hBn := Lib.hid (setCells_below (Nat.le_refl G) (bF 4).cells.toList 0 hB)
      have hlv := Lib.hid (run_loadVar_row (P := Try.prog) _ G 102 102 (bF 4).cells (0, 0) _ hF1.out Try.underlying102 rfl hZ2.out)
      clear hH0 hH1 hB
      generalize hcq : (bF 4).cells = cs at hone hR1 hT1 hZ1 hZ2 hF1 hBn hlv ⊢
      have hcs := Lib.hid hcq
      clear hcq
      go_wp2_with (first
        | (refine wpList_load_mid rfl 102 (.tmp 1) rfl (G + 1) 0 (by simp [Act.eval]) cs.toList _ hR1.out Try.underlying102 rfl hZ1.out ?_)
        | (refine wpList_store_mid rfl 102 (.tmp 0) (.tmp 15) rfl G 0 cs (by rfl) (by rfl) hT1.out hZ2.out hone.out ?_))
      refine bodyPost_ret (v := .agg cs) (by rw [results_cell_ rfl]; simp [asAddr, Result.andThen, Act.put, hlv.out]) rfl ?_
      rw [hGG, hcs.out]
      exact ⟨rfl, hBn.out⟩
end Go.Proofs.Ytghkpmafocacoaa
