/- Parts of the proof: KF. -/
import Derived.Laws.CopyOwn
import Derived.Test.YtaipdkfbkcknkaaZAS
import Derived.Test.YtaipdkfbkcknkaaZAI
namespace Go.Proofs.Ytaipdkfbkcknkaa
set_option maxRecDepth 100000
set_option linter.unusedVariables false
open Go.RowKit
theorem wpList_copy_int {w : World} {ops : Array Oper} {rest : List Oper} {o : Oper} {a : Act} {Q : Exit → Act → World → Prop} (hgd : o.guard = none) (d s : Operand)
    (ho : o.op = .call { callee := .builtin .copy, args := #[d, s], argTypes := #[22, 22] })
    (base B g n c : Nat) (ds es : List Int) (hown : w.ownsRow base 3 1 (.slice (some ⟨g, 0, none⟩) n c) n (ints ds)) (hd : a.eval d = .slice (some ⟨g, 0, none⟩) n c)
    (A : Option Addr) (sc : Nat) (hs : a.eval s = .slice A n sc) (hL : Ils w B A n es) (h0 : 0 < n)
    (h : ∀ w', w'.ownsRow base 3 1 (.slice (some ⟨g, 0, none⟩) n c) n (ints es) → KeptBut w w' (fun i => i = g) → wpList Try.prog ops Q rest (a.put o.dst (goInt n)) w') :
    wpList Try.prog ops Q (o :: rest) a w := by
  rcases hown.2 with ⟨hv, hn⟩ | ⟨g', cap, cur, hv, hg, hh, h1, h2, h3, h4⟩
  · omega
  injection hv with e1 _ e3
  injection e1 with e1
  injection e1 with e1
  subst e1 e3
  obtain ⟨gs, off, rfl, hgs, hc⟩ := hL.2 h0
  have hel := hL.1
  have hsz : (Try.prog.info? 3).map (·.size) = some 1 := by
    have := info_int
    cases h9 : Try.prog.info? 3 with
    | none => rw [h9] at this; cases this
    | some i => rw [h9] at this; simp only [Option.map_some, Option.some.injEq, Prod.mk.injEq] at this; rw [Option.map_some, this.2.1]
  refine wpList_copy_own hgd d s 22 22 ho 3 Try.underlying22 hsz g 0 n c ⟨gs, off, none⟩ n sc hd hs cur 3 hh (ints es) (by rw [ints_length, hel]; exact (Nat.min_self n).symm) (fun j v hv => ?_) (by rw [ints_length, hel]; omega) (ints_one es) ?_
  · have hj : j < es.length := by have := (List.getElem?_eq_some_iff.1 hv).1; rwa [ints_length] at this
    have hdj : es[j]? = some es[j] := List.getElem?_eq_getElem hj
    have q1 := hc j _ hdj
    rw [ints_get hdj] at hv
    rw [← Option.some.inj hv, ← q1]
    congr 1
    unfold Addr.add
    simp
  · rw [List.take_zero, List.nil_append]
    have hnew : (w.setRow g (ints es ++ cur.toList.drop (0 + (ints es).length)).toArray).heap[g]? = some (.cells (ints es ++ cur.toList.drop (0 + (ints es).length)).toArray 3 (0, 0)) := by
      unfold World.setRow
      have hh' : w.heap[g]? = some (.cells cur 3 (0, 0)) := hh
      simp [Array.getElem?_modify, hh']
    have hcz : cur.size = c := by omega
    have hr : wpList Try.prog ops Q rest (a.put o.dst (goInt n)) (w.setRow g (ints es ++ cur.toList.drop (0 + (ints es).length)).toArray) := by
      refine h _ ⟨by rw [ints_length, hel]; omega, .inr ⟨g, c, _, rfl, hg, hnew, h1, h2, ?_, ?_⟩⟩ ⟨rfl, rfl, rfl, by simp [World.setRow], fun i hi hn => setRow_other w g i _ (by omega)⟩
      · simp [ints_length, hel]; omega
      · rw [List.toList_toArray, List.take_append_of_le_length (by rw [ints_length, hel]; omega), List.take_of_length_le (by rw [ints_length, hel]; omega)]
    rw [ints_length, hel] at hr ⊢
    exact hr
/-- Inner rows of factors. -/
def InnF (w : World) (base : Nat) (Fs : List Fac) (us : List Value) : Prop := us.length = Fs.length * 2 ∧ ∀ (i : Nat) (x : Value), us[i]? = some x → ∃ ds, (rowsF Fs)[i]? = some ds ∧ IOwn w base x ds
theorem InnF.nil (w : World) (base : Nat) : InnF w base [] [] := ⟨rfl, fun i x h => by simp at h⟩
theorem InnF.but {w w' : World} {base : Nat} {Fs : List Fac} {us : List Value} {S : Nat → Prop} (h : InnF w base Fs us) (hk : KeptBut w w' S) (hS : ∀ k cur, Has w k 3 cur → base ≤ k → (∃ x ∈ us, x.ownBlock = some k) → ¬ S k) : InnF w' base Fs us := ⟨h.1, fun i x hx => by
  obtain ⟨ds, hd, ho⟩ := h.2 i x hx
  refine ⟨ds, hd, ho.but hk fun k hkb => ?_⟩
  obtain ⟨cur, hc⟩ := owns_has ho hkb
  exact hS k cur hc (World.ownsRow.lt ho k hkb).1 ⟨x, List.mem_of_getElem? hx, hkb⟩⟩
theorem InnF.below {w w' : World} {base : Nat} {Fs : List Fac} {us : List Value} (h : InnF w base Fs us) (hb : Below w.heap.size w w') : InnF w' base Fs us := h.but (KeptBut.of_below hb (fun _ => False)) (fun _ _ _ _ _ e => e)
theorem InnF.blk {w : World} {base : Nat} {Fs : List Fac} {us : List Value} (h : InnF w base Fs us) : ∀ y ∈ us, ∀ k, y.ownBlock = some k → k < w.heap.size := fun y hy k hk => by
  obtain ⟨i, hi, rfl⟩ := List.getElem_of_mem hy
  obtain ⟨ds, _, ho⟩ := h.2 i _ (List.getElem?_eq_getElem hi)
  exact (World.ownsRow.lt ho k hk).2
theorem InnF.snoc {w : World} {base : Nat} {Fs : List Fac} {us : List Value} {F : Fac} {x y : Value} (h : InnF w base Fs us) (hx : IOwn w base x F.vs) (hy : IOwn w base y F.ns) : InnF w base (Fs ++ [F]) (us ++ [x, y]) := by
  have hrf : rowsF (Fs ++ [F]) = rowsF Fs ++ [F.vs, F.ns] := by unfold rowsF; rw [List.flatMap_append]; rfl
  have hrl := rowsF_len Fs
  have hl := h.1
  refine ⟨by simp [hl]; omega, fun i z hz => ?_⟩
  rw [hrf]
  by_cases hi : i < us.length
  · rw [List.getElem?_append_left hi] at hz
    obtain ⟨ds, hd, ho⟩ := h.2 i z hz
    exact ⟨ds, by rw [List.getElem?_append_left (by omega)]; exact hd, ho⟩
  · rw [List.getElem?_append_right (by omega)] at hz
    rw [List.getElem?_append_right (by omega), hrl, ← hl]
    have hi2 := (List.getElem?_eq_some_iff.1 hz).1
    simp at hi2
    obtain h0 | h0 : i - us.length = 0 ∨ i - us.length = 1 := by omega
    · rw [h0] at hz ⊢
      have : x = z := by simpa using hz
      subst this
      exact ⟨F.vs, rfl, hx⟩
    · rw [h0] at hz ⊢
      have : y = z := by simpa using hz
      subst this
      exact ⟨F.ns, rfl, hy⟩
theorem InnF.at_ {w : World} {base k : Nat} {Fs : List Fac} {us : List Value} {F : Fac} (h : InnF w base Fs us) (hF : Fs[k]? = some F) : ∃ (A1 : Option Addr) (c1 : Nat) (A2 : Option Addr) (c2 : Nat), us[k * 2]? = some (.slice A1 F.vs.length c1) ∧ us[k * 2 + 1]? = some (.slice A2 F.ns.length c2) ∧ IOwn w base (.slice A1 F.vs.length c1) F.vs ∧ IOwn w base (.slice A2 F.ns.length c2) F.ns := by
  have hk := (List.getElem?_eq_some_iff.1 hF).1
  have hl := h.1
  obtain ⟨r1, r2⟩ := rowsF_get hF
  obtain ⟨x, hx⟩ : ∃ x, us[k * 2]? = some x := ⟨_, List.getElem?_eq_getElem (by omega)⟩
  obtain ⟨y, hy⟩ : ∃ y, us[k * 2 + 1]? = some y := ⟨_, List.getElem?_eq_getElem (by omega)⟩
  obtain ⟨ds, hds, hxo⟩ := h.2 _ x hx
  obtain ⟨es, hes, hyo⟩ := h.2 _ y hy
  obtain rfl : F.vs = ds := Option.some.inj (r1.symm.trans hds)
  obtain rfl : F.ns = es := Option.some.inj (r2.symm.trans hes)
  obtain ⟨A1, c1, rfl, _, _⟩ := IOwn.form hxo
  obtain ⟨A2, c2, rfl, _, _⟩ := IOwn.form hyo
  exact ⟨A1, c1, A2, c2, hx, hy, hxo, hyo⟩
/-- The cells of a list of factors as arrays. -/
def sflat : List Fac → List Value → List Value
  | F :: r, x :: y :: us => (strA x y (strL (setOf F.vs))).toList ++ sflat r us
  | _, _ => []
theorem sflat_len : ∀ (Fs : List Fac) (us : List Value), us.length = Fs.length * 2 → (sflat Fs us).length = Fs.length * 6
  | [], _, _ => by unfold sflat; rfl
  | F :: r, [], h => by simp at h
  | F :: r, [x], h => by simp at h; omega
  | F :: r, x :: y :: us, h => by
    have ih := sflat_len r us (by simp at h; omega)
    show ((strA x y (strL (setOf F.vs))).toList ++ sflat r us).length = (r.length + 1) * 6
    rw [List.length_append, ih]
    show 6 + r.length * 6 = (r.length + 1) * 6
    omega
theorem sflat_snoc : ∀ (Fs : List Fac) (us : List Value) (F : Fac) (x y : Value), us.length = Fs.length * 2 → sflat (Fs ++ [F]) (us ++ [x, y]) = sflat Fs us ++ (strA x y (strL (setOf F.vs))).toList
  | [], us, F, x, y, h => by
    have : us = [] := List.eq_nil_of_length_eq_zero (by simpa using h)
    subst this
    show (strA x y (strL (setOf F.vs))).toList ++ sflat [] [] = _
    rfl
  | G :: r, [], F, x, y, h => by simp at h
  | G :: r, [a], F, x, y, h => by simp at h; omega
  | G :: r, a :: b :: us, F, x, y, h => by
    have ih := sflat_snoc r us F x y (by simp at h; omega)
    show (strA a b (strL (setOf G.vs))).toList ++ sflat (r ++ [F]) (us ++ [x, y]) = ((strA a b (strL (setOf G.vs))).toList ++ sflat r us) ++ _
    rw [ih, List.append_assoc]
theorem sflat_get : ∀ {Fs : List Fac} {us : List Value}, us.length = Fs.length * 2 → ∀ {k : Nat} {F : Fac} {x y : Value}, Fs[k]? = some F → us[k * 2]? = some x → us[k * 2 + 1]? = some y → ∀ j, j < 6 → (sflat Fs us)[k * 6 + j]? = (strA x y (strL (setOf F.vs)))[j]?
  | [], _, _, k, F, x, y, hF, _, _, _, _ => by simp at hF
  | G :: r, [], h, _, _, _, _, _, _, _, _, _ => by simp at h
  | G :: r, [a], h, _, _, _, _, _, _, _, _, _ => by simp at h; omega
  | G :: r, a :: b :: us, h, 0, F, x, y, hF, hx, hy, j, hj => by
    have e1 : G = F := by simpa using hF
    have e2 : a = x := by simpa using hx
    have e3 : b = y := by simpa using hy
    subst e1 e2 e3
    show ((strA a b (strL (setOf G.vs))).toList ++ sflat r us)[0 * 6 + j]? = _
    rw [Nat.zero_mul, Nat.zero_add, List.getElem?_append_left (by show j < 6; exact hj), Array.getElem?_toList]
  | G :: r, a :: b :: us, h, k + 1, F, x, y, hF, hx, hy, j, hj => by
    have ih := sflat_get (Fs := r) (us := us) (by simp at h; omega) (k := k) (F := F) (x := x) (y := y) (by simpa using hF)
      (by rw [show (k + 1) * 2 = k * 2 + 1 + 1 by omega] at hx; simpa using hx) (by rw [show (k + 1) * 2 + 1 = k * 2 + 1 + 1 + 1 by omega] at hy; simpa using hy) j hj
    show ((strA a b (strL (setOf G.vs))).toList ++ sflat r us)[(k + 1) * 6 + j]? = _
    rw [List.getElem?_append_right (by show 6 ≤ (k + 1) * 6 + j; omega), ← ih]
    congr 1
    show (k + 1) * 6 + j - 6 = _
    omega
/-- A list of factors as arrays that a call has made. -/
def RowsS (w : World) (base ob : Nat) (v : Value) (Fs : List Fac) (us : List Value) : Prop := w.ownsRow ob 79 6 v Fs.length (sflat Fs us) ∧ InnF w base Fs us
theorem InnF.one {w : World} {base : Nat} {Fs : List Fac} {us : List Value} (h : InnF w base Fs us) : ∀ u ∈ us, u.oneCell' = true := fun u hu => by
  obtain ⟨i, hi, rfl⟩ := List.getElem_of_mem hu
  obtain ⟨ds, _, ho⟩ := h.2 i _ (List.getElem?_eq_getElem hi)
  obtain ⟨A, c, e, _, _⟩ := IOwn.form ho
  rw [e]; rfl
theorem RowsS.form {w : World} {base ob : Nat} {v : Value} {Fs : List Fac} {us : List Value} (h : RowsS w base ob v Fs us) : ∃ A c, v = .slice A Fs.length c ∧ Fs.length ≤ c ∧ c ≤ maxLen := by
  rcases h.1.2 with ⟨hv, hn⟩ | ⟨g, cap, cur, hv, _, _, h1, h2, _⟩
  · exact ⟨none, 0, by rw [hv, hn], by omega, by simp [maxLen]⟩
  · exact ⟨_, cap, hv, h1, h2⟩
theorem int_ne_str : (3 : TypeId) ≠ 79 := by decide
theorem RowsS.below {w w' : World} {base ob : Nat} {v : Value} {Fs : List Fac} {us : List Value} (h : RowsS w base ob v Fs us) (hb : Below w.heap.size w w') : RowsS w' base ob v Fs us :=
  ⟨owns_but h.1 (KeptBut.of_below hb (fun _ => False)) (fun _ _ e => e), h.2.below hb⟩
theorem RowsS.append_ {w w' : World} {base ob : Nat} {v v' x y : Value} {Fs : List Fac} {us : List Value} {F : Fac} (h : RowsS w base ob v Fs us) (hx : IOwn w base x F.vs) (hy : IOwn w base y F.ns)
    (hN : w'.ownsRow ob 79 6 v' (Fs.length + 1) (sflat Fs us ++ (strA x y (strL (setOf F.vs))).toList)) (hg : w.grownBy w' v.ownBlock) : RowsS w' base ob v' (Fs ++ [F]) (us ++ [x, y]) := by
  have hk : KeptBut w w' (fun i => v.ownBlock = some i) := KeptBut.of_grown hg fun k e => e
  refine ⟨by rw [List.length_append, sflat_snoc Fs us F x y h.2.1]; exact hN, (h.2.snoc hx hy).but hk fun k cur hc _ _ e => ?_⟩
  obtain ⟨c2, h2⟩ := owns_has h.1 e
  exact has_ne hc h2 int_ne_str rfl
/-- A slice reads as factors as arrays. -/
theorem RowsS.at_ {w : World} {base ob n c k : Nat} {A : Option Addr} {Fs : List Fac} {us : List Value} {F : Fac} (h : RowsS w base ob (.slice A n c) Fs us) (hn : Fs.length = n) (hF : Fs[k]? = some F) :
    ∃ (g : Nat) (A1 : Option Addr) (c1 : Nat) (A2 : Option Addr) (c2 : Nat), A = some ⟨g, 0, none⟩ ∧ g < w.heap.size ∧ us[k * 2]? = some (.slice A1 F.vs.length c1) ∧ us[k * 2 + 1]? = some (.slice A2 F.ns.length c2) ∧ (∀ j, j < 6 → w.cell? ⟨g, k * 6 + j, none⟩ = (strA (.slice A1 F.vs.length c1) (.slice A2 F.ns.length c2) (strL (setOf F.vs)))[j]?) ∧ IOwn w base (.slice A1 F.vs.length c1) F.vs ∧ IOwn w base (.slice A2 F.ns.length c2) F.ns := by
  have hk := (List.getElem?_eq_some_iff.1 hF).1
  obtain ⟨A1, c1, A2, c2, hx, hy, ho1, ho2⟩ := h.2.at_ hF
  rcases h.1.2 with ⟨hv, hn0⟩ | ⟨g, cap, cur, hv, _⟩
  · omega
  · injection hv with e1 _ _
    subst e1
    refine ⟨g, A1, c1, A2, c2, rfl, (World.ownsRow.lt h.1 g rfl).2, hx, hy, fun j hj => ?_, ho1, ho2⟩
    have hs := sflat_get h.2.1 hF hx hy j hj
    have hjs : j < (strA (.slice A1 F.vs.length c1) (.slice A2 F.ns.length c2) (strL (setOf F.vs))).size := by rw [strA_size]; exact hj
    rw [Array.getElem?_eq_getElem hjs] at hs ⊢
    rw [← World.ownsRow.cells h.1 (g := g) rfl _ _ hs, cell_add]
theorem info_str : (Try.prog.info? 79).map (fun i => (i.zero, i.size, i.bytes)) = some (some (.agg #[.slice none 0 0, .slice none 0 0, .int .i64 0, .int .i64 0, .int .i64 0, .int .i64 0]), 6, 80) := by kernel_rfl
end Go.Proofs.Ytaipdkfbkcknkaa
