/- Slopes, the model: all runs pushed on, with slopes: the model's l12Push. -/
import Derived.Test.YtbndonfpdioibaaSg
import Derived.Test.YtbndonfpdioibaaRa
import Derived.Test.YtbndonfpdioibaaLf
import Derived.Deep.CutRange
namespace Go.Proofs.Ytbndonfpdioibaa
set_option maxRecDepth 100000
set_option linter.unusedVariables false
open Go.RowKit

/-- How it ends. -/
def Pshd (w : World) (base : Nat) (os : List St) (a : Nat) (c : Int) (e : Ending) (w' : World) : Prop := ∃ v u ds, e = .returned (.tuple #[v, u]) ∧ IOwn w' base v ds ∧ IOwn w' base u (slopesL os a c) ∧ Below base w w'
/-- What lies in memory ahead of an entry. -/
def Md2 (w wr : World) (base R m g1 k1 g2 k2 : Nat) (os : List St) (a : Nat) (c : Int) (i z : Nat) : Prop :=
  ∃ ns gs vn vg, Gsl os m a c (fun h => groAt c h os a 0 0) i z ns gs ∧ Tw wr base R (.slice (some ⟨g1, 0, none⟩) (m + 1) k1) (.slice (some ⟨g2, 0, none⟩) (m + 1) k2) ns gs vn vg ∧ Below base w wr
theorem Md2.below {w wr wr' : World} {base R m g1 k1 g2 k2 i z a : Nat} {os : List St} {c : Int} (h : Md2 w wr base R m g1 k1 g2 k2 os a c i z) (hb : Below wr.heap.size wr wr') (hB : base ≤ wr.heap.size) : Md2 w wr' base R m g1 k1 g2 k2 os a c i z := by
  obtain ⟨ns, gs, vn, vg, h1, h2, h3⟩ := h
  exact ⟨ns, gs, vn, vg, h1, h2.below hb, h3.trans (hb.mono hB)⟩
/-- A list of rows longer by one. -/
theorem Tw.appn {w w6 : World} {base R g1 k : Nat} {o1 o2 x : Value} {ns gs : List (List Int)} {vn vg : List Value} {ds : List Int} {c : Nat} (h : Tw w base R o1 o2 ns gs vn vg) (hkl : ns.length = k) (hx : IOwn w base x ds) (hxn : ∀ k, x.ownBlock = some k → (∀ y ∈ vn, y.ownBlock ≠ some k) ∧ ∀ y ∈ vg, y.ownBlock ≠ some k)
    (ho : w6.ownsRow base 24 1 (.slice (some ⟨g1, 0, none⟩) (k + 1) c) (k + 1) (vn ++ [x])) (hg : w.grownBy w6 o1.ownBlock) (ha : o1.ownBlock = some g1 ∨ w.heap.size ≤ g1) :
    Tw (w6.setCell ⟨R, 0, none⟩ (.slice (some ⟨g1, 0, none⟩) (k + 1) c)) base R (.slice (some ⟨g1, 0, none⟩) (k + 1) c) o2 (ns ++ [ds]) gs (vn ++ [x]) vg := by
  subst hkl
  obtain ⟨h1, h2, h3, h4, h5, h6⟩ := h
  have hk : KeptBut w w6 (fun i => o1.ownBlock = some i) := KeptBut.of_grown hg fun k e => e
  have hR6 : Has w6 R 132 #[o1, o2] := h1.but hk (fun e => by
    obtain ⟨c2, q2⟩ := owns_has h2.1 e
    exact has_ne h1 q2 tmd_e rfl)
  have h26 := RowsV.append_ h2 hx ho hg
  have h36 : RowsV w6 base o2 gs vg := h3.but hk (fun k hk2 e => h5 k e hk2) (fun k cur hc _ _ e => by
    obtain ⟨c2, q2⟩ := owns_has h2.1 e
    exact has_ne hc q2 int_ne rfl)
  have hk2 : KeptBut w6 (w6.setCell ⟨R, 0, none⟩ (.slice (some ⟨g1, 0, none⟩) (ns.length + 1) c)) (fun i => i = R) := KeptBut.put (KeptBut.refl w6 (fun i => i = R)) (p := ⟨R, 0, none⟩) (fun _ => rfl) _
  have fin : ∀ (o : Value) (rs : List (List Int)) (vs : List Value), RowsV w6 base o rs vs → RowsV (w6.setCell ⟨R, 0, none⟩ (.slice (some ⟨g1, 0, none⟩) (ns.length + 1) c)) base o rs vs := fun o rs vs hr => hr.but hk2 (fun k hkb e => by
    obtain ⟨c2, q2⟩ := owns_has hr.1 hkb
    exact has_ne hR6 q2 tmd_e e.symm) (fun k cur hc _ _ e => has_ne hR6 hc tmd_f e.symm)
  refine ⟨hR6.put 0 _, fin _ _ _ h26, fin _ _ _ h36, ⟨h4.1.snoc (fun y hy k hk1 e => (hxn k e).1 y hy hk1), h4.2.1, fun y hy z hz k hk1 => ?_⟩, fun k e => ?_, h6⟩
  · rcases List.mem_append.1 hy with hy | hy
    · exact h4.2.2 y hy z hz k hk1
    · obtain rfl : y = x := by simpa using hy
      exact (hxn k hk1).2 z hz
  · have e' : g1 = k := by injection e
    subst e'
    intro e2
    rcases ha with e3 | e3
    · exact h5 _ e3 e2
    · have := (World.ownsRow.lt h3.1 _ e2).2
      omega
theorem Tw.appg {w w6 : World} {base R g1 k : Nat} {o1 o2 x : Value} {ns gs : List (List Int)} {vn vg : List Value} {ds : List Int} {c : Nat} (h : Tw w base R o1 o2 ns gs vn vg) (hkl : gs.length = k) (hx : IOwn w base x ds) (hxn : ∀ k, x.ownBlock = some k → (∀ y ∈ vn, y.ownBlock ≠ some k) ∧ ∀ y ∈ vg, y.ownBlock ≠ some k)
    (ho : w6.ownsRow base 24 1 (.slice (some ⟨g1, 0, none⟩) (k + 1) c) (k + 1) (vg ++ [x])) (hg : w.grownBy w6 o2.ownBlock) (ha : o2.ownBlock = some g1 ∨ w.heap.size ≤ g1) :
    Tw (w6.setCell ⟨R, 1, none⟩ (.slice (some ⟨g1, 0, none⟩) (k + 1) c)) base R o1 (.slice (some ⟨g1, 0, none⟩) (k + 1) c) ns (gs ++ [ds]) vn (vg ++ [x]) := by
  subst hkl
  obtain ⟨h1, h2, h3, h4, h5, h6⟩ := h
  have hk : KeptBut w w6 (fun i => o2.ownBlock = some i) := KeptBut.of_grown hg fun k e => e
  have hR6 : Has w6 R 132 #[o1, o2] := h1.but hk (fun e => by
    obtain ⟨c2, q2⟩ := owns_has h3.1 e
    exact has_ne h1 q2 tmd_e rfl)
  have h36 := RowsV.append_ h3 hx ho hg
  have h26 : RowsV w6 base o1 ns vn := h2.but hk (fun k hk2 e => h5 k hk2 e) (fun k cur hc _ _ e => by
    obtain ⟨c2, q2⟩ := owns_has h3.1 e
    exact has_ne hc q2 int_ne rfl)
  have hk2 : KeptBut w6 (w6.setCell ⟨R, 1, none⟩ (.slice (some ⟨g1, 0, none⟩) (gs.length + 1) c)) (fun i => i = R) := KeptBut.put (KeptBut.refl w6 (fun i => i = R)) (p := ⟨R, 1, none⟩) (fun _ => rfl) _
  have fin : ∀ (o : Value) (rs : List (List Int)) (vs : List Value), RowsV w6 base o rs vs → RowsV (w6.setCell ⟨R, 1, none⟩ (.slice (some ⟨g1, 0, none⟩) (gs.length + 1) c)) base o rs vs := fun o rs vs hr => hr.but hk2 (fun k hkb e => by
    obtain ⟨c2, q2⟩ := owns_has hr.1 hkb
    exact has_ne hR6 q2 tmd_e e.symm) (fun k cur hc _ _ e => has_ne hR6 hc tmd_f e.symm)
  refine ⟨hR6.put 1 _, fin _ _ _ h26, fin _ _ _ h36, ⟨h4.1, h4.2.1.snoc (fun y hy k hk1 e => (hxn k e).2 y hy hk1), fun y hy z hz k hk1 e => ?_⟩, fun k e e2 => ?_, h6⟩
  · rcases List.mem_append.1 hz with hz | hz
    · exact h4.2.2 y hy z hz k hk1 e
    · obtain rfl : z = x := by simpa using hz
      exact (hxn k e).1 y hy hk1
  · have e' : g1 = k := by injection e2
    subst e'
    rcases ha with e3 | e3
    · exact h5 _ e e3
    · have := (World.ownsRow.lt h2.1 _ e).2
      omega
/-- A row that is newer than all others. -/
theorem Tw.newer {w wx : World} {base R : Nat} {o1 o2 x : Value} {ns gs : List (List Int)} {vn vg : List Value} {ds : List Int} (h : Tw w base R o1 o2 ns gs vn vg) (hx : IOwn wx w.heap.size x ds) : ∀ k, x.ownBlock = some k → (∀ y ∈ vn, y.ownBlock ≠ some k) ∧ ∀ y ∈ vg, y.ownBlock ≠ some k := by
  intro k hk
  have h1 := (World.ownsRow.lt hx k hk).1
  have key : ∀ (o : Value) (rs : List (List Int)) (vs : List Value), RowsV w base o rs vs → ∀ y ∈ vs, y.ownBlock ≠ some k := fun o rs vs hr y hy e => by
    obtain ⟨i, hi, hie⟩ := List.getElem_of_mem hy
    obtain ⟨es, _, ho⟩ := hr.2 i y (by rw [List.getElem?_eq_getElem hi, hie])
    have := (World.ownsRow.lt ho k e).2
    omega
  exact ⟨key _ _ _ h.2.1, key _ _ _ h.2.2.1⟩
theorem gsl_row {os : List St} {m a : Nat} {v : Int} {ns gs : List (List Int)} {es : List Int} (h : Gsl os m a v (fun h => groAt v h os a 0 0) m 0 ns gs) (hm : os.length = m) (ha : a < m) (he : gs[m]? = some es) : es = slopesL os a v := by
  have hg : gs.getD m [] = es := by rw [List.getD_eq_getElem?_getD, he]; rfl
  have hl : es.length = 81 := by have := (h.2.1.at_ (Nat.le_refl m)).2.1; rwa [hg] at this
  apply List.ext_getElem?
  intro z
  by_cases hz : z < 81
  · have h1 := h.last hm ha hz
    rw [hg] at h1
    rw [h1, slopesL_at os a v hz]
    unfold groAt
    simp
  · rw [List.getElem?_eq_none (by omega), List.getElem?_eq_none (by rw [slopesL_len]; omega)]
theorem tw_nil (w : World) (base : Nat) (hb : base ≤ w.heap.size) : Tw (w.alloc (.cells #[.slice none 0 0, .slice none 0 0] 132)) base w.heap.size (.slice none 0 0) (.slice none 0 0) [] [] [] [] :=
  ⟨Has.new w _ _, RowsV.nil _ _, RowsV.nil _ _, ⟨Apart.nil, Apart.nil, fun x hx => by simp at hx⟩, (fun k e => by cases e), hb⟩
set_option maxHeartbeats 4000000 in
theorem l12Push_any (A : Option Addr) (m c base : Nat) (os : List St) (a : Nat) (v : Int) (t : St) (w : World) (hL : Lst w base A m os) (hm : os.length = m) (h12 : m ≤ 12) (hok : ∀ s ∈ os, s.ok = true ∧ s.notLoop = true) (ht : os[a]? = some t) (htw : t.hasW = true) (hb : base ≤ w.heap.size) :
    Calls Try.prog 68 #[.slice A m c, .int .i64 a, .int .i64 v] w (Pshd w base os a v) := by
  have ham : a < m := by rw [← hm]; exact (List.getElem?_eq_some_iff.1 ht).1
  have hM := Lib.hid hm
  have hOk := Lib.hid hok
  have hT := Lib.hid (And.intro ht htw)
  have hLs := Lib.hid hL
  have hW0 := Lib.hid (tw_nil w base hb)
  have hB0 := Lib.hid ((Below.refl base w).alloc hb (.cells #[.slice none 0 0, .slice none 0 0] 132))
  have hbw : base ≤ w.heap.size := hb
  have hRl : w.heap.size < (w.alloc (.cells #[.slice none 0 0, .slice none 0 0] 132)).heap.size := by simp
  have hm0 : (0 : Int) ≤ (m : Int) := by omega
  obtain ⟨i0, hi0, hz0, hz1', hz2'⟩ := info_parts info_rowM
  clear hL hm hok ht htw hb
  go_enter Try.func68, Try.ntmps68
  go_wp2_with fail
  obtain ⟨R, hRR⟩ : ∃ R, w.heap.size = R := ⟨_, rfl⟩
  rw [hRR] at hW0 hbw hRl ⊢
  have hRe := Lib.hid hRR
  clear hRR
  generalize w.alloc (.cells #[.slice none 0 0, .slice none 0 0] 132) = W1 at hW0 hB0 hRl ⊢
  go_loopg [9] (m + 1) (fun gn u wr => ∃ (k : Nat) (o1 o2 : Value) (vn vg : List Value), k ≤ m + 1 ∧ gn = m + 1 - k ∧ u = .int .i64 k ∧ Tw wr base R o1 o2 (List.replicate k (zs 81)) (List.replicate k (zs 81)) vn vg ∧ Below base w wr ∧ R < wr.heap.size)
  case atStart => exact ⟨0, _, _, _, _, by omega, rfl, rfl, hW0.out, hB0.out, hRl⟩
  case round =>
    clear hW0 hB0 hRl
    obtain ⟨k, o1, o2, vn, vg, hk, hgn, rfl, hTw, hB, hRl⟩ := hrel
    have hgk : gk = m + 1 - k := hgn
    clear hgn
    by_cases hlt : k < m + 1
    · have hk0 : (0 : Int) ≤ (k : Int) := by omega
      have hk1 : (k : Int) ≤ (m : Int) := by omega
      have hrl : (List.replicate k (zs 81)).length = k := List.length_replicate
      have hrlh := Lib.hid hrl
      obtain ⟨A1, c1, hv1, hl1, hm1⟩ := hTw.2.1.form
      rw [hrl] at hv1 hl1
      subst hv1
      have hTwh := Lib.hid hTw
      have hBh := Lib.hid hB
      have hgc := hTw.1.cell
      clear hTw hB hrl
      go_wp2_with fail
      refine wp_region_any (by kernel_rfl) ?_
      change wpAny _ _ _ _ _ _ _ (World.drew _)
      refine wpAny_tail (n := 4) (c := 2) (I := fun listed aq wx => listed.size = 7 ∧ ∃ v26 v27 v28 v29 : Value, aq = { tmps := #[.slice A m c, .int .i64 ↑a, .int .i64 v, undef, undef, undef, .slice none 0 0, .slice none 0 0, .pointer (some ⟨R, 0, none⟩), .int .i64 ↑k, undef, undef, undef, undef, undef, undef, undef, undef, undef, .agg #[.slice none 0 0, .slice none 0 0], .int .i64 ↑k, .slice A m c, .int .i64 ↑m, .bool true, u24, u25, v26, v27, v28, v29, u30, u31, u32, u33, u34, u35, u36, u37, undef, undef, undef, undef, undef, undef, undef, undef, undef, undef, undef, undef, undef, undef, undef, undef, undef, undef, undef, undef, undef, undef, undef, undef, undef, undef, undef, undef, undef, undef, undef, undef, undef, undef, undef, undef, undef, undef, undef, undef, undef, undef, undef, undef, undef, undef, undef, undef, undef, undef, undef, undef, undef, undef, undef, undef, undef, undef, undef, undef, undef, undef, undef, undef, undef, undef, undef, undef, undef, undef, undef, undef, undef, undef, undef, undef, undef, undef, undef, undef, undef, undef, undef, undef, undef, undef, undef, undef, undef, undef, undef, undef, undef, undef, undef, undef, undef, undef, undef, undef, undef, undef, undef, undef, undef, undef, undef, undef, undef, undef, undef, undef, undef, undef, undef, undef, undef, undef, undef, undef, undef, undef, undef, undef, undef, undef, undef, undef, undef, undef, undef, undef, undef, undef, undef, undef, undef, undef, undef, undef, undef, undef, undef, undef, undef, undef, undef, undef, undef, undef, undef, undef, undef, undef, undef, undef, undef, undef, undef, undef, undef, undef, undef, undef, undef, undef, undef, undef, undef, undef, undef, undef, undef, undef, undef, undef, undef, undef, undef, undef, undef, undef, undef, undef, undef, undef, undef, undef, undef, undef, undef, undef, undef, undef, undef, undef, undef, undef, undef, undef, undef, undef, undef, undef, undef, undef, undef, undef, undef, undef, undef, undef, undef, undef, undef, undef, undef, undef, undef, undef, undef, undef, undef, undef, undef, undef, undef, undef, undef, undef, undef], defers := [] } ∧ (listed.getD 0 false = true → v26 = .pointer (some ⟨R, 0, none⟩)) ∧ (listed.getD 1 false = true → v27 = .slice A1 k c1) ∧ (listed.getD 2 false = true → (∃ A3 c3, v28 = .slice A3 81 c3 ∧ IOwn wx wr.heap.size (.slice A3 81 c3) (zs 81))) ∧ (listed.getD 3 false = true → (listed.getD 2 false = true ∧ ∃ A3 c3 g9, v28 = .slice A3 81 c3 ∧ v29 = .slice (some ⟨g9, 0, none⟩) 1 1 ∧ wr.heap.size ≤ g9 ∧ Has wx g9 24 #[.slice A3 81 c3])) ∧ Below wr.heap.size wr wx) rfl (by kernel_rfl) (by kernel_rfl) (by kernel_rfl) ?hs ?hl _ _ _ ?stq rfl (by decide) _ (by decide)
      case stq =>
        refine ⟨rfl, u26, u27, u28, u29, rfl, ?_, ?_, ?_, ?_, (Below.refl _ _).drew⟩ <;> (intro e; exact absurd e (by decide))
      case hs =>
        rintro listed aq wx ⟨hz, v26, v27, v28, v29, rfl, hII⟩ i hin hi
        obtain ⟨h0, o, ho, hd⟩ := mem_ready.1 hi
        have K0 := Lib.hid hII.1
        have K1 := Lib.hid hII.2.1
        have K2 := Lib.hid hII.2.2.1
        have K3 := Lib.hid hII.2.2.2.1
        have hB : Below wr.heap.size wr wx := hII.2.2.2.2
        have hne := Lib.hid (fun k (hk : i ≠ k) => @listed_ne listed i k hk)
        have g9c := (hTwh.out.below hB).1.cell
        have h0f : listed.getD i false = false := by rw [Array.getD_eq_getD_getElem?, getD_false h0]; rfl
        clear hII hi h0
        rcases (by omega : i = 0 ∨ i = 1 ∨ i = 2 ∨ i = 3) with rfl | rfl | rfl | rfl
        · cases ho
          refine wpOp_step rfl (fun K hK => ?_)
          go_simp
          refine hK _ _ ⟨by simpa using hz, .pointer (some ⟨R, 0, none⟩), v27, v28, v29, rfl, ?_⟩
          exact ⟨fun _ => rfl, fun e => K1.out (hne.out 1 (by decide) e), fun e => K2.out (hne.out 2 (by decide) e), fun e => (by obtain ⟨y0, y1⟩ := K3.out (hne.out 3 (by decide) e); exact ⟨getD_set_true y0, y1⟩), hB⟩
        · cases ho
          have d0 := hd ⟨0, .data⟩ (by simp) rfl
          obtain rfl := K0.out d0
          refine wpOp_step rfl (fun K hK => ?_)
          go_simp
          refine hK _ _ ⟨by simpa using hz, .pointer (some ⟨R, 0, none⟩), .slice A1 k c1, v28, v29, rfl, ?_⟩
          exact ⟨fun e => K0.out (hne.out 0 (by decide) e), fun _ => rfl, fun e => K2.out (hne.out 2 (by decide) e), fun e => (by obtain ⟨y0, y1⟩ := K3.out (hne.out 3 (by decide) e); exact ⟨getD_set_true y0, y1⟩), hB⟩
        · cases ho
          refine wpOp_step rfl (fun K hK => ?_)
          go_simp
          go_at_call 109
          refine (l3Zeros_any _).mono ?_
          rintro e w3 ⟨v3, rfl, hO3q, hb3⟩
          obtain ⟨A3, c3, hv3, _, _⟩ := hO3q.form
          rw [zs_len] at hv3
          subst hv3
          have hO3 : IOwn w3 wr.heap.size (.slice A3 81 c3) (zs 81) := owns_le hO3q hB.size
          refine hK _ _ ⟨by simpa using hz, v26, v27, .slice A3 81 c3, v29, rfl, ?_⟩
          exact ⟨fun e => K0.out (hne.out 0 (by decide) e), fun e => K1.out (hne.out 1 (by decide) e), fun _ => ⟨A3, c3, rfl, hO3⟩, fun e => absurd (K3.out (hne.out 3 (by decide) e)).1 (by rw [h0f]; decide), hB.trans (hb3.mono hB.size)⟩
        · cases ho
          have d2 := hd ⟨2, .data⟩ (by simp) rfl
          obtain ⟨A3, c3, rfl, hO3⟩ := K2.out d2
          refine wpOp_step rfl (fun K hK => ?_)
          go_simp
          refine hK _ _ ⟨by simpa using hz, v26, v27, .slice A3 81 c3, .slice (some ⟨wx.heap.size, 0, none⟩) 1 1, rfl, ?_⟩
          exact ⟨fun e => K0.out (hne.out 0 (by decide) e), fun e => K1.out (hne.out 1 (by decide) e), fun e => (by obtain ⟨A3, c3, y1, y2⟩ := K2.out (hne.out 2 (by decide) e); exact ⟨A3, c3, y1, IOwn.below y2 ((Below.refl _ _).alloc (Nat.le_refl _) _)⟩), fun _ => ⟨getD_set_true d2, A3, c3, _, rfl, rfl, hB.size, Has.new _ _ _⟩, hB.alloc hB.size _⟩
      case hl =>
        rintro listed aq wx ⟨hz, v26, v27, v28, v29, rfl, hII⟩ hall
        have K0 := Lib.hid hII.1
        have K1 := Lib.hid hII.2.1
        have K2 := Lib.hid hII.2.2.1
        have K3 := Lib.hid hII.2.2.2.1
        have hB : Below wr.heap.size wr wx := hII.2.2.2.2
        have g9c := (hTwh.out.below hB).1.cell
        clear hII
        obtain rfl := K0.out (hall 0 (by decide))
        obtain rfl := K1.out (hall 1 (by decide))
        obtain ⟨A3, c3, rfl, hO3⟩ := K2.out (hall 2 (by decide))
        obtain ⟨_, A4, c4, g9, e9, rfl, hg90, hg9⟩ := K3.out (hall 3 (by decide))
        clear hall K0 K1 K2 K3
        injection e9 with e9 _ e9c
        subst e9 e9c
        have hNx := hTwh.out.below hB
        have hO6 : wx.ownsRow base 24 1 (.slice A1 k c1) k vn := by have h1 := hNx.2.1.1; rwa [hrlh.out] at h1
        unfold wpSeq
        refine wpOp_step rfl (fun K0 hK0 => ?_)
        refine step_append_lies _ rfl (.tmp 27) (.tmp 29) 130 rfl base 24 i0 _ 1 24 Try.underlying130 hi0 hz0 hz1' hz2' rfl (by decide) (.slice A1 k c1) k vn (by simp [Act.eval]) hO6 ⟨g9, 0, none⟩ 1 1 [.slice A3 81 c3] (by simp [Act.eval]) rfl (by exact World.news_of_block hg9) (by simp [Value.oneCell']) (by omega) (by unfold maxLen; omega) (by omega) (by have h1 := hB.size; have h2 := hBh.out.size; have h3 := hRe.out; omega) wx.heap.size rfl ?_
        intro gr cr2 w6 hown6 hgrow6 hat6 hlt6
        refine hK0 _ _ ?_
        clear hK0
        unfold wpSeq
        refine wpOp_step rfl (fun K1 hK1 => ?_)
        go_simp
        refine hK1 _ _ ?_
        clear hK1
        have hR6 := hNx.1.but (KeptBut.of_grown hgrow6 fun k e => e) (fun e => by obtain ⟨c2, q2⟩ := owns_has hNx.2.1.1 e; exact has_ne hNx.1 q2 tmd_e rfl)
        have hgc6 := hR6.cell
        have hgf6 := hR6.frozen
        unfold wpSeq
        refine wpOp_step rfl (fun K2 hK2 => ?_)
        go_simp
        refine hK2 _ _ ?_
        clear hK2
        unfold wpSeq
        have hTn := Lib.hid (hNx.appn hrlh.out (owns_le hO3 (show base ≤ wr.heap.size by have h2 := hBh.out.size; have h3 := hRe.out; omega)) (hTwh.out.newer hO3) hown6 hgrow6 (hat6.imp id (fun e => by omega)))
        have hBn := Lib.hid (show Below base w (w6.setCell ⟨R, 0, none⟩ (.slice (some ⟨gr, 0, none⟩) (k + 1) cr2)) from (hBh.out.trans ((hB.mono (show base ≤ wr.heap.size by have h2 := hBh.out.size; have h3 := hRe.out; omega)).trans ((KeptBut.of_grown hgrow6 fun k e => e).below (B := base) (fun i hi e => by have := (World.ownsRow.lt hO6 i e).1; omega) (by have h1 := hB.size; have h2 := hBh.out.size; have h3 := hRe.out; omega)))).setCell (p := ⟨R, 0, none⟩) hbw _)
        have hRn : R < (w6.setCell ⟨R, 0, none⟩ (.slice (some ⟨gr, 0, none⟩) (k + 1) cr2)).heap.size := by have h1 := hR6.lt; simpa using h1
        clear hgc6 hgf6 hR6 hO6 hNx hown6 hgrow6 hat6 hlt6 hg9 hg90 hO3 hB g9c hTwh hBh hgc hRl
        generalize w6.setCell ⟨R, 0, none⟩ (.slice (some ⟨gr, 0, none⟩) (k + 1) cr2) = W5 at hTn hBn hRn ⊢
        obtain ⟨A2, c2, hv2, hl2, hm2⟩ := hTn.out.2.2.1.form
        rw [hrlh.out] at hv2 hl2
        subst hv2
        have hTwh := Lib.hid hTn.out
        have hBh := Lib.hid hBn.out
        have hgc := hTn.out.1.cell
        clear hTn hBn
        go_wp2_with fail
        refine wp_region_any (by kernel_rfl) ?_
        change wpAny _ _ _ _ _ _ _ (World.drew _)
        refine wpAny_tail (n := 4) (c := 2) (I := fun listed aq wx => listed.size = 7 ∧ ∃ v32 v33 v34 v35 : Value, aq = { tmps := #[.slice A m c, .int .i64 ↑a, .int .i64 v, undef, undef, undef, .slice none 0 0, .slice none 0 0, .pointer (some ⟨R, 0, none⟩), .int .i64 ↑k, undef, undef, undef, undef, undef, undef, undef, undef, undef, .agg #[.slice none 0 0, .slice none 0 0], .int .i64 ↑k, .slice A m c, .int .i64 ↑m, .bool true, u24, u25, .pointer (some ⟨R, 0, none⟩), .slice A1 k c1, .slice A3 81 c3, .slice (some ⟨g9, 0, none⟩) 1 1, .slice (some ⟨gr, 0, none⟩) (k + 1) cr2, .pointer (some ⟨R, 0, none⟩), v32, v33, v34, v35, u36, u37, undef, undef, undef, undef, undef, undef, undef, undef, undef, undef, undef, undef, undef, undef, undef, undef, undef, undef, undef, undef, undef, undef, undef, undef, undef, undef, undef, undef, undef, undef, undef, undef, undef, undef, undef, undef, undef, undef, undef, undef, undef, undef, undef, undef, undef, undef, undef, undef, undef, undef, undef, undef, undef, undef, undef, undef, undef, undef, undef, undef, undef, undef, undef, undef, undef, undef, undef, undef, undef, undef, undef, undef, undef, undef, undef, undef, undef, undef, undef, undef, undef, undef, undef, undef, undef, undef, undef, undef, undef, undef, undef, undef, undef, undef, undef, undef, undef, undef, undef, undef, undef, undef, undef, undef, undef, undef, undef, undef, undef, undef, undef, undef, undef, undef, undef, undef, undef, undef, undef, undef, undef, undef, undef, undef, undef, undef, undef, undef, undef, undef, undef, undef, undef, undef, undef, undef, undef, undef, undef, undef, undef, undef, undef, undef, undef, undef, undef, undef, undef, undef, undef, undef, undef, undef, undef, undef, undef, undef, undef, undef, undef, undef, undef, undef, undef, undef, undef, undef, undef, undef, undef, undef, undef, undef, undef, undef, undef, undef, undef, undef, undef, undef, undef, undef, undef, undef, undef, undef, undef, undef, undef, undef, undef, undef, undef, undef, undef, undef, undef, undef, undef, undef, undef, undef, undef, undef, undef, undef, undef, undef, undef, undef, undef, undef, undef, undef, undef, undef, undef, undef, undef, undef, undef, undef, undef, undef, undef, undef, undef, undef, undef], defers := [] } ∧ (listed.getD 0 false = true → v32 = .pointer (some ⟨R, 1, none⟩)) ∧ (listed.getD 1 false = true → v33 = .slice A2 k c2) ∧ (listed.getD 2 false = true → (∃ A3 c3, v34 = .slice A3 81 c3 ∧ IOwn wx W5.heap.size (.slice A3 81 c3) (zs 81))) ∧ (listed.getD 3 false = true → (listed.getD 2 false = true ∧ ∃ A3 c3 g9, v34 = .slice A3 81 c3 ∧ v35 = .slice (some ⟨g9, 0, none⟩) 1 1 ∧ W5.heap.size ≤ g9 ∧ Has wx g9 24 #[.slice A3 81 c3])) ∧ Below W5.heap.size W5 wx) rfl (by kernel_rfl) (by kernel_rfl) (by kernel_rfl) ?hs ?hl _ _ _ ?stq rfl (by decide) _ (by decide)
        case stq =>
          refine ⟨rfl, u32, u33, u34, u35, rfl, ?_, ?_, ?_, ?_, (Below.refl _ _).drew⟩ <;> (intro e; exact absurd e (by decide))
        case hs =>
          rintro listed aq wx ⟨hz, v32, v33, v34, v35, rfl, hII⟩ i hin hi
          obtain ⟨h0, o, ho, hd⟩ := mem_ready.1 hi
          have K0 := Lib.hid hII.1
          have K1 := Lib.hid hII.2.1
          have K2 := Lib.hid hII.2.2.1
          have K3 := Lib.hid hII.2.2.2.1
          have hB : Below W5.heap.size W5 wx := hII.2.2.2.2
          have hne := Lib.hid (fun k (hk : i ≠ k) => @listed_ne listed i k hk)
          have g9c := (hTwh.out.below hB).1.cell
          have h0f : listed.getD i false = false := by rw [Array.getD_eq_getD_getElem?, getD_false h0]; rfl
          clear hII hi h0
          rcases (by omega : i = 0 ∨ i = 1 ∨ i = 2 ∨ i = 3) with rfl | rfl | rfl | rfl
          · cases ho
            refine wpOp_step rfl (fun K hK => ?_)
            go_simp
            refine hK _ _ ⟨by simpa using hz, .pointer (some ⟨R, 1, none⟩), v33, v34, v35, rfl, ?_⟩
            exact ⟨fun _ => rfl, fun e => K1.out (hne.out 1 (by decide) e), fun e => K2.out (hne.out 2 (by decide) e), fun e => (by obtain ⟨y0, y1⟩ := K3.out (hne.out 3 (by decide) e); exact ⟨getD_set_true y0, y1⟩), hB⟩
          · cases ho
            have d0 := hd ⟨0, .data⟩ (by simp) rfl
            obtain rfl := K0.out d0
            refine wpOp_step rfl (fun K hK => ?_)
            go_simp
            refine hK _ _ ⟨by simpa using hz, .pointer (some ⟨R, 1, none⟩), .slice A2 k c2, v34, v35, rfl, ?_⟩
            exact ⟨fun e => K0.out (hne.out 0 (by decide) e), fun _ => rfl, fun e => K2.out (hne.out 2 (by decide) e), fun e => (by obtain ⟨y0, y1⟩ := K3.out (hne.out 3 (by decide) e); exact ⟨getD_set_true y0, y1⟩), hB⟩
          · cases ho
            refine wpOp_step rfl (fun K hK => ?_)
            go_simp
            go_at_call 109
            refine (l3Zeros_any _).mono ?_
            rintro e w3 ⟨v3, rfl, hO3q, hb3⟩
            obtain ⟨A3, c3, hv3, _, _⟩ := hO3q.form
            rw [zs_len] at hv3
            subst hv3
            have hO3 : IOwn w3 W5.heap.size (.slice A3 81 c3) (zs 81) := owns_le hO3q hB.size
            refine hK _ _ ⟨by simpa using hz, v32, v33, .slice A3 81 c3, v35, rfl, ?_⟩
            exact ⟨fun e => K0.out (hne.out 0 (by decide) e), fun e => K1.out (hne.out 1 (by decide) e), fun _ => ⟨A3, c3, rfl, hO3⟩, fun e => absurd (K3.out (hne.out 3 (by decide) e)).1 (by rw [h0f]; decide), hB.trans (hb3.mono hB.size)⟩
          · cases ho
            have d2 := hd ⟨2, .data⟩ (by simp) rfl
            obtain ⟨A3, c3, rfl, hO3⟩ := K2.out d2
            refine wpOp_step rfl (fun K hK => ?_)
            go_simp
            refine hK _ _ ⟨by simpa using hz, v32, v33, .slice A3 81 c3, .slice (some ⟨wx.heap.size, 0, none⟩) 1 1, rfl, ?_⟩
            exact ⟨fun e => K0.out (hne.out 0 (by decide) e), fun e => K1.out (hne.out 1 (by decide) e), fun e => (by obtain ⟨A3, c3, y1, y2⟩ := K2.out (hne.out 2 (by decide) e); exact ⟨A3, c3, y1, IOwn.below y2 ((Below.refl _ _).alloc (Nat.le_refl _) _)⟩), fun _ => ⟨getD_set_true d2, A3, c3, _, rfl, rfl, hB.size, Has.new _ _ _⟩, hB.alloc hB.size _⟩
        case hl =>
          rintro listed aq wx ⟨hz, v32, v33, v34, v35, rfl, hII⟩ hall
          have K0 := Lib.hid hII.1
          have K1 := Lib.hid hII.2.1
          have K2 := Lib.hid hII.2.2.1
          have K3 := Lib.hid hII.2.2.2.1
          have hB : Below W5.heap.size W5 wx := hII.2.2.2.2
          have g9c := (hTwh.out.below hB).1.cell
          clear hII
          obtain rfl := K0.out (hall 0 (by decide))
          obtain rfl := K1.out (hall 1 (by decide))
          obtain ⟨A3, c3, rfl, hO3⟩ := K2.out (hall 2 (by decide))
          obtain ⟨_, A4, c4, g9, e9, rfl, hg90, hg9⟩ := K3.out (hall 3 (by decide))
          clear hall K0 K1 K2 K3
          injection e9 with e9 _ e9c
          subst e9 e9c
          have hNx := hTwh.out.below hB
          have hO6 : wx.ownsRow base 24 1 (.slice A2 k c2) k vg := by have h1 := hNx.2.2.1.1; rwa [hrlh.out] at h1
          unfold wpSeq
          refine wpOp_step rfl (fun K0 hK0 => ?_)
          refine step_append_lies _ rfl (.tmp 33) (.tmp 35) 130 rfl base 24 i0 _ 1 24 Try.underlying130 hi0 hz0 hz1' hz2' rfl (by decide) (.slice A2 k c2) k vg (by simp [Act.eval]) hO6 ⟨g9, 0, none⟩ 1 1 [.slice A3 81 c3] (by simp [Act.eval]) rfl (by exact World.news_of_block hg9) (by simp [Value.oneCell']) (by omega) (by unfold maxLen; omega) (by omega) (by have h1 := hB.size; have h2 := hBh.out.size; have h3 := hRe.out; omega) wx.heap.size rfl ?_
          intro gr cr2 w6 hown6 hgrow6 hat6 hlt6
          refine hK0 _ _ ?_
          clear hK0
          unfold wpSeq
          refine wpOp_step rfl (fun K1 hK1 => ?_)
          go_simp
          refine hK1 _ _ ?_
          clear hK1
          have hR6 := hNx.1.but (KeptBut.of_grown hgrow6 fun k e => e) (fun e => by obtain ⟨c2, q2⟩ := owns_has hNx.2.2.1.1 e; exact has_ne hNx.1 q2 tmd_e rfl)
          have hgc6 := hR6.cell
          have hgf6 := hR6.frozen
          unfold wpSeq
          refine wpOp_step rfl (fun K2 hK2 => ?_)
          go_simp
          refine hK2 _ _ ?_
          clear hK2
          unfold wpSeq
          have hTn := Lib.hid (hNx.appg hrlh.out (owns_le hO3 (show base ≤ W5.heap.size by have h2 := hBh.out.size; have h3 := hRe.out; omega)) (hTwh.out.newer hO3) hown6 hgrow6 (hat6.imp id (fun e => by omega)))
          have hBn := Lib.hid (show Below base w (w6.setCell ⟨R, 1, none⟩ (.slice (some ⟨gr, 0, none⟩) (k + 1) cr2)) from (hBh.out.trans ((hB.mono (show base ≤ W5.heap.size by have h2 := hBh.out.size; have h3 := hRe.out; omega)).trans ((KeptBut.of_grown hgrow6 fun k e => e).below (B := base) (fun i hi e => by have := (World.ownsRow.lt hO6 i e).1; omega) (by have h1 := hB.size; have h2 := hBh.out.size; have h3 := hRe.out; omega)))).setCell (p := ⟨R, 1, none⟩) hbw _)
          have hRn2 : R < (w6.setCell ⟨R, 1, none⟩ (.slice (some ⟨gr, 0, none⟩) (k + 1) cr2)).heap.size := by have h1 := hR6.lt; simpa using h1
          clear hgc6 hgf6 hR6 hO6 hNx hown6 hgrow6 hat6 hlt6 hg9 hg90 hO3 hB g9c hTwh hBh hgc hRn
          go_wp2_with fail
          go_roundg (m + 1 - (k + 1))
          case measure => omega
          case rel => exact ⟨k + 1, _, _, _, _, by omega, rfl, by go_num, by rw [List.replicate_succ']; exact hTn.out, hBn.out, hRn2⟩
    · obtain rfl : k = m + 1 := by omega
      obtain ⟨A1, k1, hv1, hl1, _⟩ := hTw.2.1.form
      obtain ⟨A2, k2, hv2, hl2, _⟩ := hTw.2.2.1.form
      rw [List.length_replicate] at hv1 hl1 hv2 hl2
      subst hv1 hv2
      have hRk0 : Rk m (List.replicate (m + 1) (zs 81)) := ⟨List.length_replicate, fun ds hd => by
        rw [List.mem_replicate] at hd
        rw [hd.2]
        exact ⟨zs_len _, fun x hx => by unfold zs at hx; rw [List.mem_replicate] at hx; omega⟩⟩
      obtain ⟨g1, b1, cx1, cur1, rfl, hv1, hcg1, hcb1, hHb1, hbb1, _⟩ := mw_row hTw.2.1 hRk0 (Nat.zero_le m)
      obtain ⟨g2, _, _, _, rfl, _⟩ := mw_row hTw.2.2.1 hRk0 (Nat.zero_le m)
      have e00 : ent (List.replicate (m + 1) (zs 81)) 0 0 = 0 := rfl
      have hTn := hTw.putn hRk0 (Nat.zero_le m) hv1 (show 0 < 81 by decide) 1
      rw [e00] at hTn
      have hTn' := Lib.hid hTn
      have hBn := Lib.hid (hB.setCell (p := ⟨b1, 0, none⟩) hbb1 (.int .i64 (0 + 1)))
      have hc10 := hcb1 0 (by decide)
      have hf10 := hHb1.frozen 0
      have hgc := hTw.1.cell
      have hm1 : (0 : Int) < (m : Int) + 1 := by omega
      rw [e00] at hc10
      rw [show (0 : Int) + 1 = 1 from rfl] at hTn' hBn
      clear hTw hB hv1 hcb1 hHb1 hTn hl1 hl2
      go_wp2_with fail
      clear hc10 hf10 hgc hcg1
      have hMd0 := Lib.hid (show Md2 w (wr.setCell ⟨b1, 0, none⟩ (.int .i64 1)) base R m g1 k1 g2 k2 os a v 0 0 from ⟨_, _, _, _, Gsl.start v h12, hTn'.out, hBn.out⟩)
      have hR0 : R < (wr.setCell ⟨b1, 0, none⟩ (.int .i64 1)).heap.size := by simpa using hRl
      clear hTn' hBn e00 hRk0 hRl
      generalize wr.setCell ⟨b1, 0, none⟩ (.int .i64 1) = W2 at hMd0 hR0 ⊢
      refine wp_loop_f (fun x u => [.slice A m c, .int .i64 a, .int .i64 v, u 3, u 4, u 5, .slice none 0 0, .slice none 0 0, .pointer (some ⟨R, 0, none⟩), u 9, x, u 11, u 12, u 13, u 14, u 15, u 16, u 17, u 18, u 19, u 20, u 21, u 22, u 23, u 24, u 25, u 26, u 27, u 28, u 29, u 30, u 31, u 32, u 33, u 34, u 35, u 36, u 37, u 38, u 39, u 40, u 41, u 42, u 43, u 44, u 45, u 46, u 47, u 48, u 49, u 50, u 51, u 52, u 53, u 54, u 55, u 56, u 57, u 58, u 59, u 60, u 61, u 62, u 63, u 64, u 65, u 66, u 67, u 68, u 69, u 70, u 71, u 72, u 73, u 74, u 75, u 76, u 77, u 78, u 79, u 80, u 81, u 82, u 83, u 84, u 85, u 86, u 87, u 88, u 89, u 90, u 91, u 92, u 93, u 94, u 95, u 96, u 97, u 98, u 99, u 100, u 101, u 102, u 103, u 104, u 105, u 106, u 107, u 108, u 109, u 110, u 111, u 112, u 113, u 114, u 115, u 116, u 117, u 118, u 119, u 120, u 121, u 122, u 123, u 124, u 125, u 126, u 127, u 128, u 129, u 130, u 131, u 132, u 133, u 134, u 135, u 136, u 137, u 138, u 139, u 140, u 141, u 142, u 143, u 144, u 145, u 146, u 147, u 148, u 149, u 150, u 151, u 152, u 153, u 154, u 155, u 156, u 157, u 158, u 159, u 160, u 161, u 162, u 163, u 164, u 165, u 166, u 167, u 168, u 169, u 170, u 171, u 172, u 173, u 174, u 175, u 176, u 177, u 178, u 179, u 180, u 181, u 182, u 183, u 184, u 185, u 186, u 187, u 188, u 189, u 190, u 191, u 192, u 193, u 194, u 195, u 196, u 197, u 198, u 199, u 200, u 201, u 202, u 203, u 204, u 205, u 206, u 207, u 208, u 209, u 210, u 211, u 212, u 213, u 214, u 215, u 216, u 217, u 218, u 219, u 220, u 221, u 222, u 223, u 224, u 225, u 226, u 227, u 228, u 229, u 230, u 231, u 232, u 233, u 234, u 235, u 236, u 237, u 238, u 239, u 240, u 241, u 242, u 243, u 244, u 245, u 246, u 247, u 248, u 249, u 250, u 251, u 252, u 253, u 254, u 255, u 256, u 257, u 258, u 259, u 260, u 261, u 262, u 263, u 264, u 265, u 266, u 267, u 268]) (fun gn u wq => ∃ i : Nat, i ≤ m ∧ gn = m - i ∧ u = .int .i64 i ∧ Md2 w wq base R m g1 k1 g2 k2 os a v i 0) (m) (.int .i64 (0 : Nat)) (by kernel_rfl) ?_ ?_
      · exact ⟨0, Nat.zero_le _, rfl, rfl, hMd0.out⟩
      · intro gk x9 u9 wr hrel J K hJ1 hK
        try dsimp only
        clear hMd0 hR0
        obtain ⟨wq, rfl⟩ : ∃ x, x = wr := ⟨_, rfl⟩
        obtain ⟨i, hi, hgn, rfl, hD⟩ := hrel
        have hgi : gk = m - i := hgn
        clear hgn
        by_cases him : i < m
        · have hBq : Below base w wq := by
            obtain ⟨_, _, _, _, _, _, h⟩ := hD
            exact h
          obtain ⟨gs9, off, s, rfl, hgs, hs, hat⟩ := (hLs.out.below hBq).at_ him
          obtain ⟨c0, c1, c2, c3, c4, c5, c6⟩ := hat.open_
          have hS := Lib.hid hs
          have hsok := hOk.out s (List.mem_of_getElem? hs)
          have hSok := Lib.hid hsok
          have hhw := Lib.hid (show i = a → s.hasW = true from fun e => by
            subst e
            have := hs.symm.trans hT.out.1
            injection this with this
            rw [this]
            exact hT.out.2)
          have hzq : base ≤ wq.heap.size := by have := hBq.size; have := hRe.out; omega
          have hAl : Below wq.heap.size wq (wq.alloc (.cells #[.int .i64 s.k, .int .i64 s.a, .int .i64 s.b, .int .i64 s.c, .int .i64 s.u, .int .i64 s.v, .int .i64 s.x] 78)) := (Below.refl _ _).alloc (Nat.le_refl _) _
          have hD1 := Lib.hid (hD.below hAl hzq)
          have hG1 := Lib.hid (Has.new wq 78 #[.int .i64 s.k, .int .i64 s.a, .int .i64 s.b, .int .i64 s.c, .int .i64 s.u, .int .i64 s.v, .int .i64 s.x])
          have hi0' : (0 : Int) ≤ (i : Int) := by omega
          have hi1' : (i : Int) < (m : Int) := by omega
          have cD := Lib.hid (fun wx => l2Draws_any s wx)
          clear hs hat hD hBq hAl hsok
          go_wp2_with fail
          generalize wq.alloc (.cells #[.int .i64 s.k, .int .i64 s.a, .int .i64 s.b, .int .i64 s.c, .int .i64 s.u, .int .i64 s.v, .int .i64 s.x] 78) = W3 at hD1 hG1 ⊢
          generalize wq.heap.size = G at hG1 ⊢
          clear c0 c1 c2 c3 c4 c5 c6
          refine wp_loop_f (fun x u => [.slice (some ⟨gs9, off, none⟩) m c, .int .i64 a, .int .i64 v, u 3, u 4, u 5, .slice none 0 0, .slice none 0 0, .pointer (some ⟨R, 0, none⟩), u 9, .int .i64 i, .pointer (some ⟨G, 0, none⟩), x, u 13, u 14, u 15, u 16, u 17, u 18, u 19, u 20, u 21, u 22, u 23, u 24, u 25, u 26, u 27, u 28, u 29, u 30, u 31, u 32, u 33, u 34, u 35, u 36, u 37, u 38, u 39, u 40, u 41, u 42, u 43, u 44, u 45, u 46, u 47, u 48, u 49, u 50, u 51, u 52, u 53, u 54, u 55, u 56, u 57, u 58, u 59, u 60, u 61, u 62, u 63, u 64, u 65, u 66, u 67, u 68, u 69, u 70, u 71, u 72, u 73, u 74, u 75, u 76, u 77, u 78, u 79, u 80, u 81, u 82, u 83, u 84, u 85, u 86, u 87, u 88, u 89, u 90, u 91, u 92, u 93, u 94, u 95, u 96, u 97, u 98, u 99, u 100, u 101, u 102, u 103, u 104, u 105, u 106, u 107, u 108, u 109, u 110, u 111, u 112, u 113, u 114, u 115, u 116, u 117, u 118, u 119, u 120, u 121, u 122, u 123, u 124, u 125, u 126, u 127, u 128, u 129, u 130, u 131, u 132, u 133, u 134, u 135, u 136, u 137, u 138, u 139, u 140, u 141, u 142, u 143, u 144, u 145, u 146, u 147, u 148, u 149, u 150, u 151, u 152, u 153, u 154, u 155, u 156, u 157, u 158, u 159, u 160, u 161, u 162, u 163, u 164, u 165, u 166, u 167, u 168, u 169, u 170, u 171, u 172, u 173, u 174, u 175, u 176, u 177, u 178, u 179, u 180, u 181, u 182, u 183, u 184, u 185, u 186, u 187, u 188, u 189, u 190, u 191, u 192, u 193, u 194, u 195, u 196, u 197, u 198, u 199, u 200, u 201, u 202, u 203, u 204, u 205, u 206, u 207, u 208, u 209, u 210, u 211, u 212, u 213, u 214, u 215, u 216, u 217, u 218, u 219, u 220, u 221, u 222, u 223, u 224, u 225, u 226, u 227, u 228, u 229, u 230, u 231, u 232, u 233, u 234, u 235, u 236, u 237, u 238, u 239, u 240, u 241, u 242, u 243, u 244, u 245, u 246, u 247, u 248, u 249, u 250, u 251, u 252, u 253, u 254, u 255, u 256, u 257, u 258, u 259, u 260, u 261, u 262, u 263, u 264, u 265, u 266, u 267, u 268]) (fun gn u wy => ∃ z : Nat, z ≤ 81 ∧ gn = 81 - z ∧ u = .int .i64 z ∧ Md2 w wy base R m g1 k1 g2 k2 os a v i z ∧ Has wy G 78 #[.int .i64 s.k, .int .i64 s.a, .int .i64 s.b, .int .i64 s.c, .int .i64 s.u, .int .i64 s.v, .int .i64 s.x]) (81) (.int .i64 (0 : Nat)) (by kernel_rfl) ?_ ?_
          · exact ⟨0, by omega, rfl, rfl, hD1.out, hG1.out⟩
          · intro gk x9 u9 wr hrel J K hJ2 hK
            try dsimp only
            clear hD1 hG1
            obtain ⟨wy, rfl⟩ : ∃ x, x = wr := ⟨_, rfl⟩
            obtain ⟨z, hz, hgn, rfl, hD, hG⟩ := hrel
            have hgz : gk = 81 - z := hgn
            clear hgn
            by_cases hz81 : z < 81
            · obtain ⟨ns, gs, vn, vg, hGs, hTw, hB⟩ := hD
              obtain ⟨g1', bn, cxn, curn, en, hvn, hcgn, hcbn, hHbn, hbbn, _⟩ := mw_row hTw.2.1 hGs.1 hi
              injection en with en
              injection en with en _ _
              subst en
              obtain ⟨g2', bg, cxg, curg, eg, hvg, hcgg, hcbg, hHbg, hbbg, _⟩ := mw_row hTw.2.2.1 hGs.2.1 hi
              injection eg with eg
              injection eg with eg _ _
              subst eg
              have hcn := hcbn z hz81
              have hcg := hcbg z hz81
              have hgc := hTw.1.cell
              have hcs := hG.cell
              have hzi0 : (0 : Int) ≤ (z : Int) := by omega
              have hzi1 : (z : Int) < 81 := by omega
              have hki : (i : Int) < (m : Int) + 1 := by omega
              have hst : 0 ≤ (z : Int) ∧ (z : Int) ≤ 80 := by omega
              obtain ⟨hN, hGq, hcap⟩ := hGs.cap hSok.out.1 him hz81
              have hCap := Lib.hid hcap
              have hStep := Lib.hid (hGs.step hM.out ham hSok.out.1 him hz81 hS.out hhw.out)
              have hRk1 := Lib.hid hGs.1
              have hRk2 := Lib.hid hGs.2.1
              have hTw1 := Lib.hid hTw
              have hB1 := Lib.hid hB
              have hG1 := Lib.hid hG
              have hzy : base ≤ wy.heap.size := by have := hB.size; have := hRe.out; omega
              clear hGs hTw hB hG hcap hvn hvg hcbn hcbg hHbn hHbg
              generalize hnn : ent ns i z = n at hcn hN hCap hStep
              generalize hgg : ent gs i z = q at hcg hGq hCap hStep
              clear hnn hgg
              cases hdr : s.draws
              · have cD' := Lib.hid (fun wx => cD.out wx)
                rw [hdr] at cD'
                have hmany := Lib.hid (show s.many = 1 from by unfold St.many; rw [hdr]; rfl)
                have hdr' := Lib.hid hdr
                clear hdr
                go_wp2_with fail
                refine (cD'.out _).mono ?_
                rintro e w3 ⟨rfl, hb3⟩
                have hT3 := Lib.hid (hTw1.out.below hb3)
                have hB3 := Lib.hid (hB1.out.trans (hb3.mono hzy))
                have hG3 := Lib.hid (hG1.out.kept hb3)
                have hcs3 := hG3.out.cell
                have hz3 : base ≤ w3.heap.size := Nat.le_trans hzy hb3.size
                have hAl := (Below.refl w3.heap.size w3).alloc (Nat.le_refl _) (.cells #[.int .i64 i, .int .i64 z, .int .i64 1] 135)
                have hRr := Has.new w3 135 #[.int .i64 i, .int .i64 z, .int .i64 1]
                have hT4 := Lib.hid (hT3.out.below hAl)
                have hB4 := Lib.hid (hB3.out.alloc hz3 (.cells #[.int .i64 i, .int .i64 z, .int .i64 1] 135))
                have hG4 := Lib.hid (hG3.out.alloc (.cells #[.int .i64 i, .int .i64 z, .int .i64 1] 135))
                have cO := Lib.hid (l2OwV_any s ⟨i, z, 1⟩ w3.heap.size _ hSok.out.1 hdr'.out hSok.out.2 (by show 0 ≤ (z : Int) ∧ (z : Int) ≤ 80; omega) (by show (0 : Int) ≤ 1 ∧ (1 : Int) ≤ 1000000000000000000; decide) (show i ≤ 12 by omega) hRr)
                have hRr' := Lib.hid hRr
                have hcs4 := hG4.out.cell
                clear hb3 hcn hcg hcgn hcgg hgc hcs hRr hAl
                go_wp2_with fail
                have hRne : w3.heap.size ≠ G := has_ne hRr'.out hG4.out tmd_c
                have hRb : base ≤ w3.heap.size := hz3
                have hRl := hRr'.out.lt
                generalize w3.alloc (.cells #[.int .i64 i, .int .i64 z, .int .i64 1] 135) = W4 at hT4 hB4 hG4 cO hRr' hcs4 hRl ⊢
                generalize w3.heap.size = Rr at cO hRr' hRne hRb hRl ⊢
                clear hcs4 hcs3 hT3 hB3 hG3 hz3
                refine (cO.out).mono ?_
                rintro e w5 ⟨rfl, hRn, hCh⟩
                have hk5 := chg_but hCh
                have hT5 := Lib.hid (hT4.out.chg hRr'.out hk5)
                have hB5 := Lib.hid (hB4.out.trans (hk5.below (B := base) (fun j hj e => by have e' : j = Rr := e; omega) (by omega)))
                have hG5 := Lib.hid (hG4.out.but hk5 (fun e => hRne e.symm))
                obtain ⟨pp, hpp⟩ : ∃ pp, pp = i + 1 + s.jump z := ⟨_, rfl⟩
                have hp2 : pp ≤ 100 := by
                  have h1 : s.jump z ≤ 12 := by
                    unfold St.jump
                    split
                    · have := ok_rng (k := s.k) (a := s.a) (b := s.b) (c := s.c) (u := s.u) (v := s.v) (x := s.x) hSok.out.1
                      omega
                    · omega
                  omega
                have hq3 := next_bd hSok.out.1 (x := (0 : Int)) hst (by decide)
                obtain ⟨y, hy⟩ : ∃ y : Nat, s.next z 0 = (y : Int) := ⟨(s.next z 0).toNat, (Int.toNat_of_nonneg hq3.1).symm⟩
                have hf := fac_bd hSok.out.1 (s.next z 0)
                have hRn2 : Has w5 Rr 135 #[.int .i64 pp, .int .i64 y, .int .i64 (s.fac (s.next z 0))] := by
                  have h := hRn
                  rw [show (Rn.step s ⟨i, z, 1⟩ 0).pos = pp from hpp.symm, show (Rn.step s ⟨i, z, 1⟩ 0).st = y from hy, show (Rn.step s ⟨i, z, 1⟩ 0).wt = s.fac (s.next z 0) from Int.one_mul _] at h
                  exact h
                have hk45 : i = a → s.k = 4 ∨ s.k = 5 := fun e => by
                  have h1 := inB_iff.1 (show inB s.k 2 5 = true from hhw.out e)
                  have h2 := hdr'.out
                  unfold St.draws at h2
                  simp at h2
                  omega
                have hnz : i = a → s.next z 0 = z := fun e => by
                  rcases hk45 e with e1 | e1 <;> simp [St.next, e1]
                obtain ⟨P, hP⟩ : ∃ P, P = min pp m := ⟨_, rfl⟩
                have hPm : P ≤ m := by omega
                have hiP : i + 1 ≤ P := by omega
                obtain ⟨⟨hr3, ht3⟩, hr4, ht4⟩ := hCap.out 1 (by omega)
                have hmd : mD m ns s ⟨i, z, n⟩ 1 = addc ns P y (n * s.fac (s.next z 0)) := by
                  show addc ns (min (i + 1 + s.jump z) m) (s.next z 0).toNat (n * s.fac (s.next z 0)) = _
                  rw [hy, Int.toNat_natCast, ← hpp, ← hP]
                have hgd9 : gD m s v (decide (i = a)) n gs ⟨i, z, q⟩ 1 = if (decide (i = a) && decide (s.uses (s.next z 0) = v)) = true then addc (addc gs P y (q * s.fac (s.next z 0))) P y n else addc gs P y (q * s.fac (s.next z 0)) := by
                  show gAdd m s v (decide (i = a)) n gs (Rn.step s ⟨i, z, q⟩ 0) = _
                  have e : ∀ (X : List (List Int)) (u9 : Int), toM m X ⟨(Rn.step s ⟨i, z, q⟩ 0).pos, (Rn.step s ⟨i, z, q⟩ 0).st, u9⟩ = addc X P y u9 := fun X u9 => by
                    show addc X (min (i + 1 + s.jump z) m) (s.next z 0).toNat u9 = _
                    rw [hy, Int.toNat_natCast, ← hpp, ← hP]
                  have e1 : toM m gs (Rn.step s ⟨i, z, q⟩ 0) = addc gs P y (q * s.fac (s.next z 0)) := e _ _
                  unfold gAdd
                  rw [e, e1]
                  rfl
                have cV := Lib.hid (fun wx (h : s.k = 4 ∨ s.k = 5) => l12Value_any s z wx hSok.out.1 h hst)
                have huu := Lib.hid (show i = a → s.uses (s.next z 0) = s.uses z from fun e => by rw [hnz e])
                clear hRn hCh hk5
                generalize s.fac (s.next z 0) = f at hf hRn2 hmd hgd9
                have hy81 : y < 81 := by omega
                have hn1 := Int.le_trans (tailM_ent hr3 hiP hPm hy81).2 ht3
                have hn2 := Int.le_trans (tailM_ent hr4 hiP hPm hy81).2 ht4
                have hr5 : Rk m (addc gs P y (q * f)) := hRk2.out.add hPm hy81 (Int.mul_nonneg hGq.1 hf.1)
                rw [hmd, ent_add hRk1.out hPm hy81, if_pos (And.intro rfl rfl)] at hn1
                have hnf : 0 ≤ n * f ∧ n * f ≤ n * 9 := ⟨Int.mul_nonneg hN.1 hf.1, Int.mul_le_mul_of_nonneg_left hf.2 hN.1⟩
                have hqf : 0 ≤ q * f ∧ q * f ≤ q * 9 := ⟨Int.mul_nonneg hGq.1 hf.1, Int.mul_le_mul_of_nonneg_left hf.2 hGq.1⟩
                have e26 := ent_add hRk2.out hPm hy81 (x := q * f) P y
                rw [if_pos (And.intro rfl rfl)] at e26
                have hn3 : ent gs P y + q * f ≤ 1000000000000000000 := by
                  rw [hgd9] at hn2
                  split at hn2
                  · rw [ent_add hr5 hPm hy81, if_pos (And.intro rfl rfl), e26] at hn2
                    omega
                  · rw [e26] at hn2
                    omega
                have hn4 : (decide (i = a) && decide (s.uses (s.next z 0) = v)) = true → ent gs P y + q * f + n ≤ 1000000000000000000 := fun e => by
                  rw [hgd9, if_pos e, ent_add hr5 hPm hy81, if_pos (And.intro rfl rfl), e26] at hn2
                  omega
                have hmdh := Lib.hid hmd
                have hgdh := Lib.hid hgd9
                have hr5h := Lib.hid hr5
                have e26h := Lib.hid e26
                have hb1 := (hRk1.out.ent hPm hy81).2
                have hb2 := (hRk2.out.ent hPm hy81).2
                clear hmd hgd9 ht3 ht4 hr3 hr4 hn2 hq3 hr5 e26 hy hnz
                generalize s.uses (s.next z 0) = us at hn4 hgdh huu
                have hw1 : IntKind.i64.wrap (n * f) = n * f := IntWalk.i64_in _ (by omega)
                have hw2 : IntKind.i64.wrap (q * f) = q * f := IntWalk.i64_in _ (by omega)
                have hw5 : IntKind.i64.wrap (ent ns P y + n * f) = ent ns P y + n * f := IntWalk.i64_in _ (by omega)
                have hw6 : IntKind.i64.wrap (ent gs P y + q * f) = ent gs P y + q * f := IntWalk.i64_in _ (by omega)
                have hy0 : (0 : Int) ≤ (y : Int) := by omega
                have hy1 : (y : Int) < 81 := by omega
                have ht0 : (0 : Int) ≤ (P : Int) := by omega
                have ht1 : (P : Int) < (m : Int) + 1 := by omega
                have hPc := Lib.hid (show (m < pp → m = P) ∧ (¬ m < pp → P = pp) from ⟨fun h => by omega, fun h => by omega⟩)
                clear hP hpp
                have hRn' := Lib.hid hRn2
                have hcr := hRn2.cell
                have hfr := hRn2.frozen
                have hk45' := Lib.hid hk45
                have hn4' := Lib.hid hn4
                clear hRn2 hk45 hn4
                go_upto_if 169 with (fail)
                go_cut [] from 165 to 172 (fun wc => Has wc Rr 135 #[.int .i64 P, .int .i64 y, .int .i64 f] ∧ Tw wc base R (.slice (some ⟨g1, 0, none⟩) (m + 1) k1) (.slice (some ⟨g2, 0, none⟩) (m + 1) k2) ns gs vn vg ∧ Below base w wc ∧ Has wc G 78 #[.int .i64 s.k, .int .i64 s.a, .int .i64 s.b, .int .i64 s.c, .int .i64 s.u, .int .i64 s.v, .int .i64 s.x])
                case first =>
                  by_cases hpk : m < pp
                  · obtain rfl : m = P := hPc.out.1 hpk
                    go_wp2_with fail
                    go_meet
                    case rel =>
                      have hk6 : KeptBut w5 (w5.setCell ⟨Rr, 0, none⟩ (.int .i64 m)) (fun i => i = Rr) := KeptBut.put (KeptBut.refl w5 (fun i => i = Rr)) (p := ⟨Rr, 0, none⟩) (fun _ => rfl) _
                      exact ⟨by simpa using hRn'.out.put 0 (.int .i64 m), hT5.out.chg hRn'.out hk6, hB5.out.setCell (p := ⟨Rr, 0, none⟩) hRb _, hG5.out.but hk6 (fun e => hRne e.symm)⟩
                  · have e9 : P = pp := hPc.out.2 hpk
                    subst e9
                    go_wp2_with fail
                    go_meet
                    case rel => exact ⟨hRn'.out, hT5.out, hB5.out, hG5.out⟩
                case rest =>
                  obtain ⟨hR6, hT6, hB6, hG6⟩ := hcut
                  obtain ⟨W6, rfl⟩ : ∃ x, x = wc := ⟨_, rfl⟩
                  have hR6 := Lib.hid hR6
                  have hT6 := Lib.hid hT6
                  have hB6 := Lib.hid hB6
                  have hG6 := Lib.hid hG6
                  clear hcr hfr
                  go_wp2_with fail
                  obtain ⟨gq, bq, cxq, curq, eq9, hvq, hcgq, hcbq, hHbq, hbbq, _⟩ := mw_row hT6.out.2.1 hRk1.out hPm
                  injection eq9 with eq9
                  injection eq9 with eq9 _ _
                  subst eq9
                  have hcvq := hcbq y hy81
                  have hfbq := hHbq.frozen
                  have hgcq := hT6.out.1.cell
                  have hneG : G ≠ bq := has_ne hG6.out hHbq (Ne.symm tmd_d)
                  have hTa := Lib.hid ((hT6.out.putn hRk1.out hPm hvq hy81 (n * f)).below ((Below.refl _ _).drew))
                  have hGa := Lib.hid ((hG6.out.far (p := ⟨bq, y, none⟩) (by show G ≠ bq; exact hneG) (.int .i64 (ent ns P y + n * f))).kept ((Below.refl _ _).drew))
                  have hBa := Lib.hid ((hB6.out.setCell (p := ⟨bq, y, none⟩) hbbq (.int .i64 (ent ns P y + n * f))).drew)
                  have hcr := hR6.out.cell
                  have hneR : Rr ≠ bq := has_ne hR6.out hHbq tmd_a
                  have hRa := Lib.hid ((hR6.out.far (p := ⟨bq, y, none⟩) (by show Rr ≠ bq; exact hneR) (.int .i64 (ent ns P y + n * f))).kept ((Below.refl _ _).drew))
                  clear hcbq hHbq hvq
                  go_still_tail 24, (by kernel_rfl)
                  repeat still_step
                  try (refine wpStill_nil ?_)
                  try (change wpList _ _ _ _ _ (World.drew W6))
                  go_wp2_with fail
                  clear hcvq hfbq hgcq hcgq hT6 hB6 hG6 hcr hR6
                  generalize (W6.setCell ⟨bq, y, none⟩ (.int .i64 (ent ns P y + n * f))).drew = Wa at hTa hGa hBa hRa ⊢
                  obtain ⟨gq, bq, cxq, curq, eq9, hvq, hcgq, hcbq, hHbq, hbbq, _⟩ := mw_row hTa.out.2.2.1 hRk2.out hPm
                  injection eq9 with eq9
                  injection eq9 with eq9 _ _
                  subst eq9
                  have hcvq := hcbq y hy81
                  have hfbq := hHbq.frozen
                  have hgcq := hTa.out.1.cell
                  have hneG : G ≠ bq := has_ne hGa.out hHbq (Ne.symm tmd_d)
                  have hTb := Lib.hid ((hTa.out.putg hRk2.out hPm hvq hy81 (q * f)).below ((Below.refl _ _).drew))
                  have hGb := Lib.hid ((hGa.out.far (p := ⟨bq, y, none⟩) (by show G ≠ bq; exact hneG) (.int .i64 (ent gs P y + q * f))).kept ((Below.refl _ _).drew))
                  have hBb := Lib.hid ((hBa.out.setCell (p := ⟨bq, y, none⟩) hbbq (.int .i64 (ent gs P y + q * f))).drew)
                  have hcr := hRa.out.cell
                  have hneR : Rr ≠ bq := has_ne hRa.out hHbq tmd_a
                  have hRb := Lib.hid ((hRa.out.far (p := ⟨bq, y, none⟩) (by show Rr ≠ bq; exact hneR) (.int .i64 (ent gs P y + q * f))).kept ((Below.refl _ _).drew))
                  clear hcbq hHbq hvq
                  go_still_tail 24, (by kernel_rfl)
                  repeat still_step
                  try (refine wpStill_nil ?_)
                  try (change wpList _ _ _ _ _ (World.drew Wa))
                  go_upto_region 33 with (fail)
                  clear hcvq hfbq hgcq hcgq hTa hBa hGa hcr hRa
                  generalize (Wa.setCell ⟨bq, y, none⟩ (.int .i64 (ent gs P y + q * f))).drew = Wb at hTb hGb hBb hRb ⊢
                  by_cases hia : i = a
                  · have hie : ((i : Int) == (a : Int)) = true := by rw [hia]; exact beq_self_eq_true _
                    have hia' := Lib.hid hia
                    have hk4 : 4 ≤ s.k := by have := hk45'.out hia; omega
                    clear hia
                    by_cases huv : s.uses z = v
                    · have huv' := Lib.hid huv
                      have hub : (s.uses z == v) = true := by rw [huv]; exact beq_self_eq_true _
                      have hn5 := hn4'.out (by rw [huu.out hia'.out, hia'.out, huv'.out]; simp)
                      have hw8 : IntKind.i64.wrap (ent (addc gs P y (q * f)) P y + n) = ent (addc gs P y (q * f)) P y + n := IntWalk.i64_in _ (by rw [e26h.out]; omega)
                      have hGS := Lib.hid (hgdh.out.trans (if_pos (by rw [huu.out hia'.out, hia'.out, huv'.out]; simp)))
                      clear huv
                      have hcs := hGb.out.cell
                      go_wp2_with fail
                      refine (cV.out _ (hk45'.out hia'.out)).mono ?_
                      rintro e Wc ⟨rfl, hb9⟩
                      have hzb : base ≤ Wb.heap.size := by have := hBb.out.size; have := hRe.out; omega
                      have hTc := Lib.hid (hTb.out.below hb9)
                      have hBc := Lib.hid (hBb.out.trans (hb9.mono hzb))
                      have hGc := Lib.hid (hGb.out.kept hb9)
                      have hRc := Lib.hid (hRb.out.kept hb9)
                      clear hb9 hTb hBb hGb hRb hzb hcs
                      go_wp2_with fail
                      obtain ⟨gq, bq, cxq, curq, eq9, hvq, hcgq, hcbq, hHbq, hbbq, _⟩ := mw_row hTc.out.2.2.1 hr5h.out hPm
                      injection eq9 with eq9
                      injection eq9 with eq9 _ _
                      subst eq9
                      have hcvq := hcbq y hy81
                      have hfbq := hHbq.frozen
                      have hgcq := hTc.out.1.cell
                      have hneG : G ≠ bq := has_ne hGc.out hHbq (Ne.symm tmd_d)
                      have hTd := Lib.hid ((hTc.out.putg hr5h.out hPm hvq hy81 (n)).below ((Below.refl _ _).drew))
                      have hGd := Lib.hid ((hGc.out.far (p := ⟨bq, y, none⟩) (by show G ≠ bq; exact hneG) (.int .i64 (ent (addc gs P y (q * f)) P y + n))).kept ((Below.refl _ _).drew))
                      have hBd := Lib.hid ((hBc.out.setCell (p := ⟨bq, y, none⟩) hbbq (.int .i64 (ent (addc gs P y (q * f)) P y + n))).drew)
                      have hcr := hRc.out.cell
                      have hneR : Rr ≠ bq := has_ne hRc.out hHbq tmd_a
                      have hRd := Lib.hid ((hRc.out.far (p := ⟨bq, y, none⟩) (by show Rr ≠ bq; exact hneR) (.int .i64 (ent (addc gs P y (q * f)) P y + n))).kept ((Below.refl _ _).drew))
                      clear hcbq hHbq hvq
                      go_still_tail 21, (by kernel_rfl)
                      repeat still_step
                      try (refine wpStill_nil ?_)
                      try (change wpList _ _ _ _ _ (World.drew Wc))
                      go_wp2_with fail
                      clear hcvq hfbq hgcq hcgq hTc hBc hGc hcr hRc
                      generalize (Wc.setCell ⟨bq, y, none⟩ (.int .i64 (ent (addc gs P y (q * f)) P y + n))).drew = Wd at hTd hGd hBd hRd ⊢
                      refine Handed.intro (81 - (z + 1)) ?measure (hJ2.out _ (.int .i64 ((z : Int) + 1)) _ _ (by kernel_rfl) ?rel)
                      case measure => omega
                      case rel => exact ⟨z + 1, by omega, rfl, by go_num, ⟨_, _, vn, vg, by have h := hStep.out; rw [hmany.out, hmdh.out, hGS.out] at h; exact h, hTd.out, hBd.out⟩, hGd.out⟩
                    · have huv' := Lib.hid huv
                      have hub : (s.uses z == v) = false := by rw [beq_eq_false_iff_ne]; exact huv
                      have hGS := Lib.hid (hgdh.out.trans (if_neg (by rw [huu.out hia'.out, decide_eq_false huv'.out, Bool.and_false]; decide)))
                      clear huv
                      have hcs := hGb.out.cell
                      go_wp2_with fail
                      refine (cV.out _ (hk45'.out hia'.out)).mono ?_
                      rintro e Wc ⟨rfl, hb9⟩
                      have hzb : base ≤ Wb.heap.size := by have := hBb.out.size; have := hRe.out; omega
                      have hTc := Lib.hid (hTb.out.below hb9)
                      have hBc := Lib.hid (hBb.out.trans (hb9.mono hzb))
                      have hGc := Lib.hid (hGb.out.kept hb9)
                      have hRc := Lib.hid (hRb.out.kept hb9)
                      clear hb9 hTb hBb hGb hRb hzb hcs
                      go_wp2_with fail
                      refine Handed.intro (81 - (z + 1)) ?measure (hJ2.out _ (.int .i64 ((z : Int) + 1)) _ _ (by kernel_rfl) ?rel)
                      case measure => omega
                      case rel => exact ⟨z + 1, by omega, rfl, by go_num, ⟨_, _, vn, vg, by have h := hStep.out; rw [hmany.out, hmdh.out, hGS.out] at h; exact h, hTc.out, hBc.out⟩, hGc.out⟩
                  · have hie : ((i : Int) == (a : Int)) = false := by rw [beq_eq_false_iff_ne]; omega
                    have hia' := Lib.hid hia
                    clear hia
                    have hGS := Lib.hid (hgdh.out.trans (if_neg (by rw [decide_eq_false hia'.out, Bool.false_and]; decide)))
                    go_wp2_with fail
                    refine Handed.intro (81 - (z + 1)) ?measure (hJ2.out _ (.int .i64 ((z : Int) + 1)) _ _ (by kernel_rfl) ?rel)
                    case measure => omega
                    case rel => exact ⟨z + 1, by omega, rfl, by go_num, ⟨_, _, vn, vg, by have h := hStep.out; rw [hmany.out, hmdh.out, hGS.out] at h; exact h, hTb.out, hBb.out⟩, hGb.out⟩
              · have cD' := Lib.hid (fun wx => cD.out wx)
                rw [hdr] at cD'
                have hmany := Lib.hid (show s.many = 3 from by unfold St.many; rw [hdr]; rfl)
                have hdr' := Lib.hid hdr
                clear hdr
                go_wp2_with fail
                refine (cD'.out _).mono ?_
                rintro e w3 ⟨rfl, hb3⟩
                have hT3 := Lib.hid (hTw1.out.below hb3)
                have hB3 := Lib.hid (hB1.out.trans (hb3.mono hzy))
                have hG3 := Lib.hid (hG1.out.kept hb3)
                clear hb3 hcn hcg hcgn hcgg hgc hcs
                go_wp2_with fail
                refine wp_loop_f (fun x u => [.slice (some ⟨gs9, off, none⟩) m c, .int .i64 a, .int .i64 v, u 3, u 4, u 5, .slice none 0 0, .slice none 0 0, .pointer (some ⟨R, 0, none⟩), u 9, .int .i64 i, .pointer (some ⟨G, 0, none⟩), .int .i64 z, .int .i64 n, .int .i64 q, x, u 16, u 17, u 18, u 19, u 20, u 21, u 22, u 23, u 24, u 25, u 26, u 27, u 28, u 29, u 30, u 31, u 32, u 33, u 34, u 35, u 36, u 37, u 38, u 39, u 40, u 41, u 42, u 43, u 44, u 45, u 46, u 47, u 48, u 49, u 50, u 51, u 52, u 53, u 54, u 55, u 56, u 57, u 58, u 59, u 60, u 61, u 62, u 63, u 64, u 65, u 66, u 67, u 68, u 69, u 70, u 71, u 72, u 73, u 74, u 75, u 76, u 77, u 78, u 79, u 80, u 81, u 82, u 83, u 84, u 85, u 86, u 87, u 88, u 89, u 90, u 91, u 92, u 93, u 94, u 95, u 96, u 97, u 98, u 99, u 100, u 101, u 102, u 103, u 104, u 105, u 106, u 107, u 108, u 109, u 110, u 111, u 112, u 113, u 114, u 115, u 116, u 117, u 118, u 119, u 120, u 121, u 122, u 123, u 124, u 125, u 126, u 127, u 128, u 129, u 130, u 131, u 132, u 133, u 134, u 135, u 136, u 137, u 138, u 139, u 140, u 141, u 142, u 143, u 144, u 145, u 146, u 147, u 148, u 149, u 150, u 151, u 152, u 153, u 154, u 155, u 156, u 157, u 158, u 159, u 160, u 161, u 162, u 163, u 164, u 165, u 166, u 167, u 168, u 169, u 170, u 171, u 172, u 173, u 174, u 175, u 176, u 177, u 178, u 179, u 180, u 181, u 182, u 183, u 184, u 185, u 186, u 187, u 188, u 189, u 190, u 191, u 192, u 193, u 194, u 195, u 196, u 197, u 198, u 199, u 200, u 201, u 202, u 203, u 204, u 205, u 206, u 207, u 208, u 209, u 210, u 211, u 212, u 213, u 214, u 215, u 216, u 217, u 218, u 219, u 220, u 221, u 222, u 223, u 224, u 225, u 226, u 227, u 228, u 229, u 230, u 231, u 232, u 233, u 234, u 235, u 236, u 237, u 238, u 239, u 240, u 241, u 242, u 243, u 244, u 245, u 246, u 247, u 248, u 249, u 250, u 251, u 252, u 253, u 254, u 255, u 256, u 257, u 258, u 259, u 260, u 261, u 262, u 263, u 264, u 265, u 266, u 267, u 268]) (fun gn u wz => ∃ d : Nat, d ≤ 3 ∧ gn = 3 - d ∧ u = .int .i64 d ∧ Tw wz base R (.slice (some ⟨g1, 0, none⟩) (m + 1) k1) (.slice (some ⟨g2, 0, none⟩) (m + 1) k2) (mD m ns s ⟨i, z, n⟩ d) (gD m s v (decide (i = a)) n gs ⟨i, z, q⟩ d) vn vg ∧ Below base w wz ∧ Has wz G 78 #[.int .i64 s.k, .int .i64 s.a, .int .i64 s.b, .int .i64 s.c, .int .i64 s.u, .int .i64 s.v, .int .i64 s.x]) (3) (.int .i64 (0 : Nat)) (by kernel_rfl) ?_ ?_
                · exact ⟨0, by omega, rfl, rfl, hT3.out, hB3.out, hG3.out⟩
                · intro gk x9 u9 wr hrel J K hJ3 hK
                  try dsimp only
                  clear hT3 hB3 hG3
                  obtain ⟨wz, rfl⟩ : ∃ x, x = wr := ⟨_, rfl⟩
                  obtain ⟨d, hd, hgn, rfl, hTz, hB, hG⟩ := hrel
                  have hgd : gk = 3 - d := hgn
                  clear hgn
                  by_cases hd3 : d < 3
                  · have hsa : 0 ≤ s.a ∧ s.a ≤ 3 := by
                      have := ok_rng (k := s.k) (a := s.a) (b := s.b) (c := s.c) (u := s.u) (v := s.v) (x := s.x) hSok.out.1
                      omega
                    have hx : 0 ≤ (d : Int) ∧ (d : Int) ≤ 2 := by omega
                    obtain ⟨⟨hr1, _⟩, hr2, _⟩ := hCap.out d (by omega)
                    obtain ⟨⟨hr3, ht3⟩, hr4, ht4⟩ := hCap.out (d + 1) (by omega)
                    have hq3 := next_bd hSok.out.1 (x := (d : Int)) hst hx
                    obtain ⟨y, hy⟩ : ∃ y : Nat, s.next z d = (y : Int) := ⟨(s.next z d).toNat, (Int.toNat_of_nonneg hq3.1).symm⟩
                    have hf := fac_bd hSok.out.1 (s.next z d)
                    have cN := Lib.hid (fun wx => l1With_v z s.a d wx hst hsa hx)
                    rw [← next_draw hdr'.out, hy] at cN
                    have cW := Lib.hid (fun wx => l2Weight_any s z d wx hSok.out.1 hdr'.out hst hx)
                    have cX := Lib.hid (fun wx => l12Index_any s z d wx hSok.out.1 hdr'.out hst hx)
                    have hmd : mD m ns s ⟨i, z, n⟩ (d + 1) = addc (mD m ns s ⟨i, z, n⟩ d) (i + 1) y (n * s.fac (s.next z d)) := by
                      show addc (mD m ns s ⟨i, z, n⟩ d) (min (i + 1 + s.jump z) m) (s.next z d).toNat (n * s.fac (s.next z d)) = _
                      rw [jump_draw hdr'.out, hy, Int.toNat_natCast, Nat.min_eq_left (by omega), Nat.add_zero]
                    have hgd9 : gD m s v (decide (i = a)) n gs ⟨i, z, q⟩ (d + 1) = if (decide (i = a) && decide (s.uses (s.next z d) = v)) = true then addc (addc (gD m s v (decide (i = a)) n gs ⟨i, z, q⟩ d) (i + 1) y (q * s.fac (s.next z d))) (i + 1) y n else addc (gD m s v (decide (i = a)) n gs ⟨i, z, q⟩ d) (i + 1) y (q * s.fac (s.next z d)) := by
                      show gAdd m s v (decide (i = a)) n (gD m s v (decide (i = a)) n gs ⟨i, z, q⟩ d) (Rn.step s ⟨i, z, q⟩ d) = _
                      have e : ∀ (X : List (List Int)) (u9 : Int), toM m X ⟨(Rn.step s ⟨i, z, q⟩ d).pos, (Rn.step s ⟨i, z, q⟩ d).st, u9⟩ = addc X (i + 1) y u9 := fun X u9 => by
                        show addc X (min (i + 1 + s.jump z) m) (s.next z d).toNat u9 = _
                        rw [jump_draw hdr'.out, hy, Int.toNat_natCast, Nat.min_eq_left (by omega), Nat.add_zero]
                      have e1 : toM m (gD m s v (decide (i = a)) n gs ⟨i, z, q⟩ d) (Rn.step s ⟨i, z, q⟩ d) = addc (gD m s v (decide (i = a)) n gs ⟨i, z, q⟩ d) (i + 1) y (q * s.fac (s.next z d)) := e _ _
                      unfold gAdd
                      rw [e, e1]
                      rfl
                    generalize s.fac (s.next z d) = f at hf cW hmd hgd9
                    have hy81 : y < 81 := by omega
                    have hi1k : i + 1 ≤ m := by omega
                    have hn1 := Int.le_trans (tailM_ent hr3 (Nat.le_refl (i + 1)) hi1k hy81).2 ht3
                    have hn2 := Int.le_trans (tailM_ent hr4 (Nat.le_refl (i + 1)) hi1k hy81).2 ht4
                    have hr5 : Rk m (addc (gD m s v (decide (i = a)) n gs ⟨i, z, q⟩ d) (i + 1) y (q * f)) := hr2.add hi1k hy81 (Int.mul_nonneg hGq.1 hf.1)
                    rw [hmd, ent_add hr1 hi1k hy81, if_pos (And.intro rfl rfl)] at hn1
                    have hnf : 0 ≤ n * f ∧ n * f ≤ n * 9 := ⟨Int.mul_nonneg hN.1 hf.1, Int.mul_le_mul_of_nonneg_left hf.2 hN.1⟩
                    have hqf : 0 ≤ q * f ∧ q * f ≤ q * 9 := ⟨Int.mul_nonneg hGq.1 hf.1, Int.mul_le_mul_of_nonneg_left hf.2 hGq.1⟩
                    have e26 := ent_add hr2 hi1k hy81 (x := q * f) (i + 1) y
                    rw [if_pos (And.intro rfl rfl)] at e26
                    have hn3 : ent (gD m s v (decide (i = a)) n gs ⟨i, z, q⟩ d) (i + 1) y + q * f ≤ 1000000000000000000 := by
                      rw [hgd9] at hn2
                      split at hn2
                      · rw [ent_add hr5 hi1k hy81, if_pos (And.intro rfl rfl), e26] at hn2
                        omega
                      · rw [e26] at hn2
                        omega
                    have hn4 : (decide (i = a) && decide (s.uses (s.next z d) = v)) = true → ent (gD m s v (decide (i = a)) n gs ⟨i, z, q⟩ d) (i + 1) y + q * f + n ≤ 1000000000000000000 := fun e => by
                      rw [hgd9, if_pos e, ent_add hr5 hi1k hy81, if_pos (And.intro rfl rfl), e26] at hn2
                      omega
                    have hmdh := Lib.hid hmd
                    have hgdh := Lib.hid hgd9
                    have hr1h := Lib.hid hr1
                    have hr2h := Lib.hid hr2
                    have hr5h := Lib.hid hr5
                    have e26h := Lib.hid e26
                    clear hmd hgd9 ht3 ht4 hr3 hr4 hn2 hq3
                    generalize mD m ns s ⟨i, z, n⟩ d = NS at hTz hr1 hn1 hmdh hr1h
                    generalize gD m s v (decide (i = a)) n gs ⟨i, z, q⟩ d = GS at hTz hr2 hr5 hn3 hn4 hgdh e26 hr2h hr5h e26h
                    generalize s.uses (s.next z d) = us at cX hn4 hgdh
                    clear hy
                    have hb1 := (hr1.ent hi1k hy81).2
                    have hb2 := (hr2.ent hi1k hy81).2
                    have hw1 : IntKind.i64.wrap (n * f) = n * f := IntWalk.i64_in _ (by omega)
                    have hw2 : IntKind.i64.wrap (q * f) = q * f := IntWalk.i64_in _ (by omega)
                    have hw3 : IntKind.i64.wrap ((i : Int) + 1) = (i : Int) + 1 := IntWalk.i64_in _ (by omega)
                    have hw4 : ((i : Int) + 1).toNat = i + 1 := by omega
                    have hw5 : IntKind.i64.wrap (ent NS (i + 1) y + n * f) = ent NS (i + 1) y + n * f := IntWalk.i64_in _ (by omega)
                    have hw6 : IntKind.i64.wrap (ent GS (i + 1) y + q * f) = ent GS (i + 1) y + q * f := IntWalk.i64_in _ (by omega)
                    have hi9 : (0 : Int) ≤ (i : Int) + 1 := by omega
                    have hi8 : (i : Int) + 1 < (m : Int) + 1 := by omega
                    have hi7 : i + 1 < m + 1 := by omega
                    have hy0 : (0 : Int) ≤ (y : Int) := by omega
                    have hy1 : (y : Int) < 81 := by omega
                    have hd0 : (0 : Int) ≤ (d : Int) := by omega
                    have hd1 : (d : Int) < 3 := by omega
                    have hTzh := Lib.hid hTz
                    have hBh := Lib.hid hB
                    have hGh := Lib.hid hG
                    have hcs := hG.cell
                    have hzz : base ≤ wz.heap.size := by have := hB.size; have := hRe.out; omega
                    clear hTz hB hG hr1 hr2 hr5 e26
                    go_wp2_with fail
                    refine (cN.out _).mono ?_
                    rintro e w' ⟨rfl, rfl⟩
                    go_wp2_with fail
                    refine (cW.out _).mono ?_
                    rintro e w6 ⟨rfl, hb6⟩
                    have hT6 := Lib.hid (hTzh.out.below hb6)
                    have hB6 := Lib.hid (hBh.out.trans (hb6.mono hzz))
                    have hG6 := Lib.hid (hGh.out.kept hb6)
                    clear hb6 hcs hTzh hBh hGh
                    go_wp2_with fail
                    obtain ⟨gq, bq, cxq, curq, eq9, hvq, hcgq, hcbq, hHbq, hbbq, _⟩ := mw_row hT6.out.2.1 hr1h.out hi1k
                    injection eq9 with eq9
                    injection eq9 with eq9 _ _
                    subst eq9
                    have hcvq := hcbq y hy81
                    have hfbq := hHbq.frozen
                    have hgcq := hT6.out.1.cell
                    have hneG : G ≠ bq := has_ne hG6.out hHbq (Ne.symm tmd_d)
                    have hTa := Lib.hid ((hT6.out.putn hr1h.out hi1k hvq hy81 (n * f)).below ((Below.refl _ _).drew))
                    have hGa := Lib.hid ((hG6.out.far (p := ⟨bq, y, none⟩) (by show G ≠ bq; exact hneG) (.int .i64 (ent NS (i + 1) y + n * f))).kept ((Below.refl _ _).drew))
                    have hBa := Lib.hid ((hB6.out.setCell (p := ⟨bq, y, none⟩) hbbq (.int .i64 (ent NS (i + 1) y + n * f))).drew)
                    clear hcbq hHbq hvq
                    go_still_tail 21, (by kernel_rfl)
                    repeat still_step
                    try (refine wpStill_nil ?_)
                    try (change wpList _ _ _ _ _ (World.drew w6))
                    go_wp2_with fail
                    clear hcvq hfbq hgcq hcgq hT6 hB6 hG6
                    generalize (w6.setCell ⟨bq, y, none⟩ (.int .i64 (ent NS (i + 1) y + n * f))).drew = Wa at hTa hGa hBa ⊢
                    obtain ⟨gq, bq, cxq, curq, eq9, hvq, hcgq, hcbq, hHbq, hbbq, _⟩ := mw_row hTa.out.2.2.1 hr2h.out hi1k
                    injection eq9 with eq9
                    injection eq9 with eq9 _ _
                    subst eq9
                    have hcvq := hcbq y hy81
                    have hfbq := hHbq.frozen
                    have hgcq := hTa.out.1.cell
                    have hneG : G ≠ bq := has_ne hGa.out hHbq (Ne.symm tmd_d)
                    have hTb := Lib.hid ((hTa.out.putg hr2h.out hi1k hvq hy81 (q * f)).below ((Below.refl _ _).drew))
                    have hGb := Lib.hid ((hGa.out.far (p := ⟨bq, y, none⟩) (by show G ≠ bq; exact hneG) (.int .i64 (ent GS (i + 1) y + q * f))).kept ((Below.refl _ _).drew))
                    have hBb := Lib.hid ((hBa.out.setCell (p := ⟨bq, y, none⟩) hbbq (.int .i64 (ent GS (i + 1) y + q * f))).drew)
                    clear hcbq hHbq hvq
                    go_still_tail 21, (by kernel_rfl)
                    repeat still_step
                    try (refine wpStill_nil ?_)
                    try (change wpList _ _ _ _ _ (World.drew Wa))
                    go_upto_region 25 with (fail)
                    clear hcvq hfbq hgcq hcgq hTa hBa hGa
                    generalize (Wa.setCell ⟨bq, y, none⟩ (.int .i64 (ent GS (i + 1) y + q * f))).drew = Wb at hTb hGb hBb ⊢
                    by_cases hia : i = a
                    · have hie : ((i : Int) == (a : Int)) = true := by rw [hia]; exact beq_self_eq_true _
                      have hia' := Lib.hid hia
                      clear hia
                      by_cases huv : us = v
                      · have huv' := Lib.hid huv
                        have hub : (us == v) = true := by rw [huv]; exact beq_self_eq_true _
                        have hn5 := hn4 (by rw [hia'.out, huv'.out]; simp)
                        have hw7 : IntKind.i64.wrap (ent GS (i + 1) y + q * f + n) = ent GS (i + 1) y + q * f + n := IntWalk.i64_in _ (by omega)
                        clear hn4 huv
                        have hcs := hGb.out.cell
                        go_wp2_with fail
                        refine (cX.out _).mono ?_
                        rintro e Wc ⟨rfl, hb9⟩
                        have hzb : base ≤ Wb.heap.size := by have := hBb.out.size; have := hRe.out; omega
                        have hTc := Lib.hid (hTb.out.below hb9)
                        have hBc := Lib.hid (hBb.out.trans (hb9.mono hzb))
                        have hGc := Lib.hid (hGb.out.kept hb9)
                        clear hb9 hTb hBb hGb hzb hcs
                        have hw8 : IntKind.i64.wrap (ent (addc GS (i + 1) y (q * f)) (i + 1) y + n) = ent (addc GS (i + 1) y (q * f)) (i + 1) y + n := IntWalk.i64_in _ (by rw [e26h.out]; omega)
                        have hGS := Lib.hid (hgdh.out.trans (if_pos (by rw [hia'.out, huv'.out]; simp)))
                        clear hw7
                        go_wp2_with fail
                        obtain ⟨gq, bq, cxq, curq, eq9, hvq, hcgq, hcbq, hHbq, hbbq, _⟩ := mw_row hTc.out.2.2.1 hr5h.out hi1k
                        injection eq9 with eq9
                        injection eq9 with eq9 _ _
                        subst eq9
                        have hcvq := hcbq y hy81
                        have hfbq := hHbq.frozen
                        have hgcq := hTc.out.1.cell
                        have hneG : G ≠ bq := has_ne hGc.out hHbq (Ne.symm tmd_d)
                        have hTd := Lib.hid ((hTc.out.putg hr5h.out hi1k hvq hy81 (n)).below ((Below.refl _ _).drew))
                        have hGd := Lib.hid ((hGc.out.far (p := ⟨bq, y, none⟩) (by show G ≠ bq; exact hneG) (.int .i64 (ent (addc GS (i + 1) y (q * f)) (i + 1) y + n))).kept ((Below.refl _ _).drew))
                        have hBd := Lib.hid ((hBc.out.setCell (p := ⟨bq, y, none⟩) hbbq (.int .i64 (ent (addc GS (i + 1) y (q * f)) (i + 1) y + n))).drew)
                        clear hcbq hHbq hvq
                        go_still_tail 19, (by kernel_rfl)
                        repeat still_step
                        try (refine wpStill_nil ?_)
                        try (change wpList _ _ _ _ _ (World.drew Wc))
                        go_wp2_with fail
                        clear hcvq hfbq hgcq hcgq hTc hBc hGc
                        generalize (Wc.setCell ⟨bq, y, none⟩ (.int .i64 (ent (addc GS (i + 1) y (q * f)) (i + 1) y + n))).drew = Wd at hTd hGd hBd ⊢
                        refine Handed.intro (3 - (d + 1)) ?measure (hJ3.out _ (.int .i64 ((d : Int) + 1)) _ _ (by kernel_rfl) ?rel)
                        case measure => omega
                        case rel => exact ⟨d + 1, by omega, rfl, by go_num, by rw [hmdh.out, hGS.out]; exact hTd.out, hBd.out, hGd.out⟩
                      · have huv' := Lib.hid huv
                        have hub : (us == v) = false := by rw [beq_eq_false_iff_ne]; exact huv
                        have hGS := Lib.hid (hgdh.out.trans (if_neg (by rw [decide_eq_false huv'.out, Bool.and_false]; decide)))
                        clear hn4 huv
                        have hcs := hGb.out.cell
                        go_wp2_with fail
                        refine (cX.out _).mono ?_
                        rintro e Wc ⟨rfl, hb9⟩
                        have hzb : base ≤ Wb.heap.size := by have := hBb.out.size; have := hRe.out; omega
                        have hTc := Lib.hid (hTb.out.below hb9)
                        have hBc := Lib.hid (hBb.out.trans (hb9.mono hzb))
                        have hGc := Lib.hid (hGb.out.kept hb9)
                        clear hb9 hTb hBb hGb hzb hcs
                        go_wp2_with fail
                        refine Handed.intro (3 - (d + 1)) ?measure (hJ3.out _ (.int .i64 ((d : Int) + 1)) _ _ (by kernel_rfl) ?rel)
                        case measure => omega
                        case rel => exact ⟨d + 1, by omega, rfl, by go_num, by rw [hmdh.out, hGS.out]; exact hTc.out, hBc.out, hGc.out⟩
                    · have hie : ((i : Int) == (a : Int)) = false := by rw [beq_eq_false_iff_ne]; omega
                      have hia' := Lib.hid hia
                      clear hia hn4
                      have hGS := Lib.hid (hgdh.out.trans (if_neg (by rw [decide_eq_false hia'.out, Bool.false_and]; decide)))
                      go_wp2_with fail
                      refine Handed.intro (3 - (d + 1)) ?measure (hJ3.out _ (.int .i64 ((d : Int) + 1)) _ _ (by kernel_rfl) ?rel)
                      case measure => omega
                      case rel => exact ⟨d + 1, by omega, rfl, by go_num, by rw [hmdh.out, hGS.out]; exact hTb.out, hBb.out, hGb.out⟩
                  · obtain rfl : d = 3 := by omega
                    have hTzh := Lib.hid hTz
                    have hBh := Lib.hid hB
                    have hGh := Lib.hid hG
                    clear hTz hB hG
                    go_wp2_with fail
                    refine Handed.intro (81 - (z + 1)) ?measure (hJ2.out _ (.int .i64 ((z : Int) + 1)) _ _ (by kernel_rfl) ?rel)
                    case measure => omega
                    case rel => exact ⟨z + 1, by omega, rfl, by go_num, ⟨_, _, vn, vg, by have h := hStep.out; rw [hmany.out] at h; exact h, hTzh.out, hBh.out⟩, hGh.out⟩
            · obtain rfl : z = 81 := by omega
              have hDh := Lib.hid hD
              clear hD hG
              go_wp2_with fail
              refine Handed.intro (m - (i + 1)) ?measure (hJ1.out _ (.int .i64 ((i : Int) + 1)) _ _ (by kernel_rfl) ?rel)
              case measure => omega
              case rel =>
                obtain ⟨ns, gs, vn, vg, h1, h2, h3⟩ := hDh.out
                exact ⟨i + 1, by omega, rfl, by go_num, ns, gs, vn, vg, h1.next him, h2, h3⟩
        · obtain rfl : i = m := by omega
          obtain ⟨ns, gs, vn, vg, h1, h2, h3⟩ := hD
          have hGs := Lib.hid h1
          have hTw := Lib.hid h2
          have hB := Lib.hid h3
          obtain ⟨g1', bn, cxn, curn, en, hvn, hcgn, _, _, _, _⟩ := mw_row h2.2.1 h1.1 (Nat.le_refl _)
          injection en with en
          injection en with en _ _
          subst en
          obtain ⟨g2', bg, cxg, curg, eg, hvg, hcgg, _, _, _, _⟩ := mw_row h2.2.2.1 h1.2.1 (Nat.le_refl _)
          injection eg with eg
          injection eg with eg _ _
          subst eg
          have hgc := h2.1.cell
          have hvn' := Lib.hid hvn
          have hvg' := Lib.hid hvg
          clear h1 h2 h3 hvn hvg
          have hii : (i : Int) < (i : Int) + 1 := by omega
          have hi0 : (0 : Int) ≤ (i : Int) := by omega
          go_wp2_with fail
          go_region
          go_wp2_with fail
          go_ret2
          obtain ⟨es1, _, ho1⟩ := hTw.out.2.1.2 i _ hvn'.out
          obtain ⟨es2, he2, ho2⟩ := hTw.out.2.2.1.2 i _ hvg'.out
          have hes := gsl_row hGs.out hM.out ham he2
          subst hes
          exact ⟨_, _, es1, rfl, ho1, ho2, hB.out.drew⟩
end Go.Proofs.Ytbndonfpdioibaa
