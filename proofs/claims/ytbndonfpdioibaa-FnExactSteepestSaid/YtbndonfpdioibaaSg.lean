/- Slopes, the model: which weights are used; two lists of rows in one block. -/
import Derived.Test.YtbndonfpdioibaaS3
import Derived.Test.YtbndonfpdioibaaSi
import Derived.Test.YtbndonfpdioibaaSp
import Derived.Test.YtbndonfpdioibaaMdd
namespace Go.Proofs.Ytbndonfpdioibaa
set_option maxRecDepth 100000
set_option linter.unusedVariables false
open Go.RowKit

theorem tmd_e : (132 : TypeId) ≠ 24 := by decide
theorem tmd_f : (132 : TypeId) ≠ 3 := by decide
theorem tmd_g : (132 : TypeId) ≠ 78 := by decide
theorem tmd_h : (135 : TypeId) ≠ 132 := by decide
/-- Which weight a draw uses, by the value that is drawn. -/
theorem uses_draw {s : St} (hok : s.ok = true) (hd : s.draws = true) {st x : Int} (hs : 0 ≤ st ∧ st ≤ 80) (hx : 0 ≤ x ∧ x ≤ 2) : s.uses (s.next st x) = if s.k = 3 then (x + valueAt st s.b) % 3 else x := by
  obtain ⟨k, a, b, c, u, v, y⟩ := s
  have hr := ok_rng hok
  obtain rfl | rfl : k = 2 ∨ k = 3 := by simpa [St.draws] using hd
  · have ha : 0 ≤ a ∧ a ≤ 3 := by omega
    have e1 : (St.mk 2 a b c u v y).next st x = withValue st a x := by simp [St.next]
    have h1 := (valueAt_with hs ha hx).1
    rw [e1]
    unfold St.uses
    rw [if_pos (by simp), if_neg (show ¬ (2 : Int) = 3 by decide)]
    exact h1
  · have ha : 0 ≤ a ∧ a ≤ 3 := by omega
    have e1 : (St.mk 3 a b c u v y).next st x = withValue st a x := by simp [St.next]
    have h1 := valueAt_with hs ha hx
    rw [e1]
    unfold St.uses
    rw [if_neg (by simp), if_pos rfl]
    dsimp only
    rw [h1.1, h1.2 b (by omega) (by omega) (by omega)]
set_option maxHeartbeats 1000000 in
theorem l12Index_any (s : St) (st x : Int) (w : World) (hok : s.ok = true) (hd : s.draws = true) (hs : 0 ≤ st ∧ st ≤ 80) (hx : 0 ≤ x ∧ x ≤ 2) :
    Calls Try.prog 122 #[.agg #[.int .i64 s.k, .int .i64 s.a, .int .i64 s.b, .int .i64 s.c, .int .i64 s.u, .int .i64 s.v, .int .i64 s.x], .int .i64 st, .int .i64 x] w fun e w' => e = .returned (.int .i64 (s.uses (s.next st x))) ∧ Below w.heap.size w w' := by
  rw [uses_draw hok hd hs hx]
  obtain ⟨k, a, b, c, u, v, y⟩ := s
  have hr := ok_rng hok
  obtain rfl | rfl : k = 2 ∨ k = 3 := by simpa [St.draws] using hd
  · rw [if_neg (show ¬ (2 : Int) = 3 by decide)]
    go_enter Try.func122, Try.ntmps122
    go_wp2_with fail
    go_ret
    exact ⟨rfl, (Below.refl _ _).alloc (Nat.le_refl _) _⟩
  · rw [if_pos rfl]
    dsimp only
    have cB := Lib.hid (fun wx => l1At_v st b wx hs (show 0 ≤ b ∧ b ≤ 3 by omega))
    have hvb := value_bd hs (show 0 ≤ b ∧ b ≤ 3 by omega)
    generalize valueAt st b = m at cB hvb ⊢
    clear hr hok hd
    have hq : (x + m) % 3 = (x + m) % 3 := rfl
    go_enter Try.func122, Try.ntmps122
    go_wp2_with (go_at_call 110; refine (cB.out _).mono ?_; rintro e w' ⟨rfl, rfl⟩)
    go_ret
    exact ⟨rfl, (Below.refl _ _).alloc (Nat.le_refl _) _⟩
set_option maxHeartbeats 1000000 in
theorem l12Value_any (s : St) (st : Int) (w : World) (hok : s.ok = true) (hk : s.k = 4 ∨ s.k = 5) (hs : 0 ≤ st ∧ st ≤ 80) :
    Calls Try.prog 124 #[.agg #[.int .i64 s.k, .int .i64 s.a, .int .i64 s.b, .int .i64 s.c, .int .i64 s.u, .int .i64 s.v, .int .i64 s.x], .int .i64 st] w fun e w' => e = .returned (.int .i64 (s.uses st)) ∧ Below w.heap.size w w' := by
  obtain ⟨k, a, b, c, u, v, y⟩ := s
  have hr := ok_rng hok
  dsimp only at hk
  rcases hk with rfl | rfl
  · have e : (St.mk 4 a b c u v y).uses st = valueAt st a := by unfold St.uses; rw [if_pos (by simp)]
    rw [e]
    have cA := Lib.hid (fun wx => l1At_v st a wx hs (show 0 ≤ a ∧ a ≤ 3 by omega))
    have hva := value_bd hs (show 0 ≤ a ∧ a ≤ 3 by omega)
    generalize valueAt st a = m at cA hva ⊢
    have hm3 : m % 3 = m := by omega
    clear hr hok e
    go_enter Try.func124, Try.ntmps124
    go_wp2_with (go_at_call 110; refine (cA.out _).mono ?_; rintro e w' ⟨rfl, rfl⟩)
    go_ret
    exact ⟨ret_int hm3.symm, (Below.refl _ _).alloc (Nat.le_refl _) _⟩
  · have e : (St.mk 5 a b c u v y).uses st = (valueAt st a + valueAt st b) % 3 := by unfold St.uses; rw [if_neg (by simp)]
    rw [e]
    have cA := Lib.hid (fun wx => l1At_v st a wx hs (show 0 ≤ a ∧ a ≤ 3 by omega))
    have cB := Lib.hid (fun wx => l1At_v st b wx hs (show 0 ≤ b ∧ b ≤ 3 by omega))
    have hva := value_bd hs (show 0 ≤ a ∧ a ≤ 3 by omega)
    have hvb := value_bd hs (show 0 ≤ b ∧ b ≤ 3 by omega)
    generalize valueAt st a = m at cA hva ⊢
    generalize valueAt st b = n at cB hvb ⊢
    clear hr hok e
    go_enter Try.func124, Try.ntmps124
    go_wp2_with fail
    refine (cA.out _).mono ?_
    rintro e w' ⟨rfl, rfl⟩
    go_wp2_with fail
    refine (cB.out _).mono ?_
    rintro e w' ⟨rfl, rfl⟩
    go_wp2_with fail
    go_ret
    exact ⟨rfl, (Below.refl _ _).alloc (Nat.le_refl _) _⟩
theorem l12Weighs_any (A : Option Addr) (n c : Nat) (os : List St) (a : Int) (w : World) (h : Lst w w.heap.size A n os) (hn : n ≤ 1000) :
    Calls Try.prog 66 #[.slice A n c, .int .i64 a] w fun e w' => e = .returned (.bool (wAt os a)) ∧ w' = w := by
  have hL := h.1
  have hw : wAt os a = (inB a 0 ((n : Int) - 1) && ((os[a.toNat]?).map St.hasW).getD false) := by unfold wAt; rw [hL]
  have cI := Lib.hid (fun wx => l1In_any a 0 ((n : Int) - 1) wx)
  have hwl : IntKind.i64.wrap ((n : Int) - 1) = (n : Int) - 1 := IntWalk.i64_in _ (by omega)
  cases hin : inB a 0 ((n : Int) - 1)
  · have hR := Lib.hid (show wAt os a = false by rw [hw, hin, Bool.false_and])
    rw [hin] at cI
    clear hin hw h hL
    go_enter Try.func66, Try.ntmps66
    go_wp2_with (go_at_call 67; refine (cI.out _).mono ?_; rintro e w' ⟨rfl, rfl⟩)
    go_ret
    exact ⟨ret_bool hR.out, rfl⟩
  · have hab := inB_iff.1 hin
    obtain ⟨k, rfl⟩ : ∃ k : Nat, a = (k : Int) := ⟨a.toNat, by omega⟩
    obtain ⟨gs, off, s, rfl, hgs, hs, hat⟩ := h.at_ (show k < n by omega)
    have hR := Lib.hid (show wAt os (k : Int) = inB s.k 2 5 by
      rw [hw, hin, Int.toNat_natCast, hs]
      rfl)
    have cK := Lib.hid (fun wx => l1In_any s.k 2 5 wx)
    rw [hin] at cI
    obtain ⟨c0, _⟩ := hat.open_
    have hk0 : (0 : Int) ≤ (k : Int) := by omega
    have hk1 : (k : Int) < (n : Int) := by omega
    clear hin hw h hs hat hgs hL
    generalize inB s.k 2 5 = b at cK hR
    go_enter Try.func66, Try.ntmps66
    go_wp2_with fail
    refine (cI.out _).mono ?_
    rintro e w' ⟨rfl, rfl⟩
    go_wp2_with fail
    refine (cK.out _).mono ?_
    rintro e w' ⟨rfl, rfl⟩
    go_wp2_with fail
    go_ret
    exact ⟨ret_bool hR.out, rfl⟩

/-- Two lists of rows that share no block. -/
def Apa (vn vg : List Value) : Prop := Apart vn ∧ Apart vg ∧ ∀ x ∈ vn, ∀ y ∈ vg, ∀ k, x.ownBlock = some k → y.ownBlock ≠ some k
/-- Two lists of rows in one block. -/
def Tw (w : World) (base R : Nat) (o1 o2 : Value) (ns gs : List (List Int)) (vn vg : List Value) : Prop :=
  Has w R 132 #[o1, o2] ∧ RowsV w base o1 ns vn ∧ RowsV w base o2 gs vg ∧ Apa vn vg ∧ (∀ k, o1.ownBlock = some k → o2.ownBlock ≠ some k) ∧ base ≤ R
theorem Tw.below {w w' : World} {base R : Nat} {o1 o2 : Value} {ns gs : List (List Int)} {vn vg : List Value} (h : Tw w base R o1 o2 ns gs vn vg) (hb : Below w.heap.size w w') : Tw w' base R o1 o2 ns gs vn vg :=
  ⟨h.1.kept hb, rowsV_below h.2.1 hb, rowsV_below h.2.2.1 hb, h.2.2.2.1, h.2.2.2.2.1, h.2.2.2.2.2⟩
theorem Tw.chg {w w' : World} {base R b : Nat} {o1 o2 : Value} {ns gs : List (List Int)} {vn vg : List Value} {cs : Array Value} (h : Tw w base R o1 o2 ns gs vn vg) (hb : Has w b 135 cs) (hk : KeptBut w w' (fun i => i = b)) : Tw w' base R o1 o2 ns gs vn vg :=
  ⟨h.1.but hk (has_ne h.1 hb (Ne.symm tmd_h)), rowsV_chg h.2.1 hb hk, rowsV_chg h.2.2.1 hb hk, h.2.2.2.1, h.2.2.2.2.1, h.2.2.2.2.2⟩
/-- Behind a store into an entry of the weights. -/
theorem Tw.putn {w : World} {base R m g1 k1 t z b cx : Nat} {o2 : Value} {ns gs : List (List Int)} {vn vg : List Value} (h : Tw w base R (.slice (some ⟨g1, 0, none⟩) (m + 1) k1) o2 ns gs vn vg) (hr : Rk m ns) (ht : t ≤ m) (hv : vn[t]? = some (.slice (some ⟨b, 0, none⟩) 81 cx)) (hz : z < 81) (x : Int) :
    Tw (w.setCell ⟨b, z, none⟩ (.int .i64 (ent ns t z + x))) base R (.slice (some ⟨g1, 0, none⟩) (m + 1) k1) o2 (addc ns t z x) gs vn vg := by
  obtain ⟨h1, h2, h3, h4, h5, h6⟩ := h
  obtain ⟨_, _, _, ⟨cur, hH⟩, hbb⟩ := (show _ ∧ _ ∧ _ ∧ (∃ cur, Has w b 3 cur) ∧ base ≤ b from ⟨trivial, trivial, trivial, (mw_cell h2 hr ht hv).2.2.1, (mw_cell h2 hr ht hv).2.2.2⟩)
  have hk : KeptBut w (w.setCell ⟨b, z, none⟩ (.int .i64 (ent ns t z + x))) (fun i => i = b) := KeptBut.put (KeptBut.refl w (fun i => i = b)) (p := ⟨b, z, none⟩) (fun _ => rfl) _
  refine ⟨h1.but hk (has_ne h1 hH tmd_f), mw_put h2 h4.1 hr ht hv hz, h3.but hk (fun k hkb e => ?_) (fun k cur2 hc _ hm e => ?_), h4, h5, h6⟩
  · obtain ⟨c1, q1⟩ := owns_has h3.1 hkb
    exact has_ne hH q1 int_ne e.symm
  · obtain ⟨y, hy, hyk⟩ := hm
    have e' : k = b := e
    subst e'
    exact h4.2.2 _ (List.mem_of_getElem? hv) y hy k rfl hyk
/-- Behind a store into an entry of the slopes. -/
theorem Tw.putg {w : World} {base R m g2 k2 t z b cx : Nat} {o1 : Value} {ns gs : List (List Int)} {vn vg : List Value} (h : Tw w base R o1 (.slice (some ⟨g2, 0, none⟩) (m + 1) k2) ns gs vn vg) (hr : Rk m gs) (ht : t ≤ m) (hv : vg[t]? = some (.slice (some ⟨b, 0, none⟩) 81 cx)) (hz : z < 81) (x : Int) :
    Tw (w.setCell ⟨b, z, none⟩ (.int .i64 (ent gs t z + x))) base R o1 (.slice (some ⟨g2, 0, none⟩) (m + 1) k2) ns (addc gs t z x) vn vg := by
  obtain ⟨h1, h2, h3, h4, h5, h6⟩ := h
  obtain ⟨cur, hH⟩ := (mw_cell h3 hr ht hv).2.2.1
  have hk : KeptBut w (w.setCell ⟨b, z, none⟩ (.int .i64 (ent gs t z + x))) (fun i => i = b) := KeptBut.put (KeptBut.refl w (fun i => i = b)) (p := ⟨b, z, none⟩) (fun _ => rfl) _
  refine ⟨h1.but hk (has_ne h1 hH tmd_f), h2.but hk (fun k hkb e => ?_) (fun k cur2 hc _ hm e => ?_), mw_put h3 h4.2.1 hr ht hv hz, h4, h5, h6⟩
  · obtain ⟨c1, q1⟩ := owns_has h2.1 hkb
    exact has_ne hH q1 int_ne e.symm
  · obtain ⟨y, hy, hyk⟩ := hm
    have e' : k = b := e
    subst e'
    exact h4.2.2 y hy _ (List.mem_of_getElem? hv) k hyk rfl
end Go.Proofs.Ytbndonfpdioibaa
