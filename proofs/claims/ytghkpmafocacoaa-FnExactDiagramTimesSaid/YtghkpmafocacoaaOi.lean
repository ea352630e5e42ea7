/- Diagrams: the program's cellOfPair. -/
import Derived.Test.YtghkpmafocacoaaOh
namespace Go.Proofs.Ytghkpmafocacoaa
set_option maxRecDepth 100000
set_option linter.unusedVariables false
open Go.RowKit

theorem kept_get {kv : List Int} {k : Nat} {x : Int} (h : kv[k]? = some x) : (ints kv).toArray[k]? = some (.int .i64 x) := by rw [List.getElem?_toArray]; exact ints_get h
theorem kept_put (kv : List Int) (k : Nat) (x : Int) : (ints kv).toArray.setIfInBounds k (.int .i64 x) = (ints (kv.set k x)).toArray := by
  unfold ints
  rw [List.setIfInBounds_toArray, List.map_set]
theorem cput_le (ds : List Ce) (c : Ce) : (cput ds c).2 ≤ (cput ds c).1.length := Nat.le_of_lt (cput_lt ds c)
theorem mk_idx (f : Nat → Int) : ∀ (r : Nat) (ds : List Ce) (s : Nat), (mkC f r ds s).2 ≤ (mkC f r ds s).1.length
  | 0, ds, s => cput_le _ _
  | r + 1, ds, s => by
    have h0 := mk_idx f r ds s
    rw [mkC]
    generalize mkC f r ds s = P at *
    obtain ⟨t2, h2⟩ := mk_sub f r P.1 (s + 3 ^ (3 - r))
    generalize mkC f r P.1 (s + 3 ^ (3 - r)) = Q at *
    obtain ⟨t3, h3⟩ := mk_sub f r Q.1 (s + 2 * 3 ^ (3 - r))
    generalize mkC f r Q.1 (s + 2 * 3 ^ (3 - r)) = T at *
    have l2 := sub_len h2
    have l3 := sub_len h3
    unfold cvar
    split
    · dsimp only; omega
    · exact cput_le _ _
theorem PW.kept {w : World} {B G Kb Bl : Nat} {A1 A2 : Option Addr} {n m c1 c2 : Nat} {d e : List Ce} {v : Value} {sl : List Int} {ds : List Ce} {kv : List Int} (h : PW w B G Kb Bl A1 A2 n m c1 c2 d e v sl ds kv) (hL : PL B G Kb Bl) (ix : Nat) (a : Int) (hk : KpOk d e ds (kv.set ix a)) :
    PW (w.setCell ⟨Kb, ix, none⟩ (.int .i64 a)) B G Kb Bl A1 A2 n m c1 c2 d e v sl ds (kv.set ix a) ∧ Pf w (w.setCell ⟨Kb, ix, none⟩ (.int .i64 a)) G Kb v v := by
  have hP : KeptBut w (w.setCell ⟨Kb, ix, none⟩ (.int .i64 a)) (fun i => i = Kb) := KeptBut.put (S := fun i => i = Kb) (p := ⟨Kb, ix, none⟩) (KeptBut.refl w (fun i => i = Kb)) (fun _ => rfl) (.int .i64 a)
  have hkb := hL.kb
  have hbk := hL.bk
  have hbb := hL.bb
  have hbl : Below Bl w (w.setCell ⟨Kb, ix, none⟩ (.int .i64 a)) := hP.below (fun i hi q => by omega) (Nat.le_trans hL.bb h.wv.le)
  have hkp := h.kp.put ix (.int .i64 a)
  rw [kept_put] at hkp
  exact ⟨⟨⟨h.wv.has.but hP (fun q => hL.ne q.symm), owns_but h.wv.own hP (fun q hq e => by have := (own_far h.wv hq).1; omega), h.wv.tab, Nat.le_trans h.wv.le hP.size⟩, hkp, hk, h.l1.below hbl, h.l2.below hbl⟩, ⟨hP.mono (fun i _ q => .inr (.inl q)), fun k q => .inl q⟩⟩
set_option maxHeartbeats 4000000 in
theorem cellOfPair_step (B G Kb Bl n m c1 c2 i j : Nat) (A1 A2 : Option Addr) (d e : List Ce) (hL : PL B G Kb Bl) (hn : n ≤ 121) (hm : m ≤ 121) (hi : i < n) (hj : j < m) (hdn : d.length = n) (hem : e.length = m)
    (ih : PairOk Try.prog 132 B G Kb Bl A1 A2 n m c1 c2 d e i j) :
    PairOk Try.prog 82 B G Kb Bl A1 A2 n m c1 c2 d e i j := by
  intro w v sl ds kv h hl
  have hi' : i < d.length := by omega
  have hj' : j < e.length := by omega
  obtain ⟨im, him⟩ : ∃ im, im = i * m := ⟨_, rfl⟩
  obtain ⟨ix, hix⟩ : ∃ ix, ix = im + j := ⟨_, rfl⟩
  obtain ⟨nm, hnm⟩ : ∃ nm, nm = n * m := ⟨_, rfl⟩
  have hlt : ix < nm := by rw [hix, him, hnm]; exact pair_lt hi hj
  have hnm2 : nm ≤ 14641 := by rw [hnm]; exact Nat.mul_le_mul hn hm
  obtain ⟨x, hx1, hx2, hx3⟩ := h.ok.2 i j hi' hj'
  rw [hem, ← him, ← hix] at hx1
  have e1 : w.cell? ⟨G, 1, none⟩ = some (.slice A2 m c2) := (h.wv.has.cell 1).trans rfl
  have e2 : w.cell? ⟨G, 2, none⟩ = some (.slice (some ⟨Kb, 0, none⟩) nm nm) := (h.wv.has.cell 2).trans (by rw [hnm]; rfl)
  have ek : w.cell? ⟨Kb, ix, none⟩ = some (.int .i64 (x : Int)) := (h.kp.cell ix).trans (kept_get hx1)
  have hw1 : IntKind.i64.wrap ((i : Int) * (m : Int)) = (im : Int) := by
    have : (i : Int) * (m : Int) = (im : Int) := by rw [him]; exact (Int.natCast_mul i m).symm
    rw [this, IntKind.wrap_i64]
    omega
  have hw2 : IntKind.i64.wrap ((im : Int) + (j : Int)) = (ix : Int) := by
    rw [IntKind.wrap_i64]
    omega
  have hk0 : (0 : Int) ≤ (ix : Int) := by omega
  have hk1 : (ix : Int) < (nm : Int) := by omega
  have hidx := Lib.hid (show (pm d e ds i j).2 ≤ 250 from by
    have h1 := mk_idx (gp d e i j) (4 - plv d e i j) ds 0
    have h2 := pm_len d e ds i j
    unfold pm at h2 ⊢
    omega)
  have hPW := Lib.hid h
  have hih := Lib.hid (ih w v sl ds kv h hl)
  have hput := Lib.hid (fun (v' : Value) (sl' : List Int) (ds' : List Ce) (kv' : List Int) (w' : World) (a : Nat) (hp : PW w' B G Kb Bl A1 A2 n m c1 c2 d e v' sl' ds' kv') (ha : a < 1000000) (hq : pm d e ds' i j = (ds', a)) => hp.ok.put hi' hj' hq ha)
  have hem' := Lib.hid hem
  have hat := Lib.hid (fun (ds' : List Ce) (kv' : List Int) (hk : KpOk d e ds' kv') => (show ∃ x : Nat, kv'[ix]? = some (x : Int) from by
    obtain ⟨x, h1, _⟩ := hk.2 i j hi' hj'
    rw [hem, ← him, ← hix] at h1
    exact ⟨x, h1⟩))
  have hself := Lib.hid (show pm d e (pm d e ds i j).1 i j = ((pm d e ds i j).1, (pm d e ds i j).2) from by
    have := pm_ext (d := d) (e := e) (ds := ds) (i := i) (j := j) (ds' := (pm d e ds i j).1) (x := (pm d e ds i j).2) rfl []
    rwa [List.append_nil] at this)
  have himh := Lib.hid him
  have hixh := Lib.hid hix
  have hnmh := Lib.hid hnm
  clear h hl ih hdn hem hx1 him hix hnm hi' hj' hi hj
  by_cases hx : x = 0
  · subst hx
    generalize hR : pm d e ds i j = R at *
    have hRh := Lib.hid hR
    clear hR hx2 hx3
    go_enter Try.func82, Try.ntmps82
    go_wp2_with fail
    clear e1 e2 ek
    refine hih.out.mono ?_
    rintro ee w5 ⟨vn, sln, kvn, rfl, hP, hF⟩
    have e2 : w5.cell? ⟨G, 2, none⟩ = some (.slice (some ⟨Kb, 0, none⟩) nm nm) := (hP.wv.has.cell 2).trans (by rw [hnmh.out]; rfl)
    obtain ⟨y, hy⟩ := hat.out _ _ hP.ok
    have ey : w5.cell? ⟨Kb, ix, none⟩ = some (.int .i64 (y : Int)) := (hP.kp.cell ix).trans (kept_get hy)
    have hkf := hP.kp.frozen
    have hR2 := hidx.out
    have hw3 : IntKind.i64.wrap ((R.2 : Int) + 1) = (R.2 : Int) + 1 := by rw [IntKind.wrap_i64]; omega
    have hw4 : IntKind.i64.wrap (R.2 : Int) = (R.2 : Int) := by rw [IntKind.wrap_i64]; omega
    have hk3 := hput.out vn sln R.1 kvn w5 R.2 hP (by omega) hself.out
    rw [hem'.out, ← himh.out, ← hixh.out] at hk3
    obtain ⟨hP6, hF6⟩ := hP.kept hL ix ((R.2 : Int) + 1) hk3
    have hP6h := Lib.hid hP6
    have hF6h := Lib.hid (hF.trans hF6)
    have hne := hL.ne
    clear hP hF hy hk3 hP6 hF6
    go_wp2_with fail
    go_ret
    exact ⟨vn, sln, _, rfl, hP6h.out, hF6h.out⟩
  · have hR := Lib.hid (hx3 (by omega))
    obtain ⟨y, rfl⟩ : ∃ y, x = y + 1 := ⟨x - 1, by omega⟩
    have hw5 : IntKind.i64.wrap (y : Int) = (y : Int) := by rw [IntKind.wrap_i64]; omega
    have hyz : (((y : Int) + 1) == 0) = false := by
      rw [beq_eq_false_iff_ne]
      omega
    clear hx3 hx
    go_enter Try.func82, Try.ntmps82
    go_wp2_with fail
    go_ret
    rw [hR.out]
    exact ⟨v, sl, kv, rfl, hPW.out, Pf.of_below (Below.refl _ _) G Kb v⟩
theorem cellOfPair_any (B G Kb Bl n m c1 c2 : Nat) (A1 A2 : Option Addr) (d e : List Ce) (hL : PL B G Kb Bl) (hn : n ≤ 121) (hm : m ≤ 121) (hd : allOk d d.length = true) (he : allOk e e.length = true) (hdn : d.length = n) (hem : e.length = m) :
    ∀ (N i j : Nat), i + j = N → i < n → j < m → PairOk Try.prog 82 B G Kb Bl A1 A2 n m c1 c2 d e i j := by
  intro N
  induction N using Nat.strongRecOn with
  | _ N ih =>
    intro i j hN hi hj
    refine cellOfPair_step B G Kb Bl n m c1 c2 i j A1 A2 d e hL hn hm hi hj hdn hem ?_
    exact multiplied_any B G Kb Bl n m c1 c2 i j A1 A2 d e hL hn hm hd he hi hj hdn hem (fun i' j' h1 h2 h3 => ih (i' + j') (by omega) i' j' rfl h2 h3)
end Go.Proofs.Ytghkpmafocacoaa
