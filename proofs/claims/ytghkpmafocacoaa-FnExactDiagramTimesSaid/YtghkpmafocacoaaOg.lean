/- Diagrams: pairs of cells that are multiplied, in memory. -/
import Derived.Test.YtghkpmafocacoaaOq
namespace Go.Proofs.Ytghkpmafocacoaa
set_option maxRecDepth 100000
set_option linter.unusedVariables false
open Go.RowKit

/-- What is kept of products: 0, or 1 more than the cell, which is there. -/
def KpOk (d e ds : List Ce) (kv : List Int) : Prop := kv.length = d.length * e.length ∧ ∀ i j, i < d.length → j < e.length → ∃ x : Nat, kv[i * e.length + j]? = some (x : Int) ∧ x ≤ 1000000 ∧ (0 < x → pm d e ds i j = (ds, x - 1))
theorem KpOk.grow {d e ds ds' t : List Ce} {kv : List Int} (h : KpOk d e ds kv) (e1 : ds' = ds ++ t) : KpOk d e ds' kv := by
  subst e1
  refine ⟨h.1, fun i j hi hj => ?_⟩
  obtain ⟨x, h1, h2, h3⟩ := h.2 i j hi hj
  exact ⟨x, h1, h2, fun h0 => pm_ext (h3 h0) t⟩
theorem pair_inj {m i j i' j' : Nat} (hj : j < m) (hj' : j' < m) (h : i * m + j = i' * m + j') : i = i' ∧ j = j' := by
  have e1 : (j + i * m) / m = i := by rw [Nat.add_mul_div_right _ _ (by omega), Nat.div_eq_of_lt hj, Nat.zero_add]
  have e2 : (j' + i' * m) / m = i' := by rw [Nat.add_mul_div_right _ _ (by omega), Nat.div_eq_of_lt hj', Nat.zero_add]
  have e3 : i = i' := by rw [← e1, ← e2, Nat.add_comm j, Nat.add_comm j', h]
  subst e3
  exact ⟨rfl, by omega⟩
theorem pair_lt {n m i j : Nat} (hi : i < n) (hj : j < m) : i * m + j < n * m := by
  have : (i + 1) * m ≤ n * m := Nat.mul_le_mul_right _ hi
  rw [Nat.add_mul] at this
  omega
theorem KpOk.put {d e ds : List Ce} {kv : List Int} (h : KpOk d e ds kv) {i j a : Nat} (hi : i < d.length) (hj : j < e.length) (hp : pm d e ds i j = (ds, a)) (ha : a < 1000000) : KpOk d e ds (kv.set (i * e.length + j) ((a : Int) + 1)) := by
  have hlt := pair_lt hi hj
  rw [← h.1] at hlt
  refine ⟨by rw [List.length_set]; exact h.1, fun i' j' hi' hj' => ?_⟩
  by_cases q : i * e.length + j = i' * e.length + j'
  · obtain ⟨rfl, rfl⟩ := pair_inj hj hj' q
    exact ⟨a + 1, by rw [List.getElem?_set_self hlt]; rfl, by omega, fun _ => by rw [hp]; rfl⟩
  · obtain ⟨x, h1, h2, h3⟩ := h.2 i' j' hi' hj'
    exact ⟨x, by rw [List.getElem?_set_ne q]; exact h1, h2, h3⟩
theorem KpOk.nil (d e : List Ce) : KpOk d e [] (List.replicate (d.length * e.length) 0) := by
  refine ⟨List.length_replicate, fun i j hi hj => ⟨0, ?_, by decide, fun h => absurd h (by decide)⟩⟩
  rw [List.getElem?_replicate, if_pos (pair_lt hi hj)]
  rfl
def preP (A1 A2 : Option Addr) (n m c1 c2 Kb : Nat) : List Value := [.slice A1 n c1, .slice A2 m c2, .slice (some ⟨Kb, 0, none⟩) (n * m) (n * m)]
/-- A pairing lies in a block, what it keeps in another one. -/
structure PW (w : World) (B G Kb Bl : Nat) (A1 A2 : Option Addr) (n m c1 c2 : Nat) (d e : List Ce) (v : Value) (sl : List Int) (ds : List Ce) (kv : List Int) : Prop where
  wv : Wv w B G 88 (preP A1 A2 n m c1 c2 Kb) v sl ds
  kp : Has w Kb 3 (ints kv).toArray
  ok : KpOk d e ds kv
  l1 : CLst w Bl A1 n d
  l2 : CLst w Bl A2 m e
/-- Where they lie. -/
structure PL (B G Kb Bl : Nat) : Prop where
  bg : Bl ≤ G
  bk : Bl ≤ Kb
  bb : Bl ≤ B
  ne : Kb ≠ G
  kb : Kb < B
  gb : G < B
structure Pf (w w' : World) (G Kb : Nat) (v v' : Value) : Prop where
  but : KeptBut w w' (fun k => k = G ∨ k = Kb ∨ v.ownBlock = some k)
  new : ∀ k, v'.ownBlock = some k → v.ownBlock = some k ∨ w.heap.size ≤ k
theorem Pf.trans {a b c : World} {G Kb : Nat} {u v x : Value} (h : Pf a b G Kb u v) (k : Pf b c G Kb v x) : Pf a c G Kb u x := by
  refine ⟨h.but.trans k.but fun i hi e => ?_, fun i e => ?_⟩
  · rcases e with e | e | e
    · exact .inl e
    · exact .inr (.inl e)
    · rcases h.new i e with e | e
      · exact .inr (.inr e)
      · omega
  · rcases k.new i e with e | e
    · exact h.new i e
    · exact .inr (Nat.le_trans h.but.size e)
theorem Pf.of_wf {w w' : World} {G : Nat} {v v' : Value} (h : Wf2 w w' G v v') (Kb : Nat) : Pf w w' G Kb v v' :=
  ⟨h.but.mono (fun i _ e => e.elim .inl (fun q => .inr (.inr q))), h.new⟩
theorem Pf.of_below {w w' : World} (h : Below w.heap.size w w') (G Kb : Nat) (v : Value) : Pf w w' G Kb v v := ⟨KeptBut.of_below h _, fun k e => .inl e⟩
theorem pairing_ne : (88 : TypeId) ≠ 47 := by decide
theorem PW.below {w w' : World} {B G Kb Bl : Nat} {A1 A2 : Option Addr} {n m c1 c2 : Nat} {d e : List Ce} {v : Value} {sl : List Int} {ds : List Ce} {kv : List Int} (h : PW w B G Kb Bl A1 A2 n m c1 c2 d e v sl ds kv) (hL : PL B G Kb Bl) (hb : Below w.heap.size w w') : PW w' B G Kb Bl A1 A2 n m c1 c2 d e v sl ds kv :=
  ⟨h.wv.below hb, h.kp.kept hb, h.ok, h.l1.below (hb.mono (Nat.le_trans hL.bb h.wv.le)), h.l2.below (hb.mono (Nat.le_trans hL.bb h.wv.le))⟩
/-- Behind a call of the weaver. -/
theorem PW.step {w w' : World} {B G Kb Bl : Nat} {A1 A2 : Option Addr} {n m c1 c2 : Nat} {d e : List Ce} {v v' : Value} {sl sl' : List Int} {ds ds' t : List Ce} {kv : List Int} (h : PW w B G Kb Bl A1 A2 n m c1 c2 d e v sl ds kv) (hL : PL B G Kb Bl) (hf : Wf2 w w' G v v') (hw : Wv w' B G 88 (preP A1 A2 n m c1 c2 Kb) v' sl' ds') (ht : ds' = ds ++ t) : PW w' B G Kb Bl A1 A2 n m c1 c2 d e v' sl' ds' kv := by
  have hbl : Below Bl w w' := hf.but.below (fun i hi q => by
    have := hL.bg
    have := hL.bb
    rcases q with q | q
    · omega
    · have := (own_far h.wv q).1; omega) (Nat.le_trans hL.bb h.wv.le)
  exact ⟨hw, h.kp.but hf.but (fun q => by
    have := hL.kb
    rcases q with q | q
    · exact hL.ne q
    · have := (own_far h.wv q).1; omega), h.ok.grow ht, h.l1.below hbl, h.l2.below hbl⟩
/-- Behind what turns none of these blocks: the block of the kids. -/
theorem PW.other {w w' : World} {B G Kb Bl kb : Nat} {A1 A2 : Option Addr} {n m c1 c2 : Nat} {d e : List Ce} {v : Value} {sl : List Int} {ds : List Ce} {kv : List Int} (h : PW w B G Kb Bl A1 A2 n m c1 c2 d e v sl ds kv) (hL : PL B G Kb Bl) (hk : KeptBut w w' (fun i => i = kb)) (h1 : B ≤ kb) (h2 : ∀ q, v.ownBlock = some q → q ≠ kb) : PW w' B G Kb Bl A1 A2 n m c1 c2 d e v sl ds kv := by
  have hg := hL.gb
  have hk2 := hL.kb
  have hbb := hL.bb
  have hbl : Below Bl w w' := hk.below (fun i hi q => by omega) (Nat.le_trans hL.bb h.wv.le)
  exact ⟨⟨h.wv.has.but hk (by omega), owns_but h.wv.own hk h2, h.wv.tab, Nat.le_trans h.wv.le hk.size⟩, h.kp.but hk (by omega), h.ok, h.l1.below hbl, h.l2.below hbl⟩
/-- How a call for a pair ends. -/
def Pvd (w : World) (B G Kb Bl : Nat) (A1 A2 : Option Addr) (n m c1 c2 : Nat) (d e : List Ce) (v : Value) (R : List Ce × Nat) (en : Ending) (w' : World) : Prop :=
  ∃ v' sl' kv', en = .returned (.int .i64 (R.2 : Nat)) ∧ PW w' B G Kb Bl A1 A2 n m c1 c2 d e v' sl' R.1 kv' ∧ Pf w w' G Kb v v'
theorem cput_pair_sub {ds : List Ce} {c : Ce} : ∃ t, (cput ds c).1 = ds ++ t := cput_sub ds c
/-- What is asked of a call for a pair. -/
def PairOk (P : Program) (f : FuncId) (B G Kb Bl : Nat) (A1 A2 : Option Addr) (n m c1 c2 : Nat) (d e : List Ce) (i j : Nat) : Prop :=
  ∀ (w : World) (v : Value) (sl : List Int) (ds : List Ce) (kv : List Int), PW w B G Kb Bl A1 A2 n m c1 c2 d e v sl ds kv → ds.length + nc (4 - plv d e i j) ≤ 250 →
    Calls P f #[.pointer (some ⟨G, 0, none⟩), .int .i64 (i : Int), .int .i64 (j : Int)] w (Pvd w B G Kb Bl A1 A2 n m c1 c2 d e v (pm d e ds i j))
/-- Of a pair one at least goes on to a kid ahead of it. -/
theorem kf_sum {d e : List Ce} (hd : Up d) (he : Up e) {i j : Nat} (hi : i < d.length) (hj : j < e.length) (hv : plv d e i j ≤ 3) (x : Nat) :
    kf d i (plv d e i j) x < d.length ∧ kf e j (plv d e i j) x < e.length ∧ kf d i (plv d e i j) x + kf e j (plv d e i j) x < i + j ∧ plv d e i j + 1 ≤ plv d e (kf d i (plv d e i j) x) (kf e j (plv d e i j) x) := by
  have hp := plv_bd hd he hi hj
  obtain ⟨k1, k2, k3, k4⟩ := kf_ok hd (x := x) hi (v := plv d e i j) (by omega) hv
  obtain ⟨q1, q2, q3, q4⟩ := kf_ok he (x := x) hj (v := plv d e i j) (by omega) hv
  have hp2 := plv_bd hd he k1 q1
  have l1 := lev_bd hd hi
  have l2 := lev_bd he hj
  refine ⟨k1, q1, ?_, by omega⟩
  by_cases h : (gt d i).lev = plv d e i j
  · have : (gt d i).v = plv d e i j := by
      rw [← h]
      unfold Ce.lev
      rw [if_neg (by intro q; have := l1.2.2.1 q; omega)]
    have := k4 this
    omega
  · have h2 : (gt e j).lev = plv d e i j := by omega
    have : (gt e j).v = plv d e i j := by
      rw [← h2]
      unfold Ce.lev
      rw [if_neg (by intro q; have := l2.2.2.1 q; omega)]
    have := q4 this
    omega
end Go.Proofs.Ytghkpmafocacoaa
