/- Diagrams: the program's slotOf. Diagrams: a weaver in memory; the program's cellFor. Diagrams: the program's cellFor. Diagrams: the program's numberCell, varCell, weave. Diagrams: the program's weave, DiagramOf. Diagrams: the model's l11Put. Diagrams: the program's Least, DiagramSum. -/
import Derived.Test.YtghkpmafocacoaaO8
import Derived.Test.YtghkpmafocacoaaO7
import Derived.StillTailTactics
import Derived.Deep.AppendLies
import Derived.Test.YtghkpmafocacoaaAb
import Derived.Deep.LoopGhost
import Derived.Deep.MidRow
import Derived.Deep.WholeRow
namespace Go.Proofs.Ytghkpmafocacoaa
set_option maxRecDepth 100000
set_option linter.unusedVariables false
open Go.RowKit

/-- One kid more in a cell's mixed number. -/
def mixK (m k : Int) : Int := IntKind.u64.wrap (IntKind.u64.wrap (m * 121) + IntKind.u64.wrap k)
def mix0 (s : Ce) : Int := IntKind.u64.wrap (IntKind.u64.wrap (IntKind.u64.wrap s.n * 5) + IntKind.u64.wrap s.lev)
def mixC (s : Ce) : Int := mixK (mixK (mixK (mix0 s) s.a) s.b) s.c
def slotC (s : Ce) : Nat := (mixC s).toNat % 251
theorem mixC_bd (s : Ce) : 0 ≤ mixC s ∧ mixC s ≤ 18446744073709551615 := by
  unfold mixC mixK
  generalize IntKind.u64.wrap ((IntKind.u64.wrap (IntKind.u64.wrap (IntKind.u64.wrap (mix0 s * 121) + IntKind.u64.wrap s.a) * 121) + IntKind.u64.wrap s.b) * 121) + IntKind.u64.wrap s.c = x
  simp only [IntKind.wrap_u64]
  omega
theorem slotC_eq (s : Ce) : ((slotC s : Nat) : Int) = mixC s % 251 := by
  have := mixC_bd s
  unfold slotC
  omega
set_option maxHeartbeats 1000000 in
theorem slotOf_any (s : Ce) (w : World) :
    Calls Try.prog 184 #[.agg #[.int .i64 s.v, .int .i64 s.n, .int .i64 s.a, .int .i64 s.b, .int .i64 s.c]] w fun e w' => e = .returned (.int .i64 (slotC s : Nat)) ∧ Below w.heap.size w w' := by
  have hB := Lib.hid (show Below w.heap.size w (w.alloc (.cells #[.int .i64 s.v, .int .i64 s.n, .int .i64 s.a, .int .i64 s.b, .int .i64 s.c] 47)) from (Below.refl _ _).alloc (Nat.le_refl _) _)
  have hW := Lib.hid (Has.new w 47 #[.int .i64 s.v, .int .i64 s.n, .int .i64 s.a, .int .i64 s.b, .int .i64 s.c])
  have cL := Lib.hid (fun wx => levelOf_any s wx)
  have h0 := Lib.hid (show mix0 s = IntKind.u64.wrap (IntKind.u64.wrap (IntKind.u64.wrap s.n * 5) + IntKind.u64.wrap s.lev) from rfl)
  have hz := hB.out.size
  go_enter Try.func184, Try.ntmps184
  go_wp2_with fail
  generalize w.alloc (.cells #[.int .i64 s.v, .int .i64 s.n, .int .i64 s.a, .int .i64 s.b, .int .i64 s.c] 47) = W0 at hB hW hz ⊢
  generalize hGw : w.heap.size = G at hB hW hz ⊢
  have hOk := Lib.hid (fun (wx : World) (hx : Below W0.heap.size W0 wx) => (show Below W0.heap.size W0 wx ∧ wx.cell? ⟨G, 0, none⟩ = some (.int .i64 s.v) ∧ wx.cell? ⟨G, 1, none⟩ = some (.int .i64 s.n) ∧ wx.cell? ⟨G, 2, none⟩ = some (.int .i64 s.a) ∧ wx.cell? ⟨G, 3, none⟩ = some (.int .i64 s.b) ∧ wx.cell? ⟨G, 4, none⟩ = some (.int .i64 s.c) from ⟨hx, (hW.out.kept hx).cell 0, (hW.out.kept hx).cell 1, (hW.out.kept hx).cell 2, (hW.out.kept hx).cell 3, (hW.out.kept hx).cell 4⟩))
  obtain ⟨_, e0, e1, e2, e3, e4⟩ := hOk.out W0 (Below.refl _ _)
  go_region_held3 (fun wx => Below W0.heap.size W0 wx ∧ wx.cell? ⟨G, 0, none⟩ = some (.int .i64 s.v) ∧ wx.cell? ⟨G, 1, none⟩ = some (.int .i64 s.n) ∧ wx.cell? ⟨G, 2, none⟩ = some (.int .i64 s.a) ∧ wx.cell? ⟨G, 3, none⟩ = some (.int .i64 s.b) ∧ wx.cell? ⟨G, 4, none⟩ = some (.int .i64 s.c)) (first | exact hOk.out _ ((Below.refl _ _).drew) | exact hOk.out _ (bt6 (by assumption) hbq) | exact hOk.out _ (bs6 (by assumption)) | exact hOk.out _ (bd6 (by assumption)) | go_keep) (first | (go_at_call 81; refine (cL.out _).mono ?_; rintro e q ⟨rfl, hbq⟩))
  rename_i hHeld
  obtain ⟨hB1, e0', e1', e2', e3', e4'⟩ := hHeld
  have hB6 := Lib.hid (hB.out.trans (hB1.mono hz))
  clear hB1 hbq hOk cL e0 e1 e2 e3 e4
  go_wp2_with fail
  have i0 : ∀ w, (Instr.index 45 (.agg #[.int .i64 s.a, .int .i64 s.b, .int .i64 s.c]) (.int .i64 0)).run Try.prog w = .ok (.int .i64 s.a) w := fun _ => by kernel_rfl
  have i1 : ∀ w, (Instr.index 45 (.agg #[.int .i64 s.a, .int .i64 s.b, .int .i64 s.c]) (.int .i64 1)).run Try.prog w = .ok (.int .i64 s.b) w := fun _ => by kernel_rfl
  have i2 : ∀ w, (Instr.index 45 (.agg #[.int .i64 s.a, .int .i64 s.b, .int .i64 s.c]) (.int .i64 2)).run Try.prog w = .ok (.int .i64 s.c) w := fun _ => by kernel_rfl
  have hm := Lib.hid (fun (m k : Int) => (show mixK m k = IntKind.u64.wrap (IntKind.u64.wrap (m * 121) + IntKind.u64.wrap k) from rfl))
  go_loop [3, 16] (fun m i => (i = .int .i64 0 ∧ m = .int .u64 (mix0 s)) ∨ (i = .int .i64 1 ∧ m = .int .u64 (mixK (mix0 s) s.a)) ∨ (i = .int .i64 2 ∧ m = .int .u64 (mixK (mixK (mix0 s) s.a) s.b)) ∨ (i = .int .i64 3 ∧ m = .int .u64 (mixC s))) (fun _ i => 3 - (intOf i).toNat)
  case atStart => exact .inl ⟨rfl, by rw [h0.out]⟩
  case round =>
    rcases hrel with ⟨rfl, rfl⟩ | ⟨rfl, rfl⟩ | ⟨rfl, rfl⟩ | ⟨rfl, rfl⟩
    · generalize mix0 s = m at *
      go_wp2_with fail
      go_round
      case rel => exact .inr (.inl ⟨rfl, by rw [hm.out]⟩)
      case measure => simp [intOf]
    · generalize mixK (mix0 s) s.a = m at *
      go_wp2_with fail
      go_round
      case rel => exact .inr (.inr (.inl ⟨rfl, by rw [hm.out]⟩))
      case measure => simp [intOf]
    · have hC := Lib.hid (show mixC s = mixK (mixK (mixK (mix0 s) s.a) s.b) s.c from rfl)
      generalize mixK (mixK (mix0 s) s.a) s.b = m at *
      go_wp2_with fail
      go_round
      case rel => exact .inr (.inr (.inr ⟨rfl, by rw [hC.out, hm.out]⟩))
      case measure => simp [intOf]
    · have hb := mixC_bd s
      have hS := Lib.hid (slotC_eq s)
      generalize mixC s = m at *
      go_wp2_with fail
      go_ret
      exact ⟨ret_int hS.out, hB6.out⟩
end Go.Proofs.Ytghkpmafocacoaa

namespace Go.Proofs.Ytghkpmafocacoaa
set_option maxRecDepth 100000
set_option linter.unusedVariables false
open Go.RowKit

/-- The cells of a weaver behind others. -/
def wvC (pre : List Value) (v : Value) (sl : List Int) : Array Value := (pre ++ v :: ints sl).toArray
theorem wvC_get (pre : List Value) (v : Value) (sl : List Int) (i : Nat) : (wvC pre v sl)[i]? = (pre ++ v :: ints sl)[i]? := by unfold wvC; rw [List.getElem?_toArray]
theorem wvC_head {pre : List Value} {o : Nat} (ho : pre.length = o) (v : Value) (sl : List Int) : (wvC pre v sl)[o]? = some v := by
  subst ho
  rw [wvC_get, List.getElem?_append_right (Nat.le_refl _), Nat.sub_self]
  rfl
theorem wvC_slot {pre : List Value} {o j : Nat} (ho : pre.length = o) (v : Value) {sl : List Int} (hj : j < sl.length) : (wvC pre v sl)[o + 1 + j]? = some (.int .i64 (sl.getD j 0)) := by
  subst ho
  rw [wvC_get, List.getElem?_append_right (by omega), show pre.length + 1 + j - pre.length = j + 1 by omega, List.getElem?_cons_succ]
  exact ints_get (by rw [List.getD_eq_getElem?_getD, List.getElem?_eq_getElem hj]; rfl)
theorem wvC_putv {pre : List Value} {o : Nat} (ho : pre.length = o) (v u : Value) (sl : List Int) : (wvC pre v sl).setIfInBounds o u = wvC pre u sl := by
  subst ho
  apply Array.ext_getElem?
  intro i
  rw [Array.getElem?_setIfInBounds, wvC_get, wvC_get]
  by_cases e : pre.length = i
  · subst e
    rw [if_pos rfl, if_pos (by unfold wvC; simp), List.getElem?_append_right (Nat.le_refl _), Nat.sub_self]
    rfl
  · rw [if_neg e]
    by_cases h : i < pre.length
    · rw [List.getElem?_append_left h, List.getElem?_append_left h]
    · rw [List.getElem?_append_right (by omega), List.getElem?_append_right (by omega)]
      obtain ⟨k, hk⟩ : ∃ k, i - pre.length = k + 1 := ⟨i - pre.length - 1, by omega⟩
      rw [hk, List.getElem?_cons_succ, List.getElem?_cons_succ]
theorem wvC_puts {pre : List Value} {o j : Nat} (ho : pre.length = o) (v : Value) {sl : List Int} (hj : j < sl.length) (x : Int) : (wvC pre v sl).setIfInBounds (o + 1 + j) (.int .i64 x) = wvC pre v (sl.set j x) := by
  subst ho
  apply Array.ext_getElem?
  intro i
  rw [Array.getElem?_setIfInBounds, wvC_get, wvC_get]
  by_cases e : pre.length + 1 + j = i
  · subst e
    rw [if_pos rfl, if_pos (by unfold wvC; simp [ints_length]; omega), List.getElem?_append_right (by omega), show pre.length + 1 + j - pre.length = j + 1 by omega, List.getElem?_cons_succ]
    exact (ints_get (by rw [List.getElem?_set_self hj])).symm
  · rw [if_neg e]
    by_cases h : i < pre.length
    · rw [List.getElem?_append_left h, List.getElem?_append_left h]
    · rw [List.getElem?_append_right (by omega), List.getElem?_append_right (by omega)]
      by_cases h0 : i - pre.length = 0
      · rw [h0]; rfl
      · obtain ⟨k, hk⟩ : ∃ k, i - pre.length = k + 1 := ⟨i - pre.length - 1, by omega⟩
        rw [hk, List.getElem?_cons_succ, List.getElem?_cons_succ]
        unfold ints
        rw [List.getElem?_map, List.getElem?_map, List.getElem?_set_ne (by omega)]
/-- A weaver lies in a block, its cells in memory of the call's own. -/
structure Wv (w : World) (B G : Nat) (T : TypeId) (pre : List Value) (v : Value) (sl : List Int) (ds : List Ce) : Prop where
  has : Has w G T (wvC pre v sl)
  own : COwn w B v ds
  tab : Tab slotC ds sl
  le : B ≤ w.heap.size
/-- What the weaver's calls turn: its block, and that of its cells; these go to new ones at most. -/
structure Wf2 (w w' : World) (G : Nat) (v v' : Value) : Prop where
  but : KeptBut w w' (fun k => k = G ∨ v.ownBlock = some k)
  new : ∀ k, v'.ownBlock = some k → v.ownBlock = some k ∨ w.heap.size ≤ k
theorem Wf2.refl (w : World) (G : Nat) (v : Value) : Wf2 w w G v v := ⟨KeptBut.refl _ _, fun k h => .inl h⟩
theorem Wf2.trans {a b c : World} {G : Nat} {u v x : Value} (h : Wf2 a b G u v) (k : Wf2 b c G v x) : Wf2 a c G u x := by
  refine ⟨h.but.trans k.but fun i hi e => ?_, fun i e => ?_⟩
  · rcases e with e | e
    · exact .inl e
    · rcases h.new i e with e | e
      · exact .inr e
      · omega
  · rcases k.new i e with e | e
    · exact h.new i e
    · exact .inr (Nat.le_trans h.but.size e)
theorem Wf2.of_below {w w' : World} (h : Below w.heap.size w w') (G : Nat) (v : Value) : Wf2 w w' G v v := ⟨KeptBut.of_below h _, fun k e => .inl e⟩
theorem Wv.below {w w' : World} {B G : Nat} {T : TypeId} {pre : List Value} {v : Value} {sl : List Int} {ds : List Ce} (h : Wv w B G T pre v sl ds) (hb : Below w.heap.size w w') : Wv w' B G T pre v sl ds :=
  ⟨h.has.kept hb, h.own.below hb, h.tab, Nat.le_trans h.le hb.size⟩
theorem eqWd (d : Nat) (u v x a b c : Int) (w : World) : (Op.equalIn (d + 2) 45 (.agg #[.int .i64 u, .int .i64 v, .int .i64 x]) (.agg #[.int .i64 a, .int .i64 b, .int .i64 c])).run Try.prog w = .ok (eq3 u v x a b c) w := by
  have u3 := Try.underlying3
  have a3 := Try.isAgg3
  have z3 := Try.sizeOf3
  rw [show d + 2 = (d + 1) + 1 from rfl, Op.equalIn]
  simp only [Sem.run_bind, run_underlying Try.underlying45, Result.andThen_ok]
  simp only [Std.Legacy.Range.forIn_eq_forIn_range', Std.Legacy.Range.size, Nat.sub_zero, Nat.add_sub_cancel, Nat.div_one, List.range'_succ, List.range'_zero, List.forIn_cons, List.forIn_nil]
  go_simp
  by_cases h1 : u = a <;> by_cases h2 : v = b <;> by_cases h3 : x = c <;> simp [h1, h2, h3, eq3]
/-- A cell held against another. -/
def ceq (s t : Ce) : Bool := s.v == t.v && (s.n == t.n && eq3 s.a s.b s.c t.a t.b t.c)
theorem ceq_iff {s t : Ce} : ceq s t = true ↔ s = t := by
  unfold ceq eq3
  simp only [Bool.and_eq_true, beq_iff_eq]
  rw [← ce_inj]
  constructor
  · rintro ⟨h1, h2, ⟨h3, h4⟩, h5⟩
    exact ⟨h1, h2, h3, h4, h5⟩
  · rintro ⟨h1, h2, h3, h4, h5⟩
    exact ⟨h1, h2, ⟨h3, h4⟩, h5⟩
theorem ceq_not {s t : Ce} (h : ceq s t = false) : s ≠ t := fun e => by rw [ceq_iff.2 e] at h; cases h
theorem eqCe (s t : Ce) (w : World) : (Op.equalIn 10000 47 (.agg #[.int .i64 s.v, .int .i64 s.n, .int .i64 s.a, .int .i64 s.b, .int .i64 s.c]) (.agg #[.int .i64 t.v, .int .i64 t.n, .int .i64 t.a, .int .i64 t.b, .int .i64 t.c])).run Try.prog w = .ok (ceq s t) w := by
  have u3 := Try.underlying3
  have a3 := Try.isAgg3
  have z3 := Try.sizeOf3
  have a30 := Try.isAgg45
  have z30 := Try.sizeOf45
  have hS : Try.prog.underlying 47 = some (.struct (Try.prog.fieldsOf 47)) := by kernel_rfl
  have he := fun w => eqWd 9997 s.a s.b s.c t.a t.b t.c w
  rw [show (10000 : Nat) = 9999 + 1 from rfl, run_equalIn_agg w 9999 47 _ _ hS (by kernel_rfl)]
  simp only [Program.fieldsOf, Try.underlying47]
  unfold ceq
  by_cases h1 : s.v = t.v <;> by_cases h2 : s.n = t.n
  all_goals
    go_simp
    try simp [h1, h2]
    try (cases eq3 s.a s.b s.c t.a t.b t.c <;> rfl)
end Go.Proofs.Ytghkpmafocacoaa

namespace Go.Proofs.Ytghkpmafocacoaa
set_option maxRecDepth 100000
set_option linter.unusedVariables false
open Go.RowKit

/-- How a call ends that puts cells there. -/
def Wvd (w : World) (B G : Nat) (T : TypeId) (pre : List Value) (v : Value) (R : List Ce × Nat) (e : Ending) (w' : World) : Prop :=
  ∃ v' sl', e = .returned (.int .i64 (R.2 : Nat)) ∧ Wv w' B G T pre v' sl' R.1 ∧ Wf2 w w' G v v'
theorem wv_ne {w : World} {B G k : Nat} {T : TypeId} {pre : List Value} {v : Value} {sl : List Int} {ds : List Ce} (h : Wv w B G T pre v sl ds) (hT : T ≠ 47) (hk : v.ownBlock = some k) : G ≠ k := by
  obtain ⟨cur, hc⟩ := owns_has h.own hk
  exact has_ne h.has hc hT
set_option maxHeartbeats 4000000 in
theorem cellFor_any (B G o : Nat) (T : TypeId) (pre : List Value) (v : Value) (sl : List Int) (ds : List Ce) (c : Ce) (w : World) (h : Wv w B G T pre v sl ds) (ho : pre.length = o) (hT : T ≠ 47) (hl : ds.length ≤ 250) :
    Calls Try.prog 167 #[.pointer (some ⟨G, o, none⟩), .agg #[.int .i64 c.v, .int .i64 c.n, .int .i64 c.a, .int .i64 c.b, .int .i64 c.c]] w (Wvd w B G T pre v (cput ds c)) := by
  have eqC := eqCe
  obtain ⟨i0, hi0, hz0, hz1', hz2'⟩ := info_parts info_cell
  have hh := Lib.hid h
  have cS := Lib.hid (fun wx => slotOf_any c wx)
  have hb0 : Below w.heap.size w (w.alloc (.cells #[.int .i64 c.v, .int .i64 c.n, .int .i64 c.a, .int .i64 c.b, .int .i64 c.c] 47)) := (Below.refl _ _).alloc (Nat.le_refl _) _
  have hW := Lib.hid (Has.new w 47 #[.int .i64 c.v, .int .i64 c.n, .int .i64 c.a, .int .i64 c.b, .int .i64 c.c])
  have hB := Lib.hid hb0
  clear h hb0
  go_enter Try.func167, Try.ntmps167
  go_wp2_with fail
  refine (cS.out _).mono ?_
  rintro e w1 ⟨rfl, hb1⟩
  have hW1 := Lib.hid (hW.out.kept hb1)
  have hB1 := Lib.hid (hB.out.trans (hb1.mono hB.out.size))
  have hh1 := Lib.hid (hh.out.below hB1.out)
  have hBx : w.heap.size ≤ w1.heap.size := hB1.out.size
  clear hb1 hW hB cS
  generalize hq : w.heap.size = q at hW1 hB1 hBx ⊢
  go_wp2_with fail
  have hsz : slotC c < 251 := Nat.mod_lt _ (by decide)
  have hfr := Lib.hid (fun d (hp : ∀ d', d' < d → 0 < sl.getD ((slotC c + d') % 251) 0) => hh.out.tab.free hl hp)
  have hhit := Lib.hid (fun j (hj : j < 251) h0 hc => hh.out.tab.hit (j := j) hj (c := c) h0 hc)
  have hadd := Lib.hid (fun d hd hp h0 => hh.out.tab.add (d := d) hd (c := c) hp h0)
  have hbd := Lib.hid hh.out.tab.bd
  have hlen := Lib.hid hh.out.tab.len
  have hpast := Lib.hid (fun d => @Past.next ds sl (slotC c) c d)
  clear hh
  generalize slotC c = p at *
  go_loopg [5] 251 (fun gn i wr => ∃ d m j : Nat, gn = 251 - d ∧ d < 251 ∧ i = .int .i64 (j : Int) ∧ j = (p + d) % 251 ∧ Past ds sl p c d ∧ wr = w1.drewN m)
  case atStart => exact ⟨0, 0, p, rfl, by decide, rfl, by rw [Nat.add_zero, Nat.mod_eq_of_lt hsz], fun d' hd' => absurd hd' (Nat.not_lt_zero _), rfl⟩
  case round =>
    obtain ⟨d, m, j, hgn, hd, rfl, hj, hp, hw⟩ := hrel
    have hgk : gk = 251 - d := hgn
    clear hgn
    have hP := Lib.hid hp
    have hbr : Below w1.heap.size w1 wr := by rw [hw]; exact below_drewN (Below.refl _ _) _
    have hWr := Lib.hid hw
    clear hp hw
    have hhr := Lib.hid (hh1.out.below hbr)
    have hBr := Lib.hid (hW1.out.kept hbr)
    have hBb := Lib.hid hbr
    have hzr := hbr.size
    have hj1 : j < 251 := by omega
    obtain ⟨jn, hjn⟩ : ∃ jn, jn = (p + (d + 1)) % 251 := ⟨_, rfl⟩
    have hnx : (((j : Int) + 1).tmod 251) = (jn : Int) := by
      rw [Int.tmod_eq_emod_of_nonneg (by omega)]
      omega
    have hnw : IntKind.i64.wrap (jn : Int) = (jn : Int) := by rw [IntKind.wrap_i64]; omega
    have hjnh := Lib.hid hjn
    clear hjn
    have hb0 := hbd.out j hj1
    obtain ⟨A, cp, hv, hcp1, hcp2⟩ := hhr.out.own.form
    have e0 := (hhr.out.has.cell o).trans (wvC_head ho v sl)
    have e1 := (hhr.out.has.cell (o + 1 + j)).trans (wvC_slot ho v (by rw [hlen.out]; exact hj1))
    rw [hv] at e0
    have hvh := Lib.hid hv
    clear hv
    have hxc := hBr.out.cell
    have hjj := Lib.hid hj
    clear hj
    by_cases hx : 0 < sl.getD j 0
    · obtain ⟨k, hk⟩ : ∃ k : Nat, sl.getD j 0 = (k : Int) + 1 := ⟨(sl.getD j 0 - 1).toNat, by omega⟩
      have hkl : k < ds.length := by omega
      have hkk : (sl.getD j 0 - 1).toNat = k := by omega
      have hlst : CLst wr wr.heap.size A ds.length ds := COwn.lst (by rw [← hvh.out]; exact hhr.out.own)
      obtain ⟨g, off, rfl, hg, hat⟩ := hlst.gt_ hkl
      obtain ⟨f0, f1, f2, f3, f4⟩ := hat.open_
      have hk0 : (0 : Int) ≤ (k : Int) := by omega
      have hk1 : (k : Int) < (ds.length : Int) := by omega
      have hkw : IntKind.i64.wrap (k : Int) = k := by rw [IntKind.wrap_i64]; omega
      have hN := Lib.hid (fun hc => hpast.out d hP.out (by rw [← hjj.out]; exact hx) (by rw [← hjj.out, hkk]; exact hc))
      have hHt := Lib.hid (fun hc => hhit.out j hj1 hx (by rw [hkk]; exact hc))
      have hkh := Lib.hid hkk
      rw [hk] at e1
      have hkp : decide ((0 : Int) < (k : Int) + 1) = true := decide_eq_true (by omega)
      generalize gt ds k = t at *
      have hj0 : (0 : Int) ≤ (j : Int) := by omega
      have hj2 : (j : Int) < 251 := by omega
      clear hx hk hkk hb0 hat hlst hbr
      cases hcc : ceq t c
      · have hN2 := Lib.hid (hN.out (ceq_not hcc))
        have hM := hfr.out (d + 1) (fun d' hd' => (hN2.out d' hd').1)
        clear hN hHt
        go_wp2_with fail
        go_quiet (fail)
        go_wp2_with fail
        go_roundg (251 - (d + 1))
        case measure => omega
        case rel => exact ⟨d + 1, m + nq, jn, rfl, hM, rfl, hjnh.out, hN2.out, by rw [hWr.out, World.drewN_drewN]⟩
      · have hR := Lib.hid (show cput ds c = (ds, k) from (hHt.out (ceq_iff.1 hcc)).1.trans (by rw [hkh.out]))
        clear hN hHt
        go_wp2_with fail
        go_quiet (fail)
        go_wp2_with fail
        go_ret
        exact ⟨v, sl, ret_int (by rw [hR.out]), by rw [hR.out]; exact hhr.out.below (below_drewN (Below.refl _ _) _), Wf2.of_below (by rw [hq]; exact below_drewN (hB1.out.trans (hBb.out.mono hBx)) _) _ _⟩
    · have hx0 : sl.getD j 0 = 0 := by omega
      have hA := Lib.hid (hadd.out d hd hP.out (by rw [← hjj.out]; exact hx))
      rw [hx0] at e1
      have hne : ∀ k, v.ownBlock = some k → G ≠ k := fun k hk => wv_ne hhr.out hT hk
      have hf0 := hhr.out.has.frozen
      have hown := Lib.hid hhr.out.own
      have hnewq : ∀ j u, c.cells[j]? = some u → (wr.alloc (.cells #[.int .i64 c.v, .int .i64 c.n, .int .i64 c.a, .int .i64 c.b, .int .i64 c.c] 47)).cell? ((⟨wr.heap.size, 0, none⟩ : Addr).add j) = some u := World.news_of_block (Has.new wr 47 #[.int .i64 c.v, .int .i64 c.n, .int .i64 c.a, .int .i64 c.b, .int .i64 c.c])
      have hnq := Lib.hid hnewq
      have hOa := Lib.hid (World.ownsRow.alloc (show wr.ownsRow B 47 5 (.slice A ds.length cp) ds.length (cflat ds) by have := hown.out; rw [hvh.out] at this; exact this) (.cells #[.int .i64 c.v, .int .i64 c.n, .int .i64 c.a, .int .i64 c.b, .int .i64 c.c] 47))
      have hne2 := Lib.hid (fun k (hk : (Value.slice A ds.length cp).ownBlock = some k) => hne k (by rw [hvh.out]; exact hk))
      have hBle := hhr.out.le
      have hGlt := hhr.out.has.lt
      clear hx hx0 hb0 hbr hxc hnewq hne
      have hxc := hBr.out.cell
      go_wp2_with fail
      go_region_law (first | (refine step_append_lies _ rfl (.tmp 40) (.tmp 42) 25 rfl B 47 i0 _ 5 40 Try.underlying25 hi0 hz0 hz1' hz2' rfl (by decide) (.slice A ds.length cp) ds.length (cflat ds) (by simp [Act.eval]) (by exact hOa.out) ⟨wr.heap.size, 0, none⟩ 1 1 c.cells (by simp [Act.eval]) rfl (by exact hnq.out) (by simp [Ce.cells, Value.oneCell']) (by omega) (by unfold maxLen; omega) (by omega) (by simp; omega) (wr.heap.size + 1) (by simp) ?_; intro gq cq w8 hown8 hgrow8 hat8 hlt8; have hK8 : KeptBut wr w8 (fun i => (Value.slice A ds.length cp).ownBlock = some i) := KeptBut.trans (KeptBut.alloc (KeptBut.refl wr (fun i => (Value.slice A ds.length cp).ownBlock = some i)) (.cells #[.int .i64 c.v, .int .i64 c.n, .int .i64 c.a, .int .i64 c.b, .int .i64 c.c] 47)) ⟨hgrow8.os, hgrow8.tape, hgrow8.output, hgrow8.size, fun i hi hn => hgrow8.block i hi (fun e => hn e.symm)⟩ (fun _ _ e => e); have hG8 := Has.but (by exact hhr.out.has) hK8 (fun e => hne2.out _ e rfl); have hc8 := (hG8.cell o).trans (wvC_head ho v sl); have hf8 := hG8.frozen))
      all_goals
        have hgG : gq ≠ G := by
          rcases hat8 with e | e
          · exact fun q => hne2.out _ e q.symm
          · omega
        have hG9 := hG8.put o (.slice (some ⟨gq, 0, none⟩) (ds.length + 1) cq)
        rw [wvC_putv ho] at hG9
        have hK9 : KeptBut w8 (w8.setCell ⟨G, o, none⟩ (.slice (some ⟨gq, 0, none⟩) (ds.length + 1) cq)) (fun i => i = G) := KeptBut.put (S := fun i => i = G) (p := ⟨G, o, none⟩) (KeptBut.refl w8 (fun i => i = G)) (fun _ => rfl) (.slice (some ⟨gq, 0, none⟩) (ds.length + 1) cq)
        have hO9 : COwn (w8.setCell ⟨G, o, none⟩ (.slice (some ⟨gq, 0, none⟩) (ds.length + 1) cq)) B (.slice (some ⟨gq, 0, none⟩) (ds.length + 1) cq) (ds ++ [c]) := by
          have h1 := owns_but hown8 hK9 (fun k e q => hgG (by injection e with e; exact e.trans q))
          unfold COwn
          rw [List.length_append, List.length_singleton, cflat_append]
          simpa [cflat] using h1
        have hF9 : Wf2 wr (w8.setCell ⟨G, o, none⟩ (.slice (some ⟨gq, 0, none⟩) (ds.length + 1) cq)) G v (.slice (some ⟨gq, 0, none⟩) (ds.length + 1) cq) := by
          refine ⟨(hK8.mono (T := fun k => k = G ∨ v.ownBlock = some k) (fun i _ e => .inr (by rw [hvh.out]; exact e))).trans hK9 (fun i _ e => .inl e), fun k e => ?_⟩
          obtain rfl : gq = k := by injection e with e
          rcases hat8 with e | e
          · exact .inl (by rw [hvh.out]; exact e)
          · exact .inr (by omega)
        have hG9h := Lib.hid hG9
        have hO9h := Lib.hid hO9
        have hF9h := Lib.hid hF9
        have hB9 : wr.heap.size ≤ (w8.setCell ⟨G, o, none⟩ (.slice (some ⟨gq, 0, none⟩) (ds.length + 1) cq)).heap.size := hF9.but.size
        clear hown8 hgrow8 hat8 hlt8 hK8 hG8 hc8 hf8 hK9 hO9 hF9 hG9 hxc e0 e1
        generalize w8.setCell ⟨G, o, none⟩ (.slice (some ⟨gq, 0, none⟩) (ds.length + 1) cq) = w9 at hG9h hO9h hF9h hB9 ⊢
        have e0 := (hG9h.out.cell o).trans (wvC_head ho _ sl)
        have e1 := (hG9h.out.cell (o + 1 + j)).trans (wvC_slot ho _ (by rw [hlen.out]; exact hj1))
        have hf9 := hG9h.out.frozen
        have hj0 : (0 : Int) ≤ (j : Int) := by omega
        have hj2 : (j : Int) < 251 := by omega
        go_wp2_with fail
        go_still_tail 10, (by kernel_rfl)
        change wpList _ _ _ _ _ w9.drew
        go_wp2_with fail
        go_ret
        have hA2 : cput ds c = (ds ++ [c], ds.length) ∧ Tab slotC (ds ++ [c]) (sl.set j ((ds.length : Int) + 1)) := by rw [hjj.out]; exact hA.out
        have hG10 := hG9h.out.put (o + 1 + j) (.int .i64 ((ds.length : Int) + 1))
        rw [wvC_puts ho _ (by rw [hlen.out]; exact hj1)] at hG10
        have hK10 : KeptBut w9 (w9.setCell ⟨G, o + 1 + j, none⟩ (.int .i64 ((ds.length : Int) + 1))) (fun i => i = G) := KeptBut.put (S := fun i => i = G) (p := ⟨G, o + 1 + j, none⟩) (KeptBut.refl w9 (fun i => i = G)) (fun _ => rfl) (.int .i64 ((ds.length : Int) + 1))
        have hO10 : COwn (w9.setCell ⟨G, o + 1 + j, none⟩ (.int .i64 ((ds.length : Int) + 1))) B (.slice (some ⟨gq, 0, none⟩) (ds.length + 1) cq) (ds ++ [c]) := owns_but hO9h.out hK10 (fun k e q => hgG (by injection e with e; exact e.trans q))
        have hW10 : Wv (w9.setCell ⟨G, o + 1 + j, none⟩ (.int .i64 ((ds.length : Int) + 1))) B G T pre (.slice (some ⟨gq, 0, none⟩) (ds.length + 1) cq) (sl.set j ((ds.length : Int) + 1)) (ds ++ [c]) := ⟨hG10, hO10, hA2.2, Nat.le_trans (Nat.le_trans hBle hB9) hK10.size⟩
        have hF10 : Wf2 w9 (w9.setCell ⟨G, o + 1 + j, none⟩ (.int .i64 ((ds.length : Int) + 1))) G (.slice (some ⟨gq, 0, none⟩) (ds.length + 1) cq) (.slice (some ⟨gq, 0, none⟩) (ds.length + 1) cq) := ⟨hK10.mono (fun i _ e => .inl e), fun k e => .inl e⟩
        exact ⟨_, _, ret_int (by rw [hA2.1]), by rw [hA2.1]; exact hW10.below ((Below.refl _ _).drew), (Wf2.of_below (by rw [hq]; exact hB1.out.trans (hBb.out.mono hBx)) G v).trans (hF9h.out.trans (hF10.trans (Wf2.of_below ((Below.refl _ _).drew) _ _)))⟩
end Go.Proofs.Ytghkpmafocacoaa

namespace Go.Proofs.Ytghkpmafocacoaa
set_option maxRecDepth 100000
set_option linter.unusedVariables false
open Go.RowKit

theorem numberCell_any (B G o : Nat) (T : TypeId) (pre : List Value) (v : Value) (sl : List Int) (ds : List Ce) (x : Int) (w : World) (h : Wv w B G T pre v sl ds) (ho : pre.length = o) (hT : T ≠ 47) (hl : ds.length ≤ 250) :
    Calls Try.prog 130 #[.pointer (some ⟨G, o, none⟩), .int .i64 x] w (Wvd w B G T pre v (cput ds (cnum x))) := by
  have cC := cellFor_any B G o T pre v sl ds ⟨-1, x, 0, 0, 0⟩ w h ho hT hl
  dsimp only at cC
  have cCh := Lib.hid cC
  have hE := Lib.hid (show cput ds (cnum x) = cput ds ⟨-1, x, 0, 0, 0⟩ from rfl)
  rw [hE.out]
  clear h cC hE
  go_enter Try.func130, Try.ntmps130
  go_wp2_with fail
  refine cCh.out.mono ?_
  rintro e w' ⟨v', sl', rfl, hW, hF⟩
  have hW' := Lib.hid hW
  have hF' := Lib.hid hF
  clear hW hF
  go_wp2_with fail
  go_ret
  exact ⟨v', sl', rfl, hW'.out, hF'.out⟩
theorem varCell_any (B G o : Nat) (T : TypeId) (pre : List Value) (v : Value) (sl : List Int) (ds : List Ce) (u a b c : Nat) (w : World) (h : Wv w B G T pre v sl ds) (ho : pre.length = o) (hT : T ≠ 47) (hl : ds.length ≤ 250) :
    Calls Try.prog 131 #[.pointer (some ⟨G, o, none⟩), .int .i64 (u : Int), .agg #[.int .i64 (a : Int), .int .i64 (b : Int), .int .i64 (c : Int)]] w (Wvd w B G T pre v (cvar ds u a b c)) := by
  have eqA : ∀ w, (Op.equalIn 10000 45 (.agg #[.int .i64 (a : Int), .int .i64 (b : Int), .int .i64 (c : Int)]) (.agg #[.int .i64 (a : Int), .int .i64 (a : Int), .int .i64 (a : Int)])).run Try.prog w = .ok (eq3 a b c a a a) w := fun w => eqW _ _ _ _ _ _ w
  have hb0 : Below w.heap.size w (w.alloc (.cells #[.int .i64 (a : Int), .int .i64 (b : Int), .int .i64 (c : Int)] 45)) := (Below.refl _ _).alloc (Nat.le_refl _) _
  have hh := Lib.hid (h.below hb0)
  have hB := Lib.hid hb0
  by_cases hs : b = a ∧ c = a
  · have h3 : eq3 (a : Int) b c a a a = true := by obtain ⟨rfl, rfl⟩ := hs; simp [eq3]
    have hR := Lib.hid (show cvar ds u a b c = (ds, a) from if_pos hs)
    clear h hs hb0
    go_enter Try.func131, Try.ntmps131
    go_wp2_with fail
    go_ret
    exact ⟨v, sl, ret_int (by rw [hR.out]), by rw [hR.out]; exact hh.out, Wf2.of_below hB.out _ _⟩
  · have h3 : eq3 (a : Int) b c a a a = false := by
      unfold eq3
      rw [Bool.eq_false_iff]
      intro q
      simp only [Bool.and_eq_true, beq_iff_eq] at q
      exact hs ⟨by omega, by omega⟩
    have hR := Lib.hid (show cvar ds u a b c = cput ds ⟨u, 0, a, b, c⟩ from if_neg hs)
    have cC := Lib.hid (fun (wx : World) (hx : Wv wx B G T pre v sl ds) => cellFor_any B G o T pre v sl ds ⟨u, 0, a, b, c⟩ wx hx ho hT hl)
    dsimp only at cC
    clear h hs hb0
    rw [hR.out]
    go_enter Try.func131, Try.ntmps131
    go_wp2_with fail
    refine (cC.out _ hh.out).mono ?_
    rintro e w' ⟨v', sl', rfl, hW, hF⟩
    have hW' := Lib.hid hW
    have hF' := Lib.hid ((Wf2.of_below hB.out G v).trans hF)
    clear hW hF
    go_wp2_with fail
    go_ret
    exact ⟨v', sl', rfl, hW'.out, hF'.out⟩
theorem wv_low {s v x : Nat} (hs : s < 3 ^ v) (hv : v ≤ 3) (hx : x ≤ 2) : withValue (s : Int) (v : Int) (x : Int) = ((s + x * 3 ^ v : Nat) : Int) := by
  have h81 : s ≤ 80 := by
    obtain rfl | rfl | rfl | rfl : v = 0 ∨ v = 1 ∨ v = 2 ∨ v = 3 := by omega
    all_goals
      simp only [Nat.reducePow] at hs
      omega
  rw [withValue_yes (k := v) (by omega) (by omega) rfl hv (by omega) (by omega)]
  obtain rfl | rfl | rfl | rfl : v = 0 ∨ v = 1 ∨ v = 2 ∨ v = 3 := by omega
  all_goals
    simp only [Nat.reducePow] at hs
    simp only [p3, Nat.reducePow]
    omega
theorem pow_low {s v x : Nat} (hs : s < 3 ^ v) (hx : x ≤ 2) : s + x * 3 ^ v < 3 ^ (v + 1) := by
  rw [Nat.pow_succ]
  have : x * 3 ^ v ≤ 2 * 3 ^ v := Nat.mul_le_mul_right _ hx
  omega
/-- A list that lies below what a weaver turns. -/
theorem ils_wf {w w' : World} {Bl B G : Nat} {v v' : Value} {A : Option Addr} {n : Nat} {os : List Int} (h : Ils w Bl A n os) (hf : Wf2 w w' G v v') (hG : Bl ≤ G) (hs : Bl ≤ w.heap.size) (hv : ∀ k, v.ownBlock = some k → Bl ≤ k) : Ils w' Bl A n os :=
  h.below (hf.but.below (fun i hi e => by
    rcases e with e | e
    · omega
    · have := hv i e; omega) hs)
end Go.Proofs.Ytghkpmafocacoaa

namespace Go.Proofs.Ytghkpmafocacoaa
set_option maxRecDepth 100000
set_option linter.unusedVariables false
open Go.RowKit

/-- The numbers of a list, by state. -/
theorem fl_get {os : List Int} {s : Nat} (h : s < os.length) : os[s]? = some (fl os s) := by
  unfold fl
  rw [List.getD_eq_getElem?_getD, List.getElem?_eq_getElem h]; rfl
theorem pow81 {s v : Nat} (hs : s < 3 ^ v) (hv : v ≤ 4) : s < 81 := by
  obtain rfl | rfl | rfl | rfl | rfl : v = 0 ∨ v = 1 ∨ v = 2 ∨ v = 3 ∨ v = 4 := by omega
  all_goals
    simp only [Nat.reducePow] at hs
    omega
theorem mk_step3 (f : Nat → Int) (r : Nat) (ds : List Ce) (s : Nat) {P Q R : List Ce × Nat} (hP : P = mkC f r ds s) (hQ : Q = mkC f r P.1 (s + 3 ^ (3 - r))) (hR : R = mkC f r Q.1 (s + 2 * 3 ^ (3 - r))) : mkC f (r + 1) ds s = cvar R.1 (3 - r) P.2 Q.2 R.2 := by
  subst hP hQ hR
  rw [mkC]
/-- The own block of a weaver's cells is none that was made since. -/
theorem own_far {w : World} {B G : Nat} {T : TypeId} {pre : List Value} {v : Value} {sl : List Int} {ds : List Ce} (h : Wv w B G T pre v sl ds) {k : Nat} (hk : v.ownBlock = some k) : B ≤ k ∧ k < w.heap.size := World.ownsRow.lt h.own k hk
set_option maxHeartbeats 4000000 in
theorem weave_any (B G o Bl n c : Nat) (T : TypeId) (pre : List Value) (A : Option Addr) (os : List Int) (ho : pre.length = o) (hT : T ≠ 47) (hBG : Bl ≤ G) (hBB : Bl ≤ B) (hn : n = 81) :
    ∀ (r u : Nat), u + r = 4 → ∀ (v : Value) (sl : List Int) (ds : List Ce) (s : Nat) (w : World), s < 3 ^ u → Wv w B G T pre v sl ds → Ils w Bl A n os → ds.length + nc r ≤ 250 →
    Calls Try.prog 77 #[.pointer (some ⟨G, o, none⟩), .slice A n c, .int .i64 (u : Int), .int .i64 (s : Int)] w (Wvd w B G T pre v (mkC (fl os) r ds s)) := by
  intro r
  induction r with
  | zero =>
    intro u hu v sl ds s w hs h hI hl
    obtain rfl : u = 4 := by omega
    have hs81 := pow81 hs (by decide)
    have hl' : ds.length ≤ 250 := by rw [nc] at hl; omega
    have cN := Lib.hid (numberCell_any B G o T pre v sl ds (fl os s) w h ho hT hl')
    have hE := Lib.hid (show mkC (fl os) 0 ds s = cput ds (cnum (fl os s)) from rfl)
    obtain ⟨g, off, rfl, hg, hc⟩ := hI.2 (by omega)
    have e0 := hc s _ (fl_get (by rw [hI.1]; omega))
    have hk0 : (0 : Int) ≤ (s : Int) := by omega
    have hk1 : (s : Int) < (n : Int) := by omega
    rw [hE.out]
    generalize fl os s = x at *
    clear h hI hl hl' hc hE hs hs81 hu hn
    go_enter Try.func77, Try.ntmps77
    go_wp2_with fail
    refine cN.out.mono ?_
    rintro e w' ⟨v', sl', rfl, hW, hF⟩
    have hW' := Lib.hid hW
    have hF' := Lib.hid hF
    clear hW hF
    go_wp2_with fail
    go_ret
    exact ⟨v', sl', rfl, hW'.out, hF'.out⟩
  | succ r ih =>
    intro u hu v sl ds s w hs h hI hl
    have hu3 : u ≤ 3 := by omega
    obtain ⟨P, hP⟩ : ∃ P, P = mkC (fl os) r ds s := ⟨_, rfl⟩
    obtain ⟨Q, hQ⟩ : ∃ Q, Q = mkC (fl os) r P.1 (s + 3 ^ (3 - r)) := ⟨_, rfl⟩
    obtain ⟨R, hR⟩ : ∃ R, R = mkC (fl os) r Q.1 (s + 2 * 3 ^ (3 - r)) := ⟨_, rfl⟩
    have hE := Lib.hid (mk_step3 (fl os) r ds s hP hQ hR)
    have l1 := mk_len (fl os) r ds s
    have l2 := mk_len (fl os) r P.1 (s + 3 ^ (3 - r))
    have l3 := mk_len (fl os) r Q.1 (s + 2 * 3 ^ (3 - r))
    rw [← hP] at l1
    rw [← hQ] at l2
    rw [← hR] at l3
    have hl0 : ds.length + (3 * nc r + 1) ≤ 250 := hl
    have hu' : 3 - r = u := by omega
    rw [hu'] at hQ hR hE
    have w0 := Lib.hid (wv_low (x := 0) hs hu3 (by decide))
    have w1 := Lib.hid (wv_low (x := 1) hs hu3 (by decide))
    have w2 := Lib.hid (wv_low (x := 2) hs hu3 (by decide))
    have c0 := Lib.hid (fun wx (hx : Wv wx B G T pre v sl ds) (hi : Ils wx Bl A n os) => ih (u + 1) (by omega) v sl ds s wx (by have := pow_low hs (x := 0) (by decide); simpa using this) hx hi (by omega))
    have c1 := Lib.hid (fun v1 sl1 wx (hx : Wv wx B G T pre v1 sl1 P.1) (hi : Ils wx Bl A n os) => ih (u + 1) (by omega) v1 sl1 P.1 (s + 1 * 3 ^ u) wx (pow_low hs (by decide)) hx hi (by omega))
    have c2 := Lib.hid (fun v1 sl1 wx (hx : Wv wx B G T pre v1 sl1 Q.1) (hi : Ils wx Bl A n os) => ih (u + 1) (by omega) v1 sl1 Q.1 (s + 2 * 3 ^ u) wx (pow_low hs (by decide)) hx hi (by omega))
    have cV := Lib.hid (fun v1 sl1 wx (hx : Wv wx B G T pre v1 sl1 R.1) => varCell_any B G o T pre v1 sl1 R.1 u P.2 Q.2 R.2 wx hx ho hT (by omega))
    have cW := Lib.hid (fun (x : Int) wx => WithValue_any (s : Int) (u : Int) x wx)
    rw [← hP] at c0
    rw [Nat.one_mul, ← hQ] at c1
    rw [← hR] at c2
    rw [Nat.zero_mul, Nat.add_zero] at w0
    rw [Nat.one_mul] at w1
    rw [hE.out]
    have hb0 : Below w.heap.size w (w.alloc (.cells #[.int .i64 0, .int .i64 0, .int .i64 0] 45)) := (Below.refl _ _).alloc (Nat.le_refl _) _
    have hW0 := Lib.hid (h.below hb0)
    have hBw := h.le
    have hsz : (w.alloc (.cells #[.int .i64 0, .int .i64 0, .int .i64 0] 45)).heap.size = w.heap.size + 1 := by simp
    have hI0 := Lib.hid (hI.below (hb0.mono (by omega)))
    have hK0 := Lib.hid (Has.new w 45 #[.int .i64 0, .int .i64 0, .int .i64 0])
    have hF0 := Lib.hid (Wf2.of_below hb0 G v)
    have hfar := Lib.hid (fun k (hk : v.ownBlock = some k) => (own_far h hk))
    have hGw := h.has.lt
    generalize s + 2 * 3 ^ u = s2 at *
    generalize s + 3 ^ u = s1 at *
    have hlen : Hid True := Lib.hid trivial
    clear h hI hl hl0 hP hQ hR hE ih hs l1 l2 l3 hb0 hu' hu hn
    go_enter Try.func77, Try.ntmps77
    have hu4 : ((u : Int) == 4) = false := by
      rw [beq_eq_false_iff_ne]
      omega
    have huw : IntKind.i64.wrap ((u : Int) + 1) = (u : Int) + 1 := by rw [IntKind.wrap_i64]; omega
    go_wp2_with fail
    generalize w.alloc (.cells #[.int .i64 0, .int .i64 0, .int .i64 0] 45) = wA at hW0 hI0 hK0 hF0 hsz ⊢
    generalize hkb : w.heap.size = kb at hK0 hGw hBw hsz hfar ⊢
    have hAz : kb < wA.heap.size := by omega
    have hAz2 : Bl ≤ wA.heap.size := by omega
    clear hsz
    go_loopw [19] (fun i wr => ∃ (vk : Value) (slk : List Int), Wf2 w wr G v vk ∧ kb < wr.heap.size ∧ (∀ k, vk.ownBlock = some k → B ≤ k ∧ k ≠ kb) ∧ Ils wr Bl A n os ∧
        ((i = .int .i64 0 ∧ Wv wr B G T pre vk slk ds ∧ v = vk ∧ sl = slk ∧ Has wr kb 45 #[.int .i64 0, .int .i64 0, .int .i64 0]) ∨
         (i = .int .i64 1 ∧ Wv wr B G T pre vk slk P.1 ∧ Has wr kb 45 #[.int .i64 (P.2 : Nat), .int .i64 0, .int .i64 0]) ∨
         (i = .int .i64 2 ∧ Wv wr B G T pre vk slk Q.1 ∧ Has wr kb 45 #[.int .i64 (P.2 : Nat), .int .i64 (Q.2 : Nat), .int .i64 0]) ∨
         (i = .int .i64 3 ∧ Wv wr B G T pre vk slk R.1 ∧ Has wr kb 45 #[.int .i64 (P.2 : Nat), .int .i64 (Q.2 : Nat), .int .i64 (R.2 : Nat)]))) (fun i _ => 3 - (intOf i).toNat)
    case atStart => exact ⟨v, sl, hF0.out, hAz, fun k hk => ⟨(hfar.out k hk).1, by have := (hfar.out k hk).2; omega⟩, hI0.out, .inl ⟨rfl, hW0.out, rfl, rfl, hK0.out⟩⟩
    case round =>
      obtain ⟨vk, slk, hF, hkz, hfk, hI, hrel⟩ := hrel
      clear hW0 hI0 hK0 hF0 hAz hAz2
      have hIh := Lib.hid hI
      have hFh := Lib.hid hF
      have hfh := Lib.hid hfk
      clear hI hF hfk
      rcases hrel with ⟨rfl, hWv, rfl, rfl, hKb⟩ | ⟨rfl, hWv, hKb⟩ | ⟨rfl, hWv, hKb⟩ | ⟨rfl, hWv, hKb⟩
      · have hWq := Lib.hid hWv
        have hKq := Lib.hid hKb
        have hIq := Lib.hid hIh.out
        clear hWv hKb
        have cW0 := Lib.hid (fun wx => cW.out 0 wx)
        rw [show ((0 : Int)) = ((0 : Nat) : Int) from rfl, w0.out] at cW0
        go_wp2_with fail
        refine (cW0.out _).mono ?_
        rintro e w' ⟨rfl, rfl⟩
        go_wp2_with fail
        refine (c0.out _ hWq.out hIq.out).mono ?_
        rintro e w5 ⟨vn, sln, rfl, hWn0, hFn⟩
        have hKn0 := Has.but hKq.out hFn.but (fun e => by
          rcases e with e | e
          · omega
          · exact (hfh.out _ e).2 rfl)
        have hz5 := hFn.but.size
        have hIn := Lib.hid (ils_wf (B := B) hIh.out hFn hBG (by omega) (fun q hq => Nat.le_trans hBB (hfh.out q hq).1))
        have hfn := Lib.hid (show ∀ q, vn.ownBlock = some q → B ≤ q ∧ q ≠ kb from fun q hq => ⟨(own_far hWn0 hq).1, fun e => by
          rcases hFn.new q hq with e2 | e2
          · exact (hfh.out q e2).2 e
          · omega⟩)
        have hFw := Lib.hid (hFh.out.trans hFn)
        have hkc := hKn0.cell
        have hkf := hKn0.frozen
        have hKn := Lib.hid (hKn0.put 0 (.int .i64 (P.2 : Nat)))
        have hP5 : KeptBut w5 (w5.setCell ⟨kb, 0, none⟩ (.int .i64 (P.2 : Nat))) (fun i => i = kb) := KeptBut.put (S := fun i => i = kb) (p := ⟨kb, 0, none⟩) (KeptBut.refl w5 (fun i => i = kb)) (fun _ => rfl) (.int .i64 (P.2 : Nat))
        have hWn := Lib.hid (show Wv (w5.setCell ⟨kb, 0, none⟩ (.int .i64 (P.2 : Nat))) B G T pre vn sln P.1 from ⟨hWn0.has.but hP5 (by omega), owns_but hWn0.own hP5 (fun q hq => (hfn.out q hq).2), hWn0.tab, Nat.le_trans hWn0.le hP5.size⟩)
        have hIs := Lib.hid (hIn.out.below (hP5.below (B := Bl) (fun i hi e => by omega) (by omega)))
        have hFs := Lib.hid (show Wf2 w (w5.setCell ⟨kb, 0, none⟩ (.int .i64 (P.2 : Nat))) G v vn from ⟨hFw.out.but.trans (hP5.mono (T := fun i => i = kb) (fun i _ e => e)) (fun i hi e => by omega), hFw.out.new⟩)
        have hzs := hP5.size
        clear hWn0 hFn hKn0 hP5
        go_wp2_with fail
        exact ⟨⟨vn, sln, hFs.out, by omega, hfn.out, hIs.out, .inr (.inl ⟨rfl, hWn.out, hKn.out⟩)⟩, by simp [intOf]⟩
      · have hWq := Lib.hid hWv
        have hKq := Lib.hid hKb
        have hIq := Lib.hid hIh.out
        clear hWv hKb
        have cW1 := Lib.hid (fun wx => cW.out 1 wx)
        rw [show ((1 : Int)) = ((1 : Nat) : Int) from rfl, w1.out] at cW1
        go_wp2_with fail
        refine (cW1.out _).mono ?_
        rintro e w' ⟨rfl, rfl⟩
        go_wp2_with fail
        refine (c1.out _ _ _ hWq.out hIq.out).mono ?_
        rintro e w5 ⟨vn, sln, rfl, hWn0, hFn⟩
        have hKn0 := Has.but hKq.out hFn.but (fun e => by
          rcases e with e | e
          · omega
          · exact (hfh.out _ e).2 rfl)
        have hz5 := hFn.but.size
        have hIn := Lib.hid (ils_wf (B := B) hIh.out hFn hBG (by omega) (fun q hq => Nat.le_trans hBB (hfh.out q hq).1))
        have hfn := Lib.hid (show ∀ q, vn.ownBlock = some q → B ≤ q ∧ q ≠ kb from fun q hq => ⟨(own_far hWn0 hq).1, fun e => by
          rcases hFn.new q hq with e2 | e2
          · exact (hfh.out q e2).2 e
          · omega⟩)
        have hFw := Lib.hid (hFh.out.trans hFn)
        have hkc := hKn0.cell
        have hkf := hKn0.frozen
        have hKn := Lib.hid (hKn0.put 1 (.int .i64 (Q.2 : Nat)))
        have hP5 : KeptBut w5 (w5.setCell ⟨kb, 1, none⟩ (.int .i64 (Q.2 : Nat))) (fun i => i = kb) := KeptBut.put (S := fun i => i = kb) (p := ⟨kb, 1, none⟩) (KeptBut.refl w5 (fun i => i = kb)) (fun _ => rfl) (.int .i64 (Q.2 : Nat))
        have hWn := Lib.hid (show Wv (w5.setCell ⟨kb, 1, none⟩ (.int .i64 (Q.2 : Nat))) B G T pre vn sln Q.1 from ⟨hWn0.has.but hP5 (by omega), owns_but hWn0.own hP5 (fun q hq => (hfn.out q hq).2), hWn0.tab, Nat.le_trans hWn0.le hP5.size⟩)
        have hIs := Lib.hid (hIn.out.below (hP5.below (B := Bl) (fun i hi e => by omega) (by omega)))
        have hFs := Lib.hid (show Wf2 w (w5.setCell ⟨kb, 1, none⟩ (.int .i64 (Q.2 : Nat))) G v vn from ⟨hFw.out.but.trans (hP5.mono (T := fun i => i = kb) (fun i _ e => e)) (fun i hi e => by omega), hFw.out.new⟩)
        have hzs := hP5.size
        clear hWn0 hFn hKn0 hP5
        go_wp2_with fail
        exact ⟨⟨vn, sln, hFs.out, by omega, hfn.out, hIs.out, .inr (.inr (.inl ⟨rfl, hWn.out, hKn.out⟩))⟩, by simp [intOf]⟩
      · have hWq := Lib.hid hWv
        have hKq := Lib.hid hKb
        have hIq := Lib.hid hIh.out
        clear hWv hKb
        have cW2 := Lib.hid (fun wx => cW.out 2 wx)
        rw [show ((2 : Int)) = ((2 : Nat) : Int) from rfl, w2.out] at cW2
        go_wp2_with fail
        refine (cW2.out _).mono ?_
        rintro e w' ⟨rfl, rfl⟩
        go_wp2_with fail
        refine (c2.out _ _ _ hWq.out hIq.out).mono ?_
        rintro e w5 ⟨vn, sln, rfl, hWn0, hFn⟩
        have hKn0 := Has.but hKq.out hFn.but (fun e => by
          rcases e with e | e
          · omega
          · exact (hfh.out _ e).2 rfl)
        have hz5 := hFn.but.size
        have hIn := Lib.hid (ils_wf (B := B) hIh.out hFn hBG (by omega) (fun q hq => Nat.le_trans hBB (hfh.out q hq).1))
        have hfn := Lib.hid (show ∀ q, vn.ownBlock = some q → B ≤ q ∧ q ≠ kb from fun q hq => ⟨(own_far hWn0 hq).1, fun e => by
          rcases hFn.new q hq with e2 | e2
          · exact (hfh.out q e2).2 e
          · omega⟩)
        have hFw := Lib.hid (hFh.out.trans hFn)
        have hkc := hKn0.cell
        have hkf := hKn0.frozen
        have hKn := Lib.hid (hKn0.put 2 (.int .i64 (R.2 : Nat)))
        have hP5 : KeptBut w5 (w5.setCell ⟨kb, 2, none⟩ (.int .i64 (R.2 : Nat))) (fun i => i = kb) := KeptBut.put (S := fun i => i = kb) (p := ⟨kb, 2, none⟩) (KeptBut.refl w5 (fun i => i = kb)) (fun _ => rfl) (.int .i64 (R.2 : Nat))
        have hWn := Lib.hid (show Wv (w5.setCell ⟨kb, 2, none⟩ (.int .i64 (R.2 : Nat))) B G T pre vn sln R.1 from ⟨hWn0.has.but hP5 (by omega), owns_but hWn0.own hP5 (fun q hq => (hfn.out q hq).2), hWn0.tab, Nat.le_trans hWn0.le hP5.size⟩)
        have hIs := Lib.hid (hIn.out.below (hP5.below (B := Bl) (fun i hi e => by omega) (by omega)))
        have hFs := Lib.hid (show Wf2 w (w5.setCell ⟨kb, 2, none⟩ (.int .i64 (R.2 : Nat))) G v vn from ⟨hFw.out.but.trans (hP5.mono (T := fun i => i = kb) (fun i _ e => e)) (fun i hi e => by omega), hFw.out.new⟩)
        have hzs := hP5.size
        clear hWn0 hFn hKn0 hP5
        go_wp2_with fail
        exact ⟨⟨vn, sln, hFs.out, by omega, hfn.out, hIs.out, .inr (.inr (.inr ⟨rfl, hWn.out, hKn.out⟩))⟩, by simp [intOf]⟩
      · have hKc := hKb.cell
        have hWq := Lib.hid hWv
        clear hWv hKb
        go_wp2_with fail
        refine (cV.out _ _ _ hWq.out).mono ?_
        rintro e w5 ⟨vn, sln, rfl, hWn0, hFn⟩
        have hWn := Lib.hid hWn0
        have hFw := Lib.hid (hFh.out.trans hFn)
        clear hWn0 hFn hKc
        go_wp2_with fail
        go_ret
        exact ⟨vn, sln, rfl, hWn.out, hFw.out⟩

theorem info_weaver : (Try.prog.info? 84).map (fun i => (i.zero, i.size)) = some (some (.agg (wvC [] (.slice none 0 0) (List.replicate 251 0))), 252) := by kernel_rfl
/-- What DiagramOf tells. -/
def dOf (os : List Int) : List Ce := if lstOk 1000000000 os = true then mkd (fl os) else []
/-- A list of cells of the call's own, and whether it is one. -/
def Cbd (w : World) (ds : List Ce) (ok : Bool) (e : Ending) (w' : World) : Prop := ∃ v, e = .returned (.tuple #[v, .bool ok]) ∧ COwn w' w.heap.size v ds ∧ Below w.heap.size w w'
theorem DiagramOf_any (A : Option Addr) (n c : Nat) (os : List Int) (w : World) (h : Ils w w.heap.size A n os) (hn : n ≤ maxLen) :
    Calls Try.prog 30 #[.slice A n c] w (Cbd w (dOf os) (lstOk 1000000000 os)) := by
  have cL := Lib.hid (listOk_any A n c os 1000000000 w h hn)
  have hH := Lib.hid h
  have hL := h.1
  clear h hn
  cases hk : lstOk 1000000000 os
  · have hR := Lib.hid (show dOf os = [] by unfold dOf; rw [hk]; rfl)
    rw [hk] at cL
    clear hk hL
    go_enter Try.func30, Try.ntmps30
    go_wp2_with fail
    refine cL.out.mono ?_
    rintro e w1 ⟨rfl, hb⟩
    have hB := Lib.hid hb
    clear hb
    go_wp2_with fail
    go_ret2
    exact ⟨_, rfl, by rw [hR.out]; exact COwn.nil _ _, hB.out⟩
  · have hR := Lib.hid (show dOf os = (mkC (fl os) 4 [] 0).1 by unfold dOf; rw [if_pos hk]; rfl)
    have h81 := (lstOk_bd hk).1
    have hn81 : Hid (n = 81) := Lib.hid (by omega)
    rw [hk] at cL
    clear hk hL h81
    obtain ⟨hzero, hsize⟩ := zero_of_info (P := Try.prog) info_weaver
    clear hsize
    have hcw := Lib.hid (rfl : wvC [] (.slice none 0 0) (List.replicate 251 0) = wvC [] (.slice none 0 0) (List.replicate 251 0))
    have hgen : ∃ cs, cs = wvC [] (.slice none 0 0) (List.replicate 251 0) := ⟨_, rfl⟩
    obtain ⟨cs, hcs⟩ := hgen
    rw [← hcs] at hzero
    have hcsh := Lib.hid hcs
    clear hcs hcw
    go_enter Try.func30, Try.ntmps30
    go_wp2_with fail
    refine cL.out.mono ?_
    rintro e w1 ⟨rfl, hb⟩
    have hB1 := Lib.hid (hb.alloc hb.size (.cells cs 84))
    have hz1 := hb.size
    have hI1 := Lib.hid (hH.out.below hB1.out)
    have hW1 : Hid (Wv (w1.alloc (.cells cs 84)) (w1.alloc (.cells cs 84)).heap.size w1.heap.size 84 [] (.slice none 0 0) (List.replicate 251 0) []) := Lib.hid ⟨by rw [← hcsh.out]; exact Has.new _ _ _, COwn.nil _ _, Tab.nil _, Nat.le_refl _⟩
    have hzA : w.heap.size ≤ (w1.alloc (.cells cs 84)).heap.size := hB1.out.size
    clear hb
    go_wp2_with fail
    clear hzero
    generalize w1.alloc (.cells cs 84) = W at hB1 hI1 hW1 hzA ⊢
    generalize w1.heap.size = G at hz1 hW1 ⊢
    have cW : Calls Try.prog 77 #[.pointer (some ⟨G, 0, none⟩), .slice A n c, .int .i64 0, .int .i64 0] W (Wvd W W.heap.size G 84 [] (.slice none 0 0) (mkC (fl os) 4 [] 0)) := weave_any W.heap.size G 0 w.heap.size n c 84 [] A os rfl (by decide) hz1 hzA hn81.out 4 0 rfl (.slice none 0 0) (List.replicate 251 0) [] 0 W (by decide) hW1.out hI1.out (by decide)
    refine cW.mono ?_
    rintro e w2 ⟨v2, sl2, rfl, hW2, hF2⟩
    have hB2 := Lib.hid (hB1.out.trans (hF2.but.below (B := w.heap.size) (fun i hi e => by
      rcases e with e | e
      · omega
      · cases e) hzA))
    have hO2 := Lib.hid (show COwn w2 w.heap.size v2 (mkC (fl os) 4 [] 0).1 from owns_le hW2.own hzA)
    have e0 := (hW2.has.cell 0).trans (wvC_head rfl v2 sl2)
    clear cW hF2 hW2
    go_wp2_with fail
    go_ret2
    exact ⟨_, rfl, by rw [hR.out]; exact hO2.out, hB2.out⟩
end Go.Proofs.Ytghkpmafocacoaa

namespace Go.Proofs.Ytghkpmafocacoaa
set_option maxRecDepth 100000
set_option linter.unusedVariables false
open Go.RowKit

theorem idx_first {ds : List Ce} {c : Ce} {k : Nat} (hk : k < ds.length) (h : gt ds k = c) (hb : ∀ j, j < k → gt ds j ≠ c) : cput ds c = (ds, k) := by
  have hg := gt_some hk
  rw [h] at hg
  have hm : c ∈ ds := List.mem_of_getElem? hg
  have hi : ds.idxOf c < ds.length := List.idxOf_lt_length_iff.2 hm
  have e1 : ds[ds.idxOf c] = c := List.getElem_idxOf hi
  have h1 : ¬ ds.idxOf c < k := fun q => hb _ q (gt_get (by rw [List.getElem?_eq_getElem hi, e1]))
  have h2 : ¬ k < ds.idxOf c := fun q => by
    have := List.not_of_lt_findIdx (p := (· == c)) (xs := ds) (i := k) q
    simp at this
    exact this (List.getElem?_eq_some_iff.1 hg).2
  unfold cput
  rw [if_pos hm, show ds.idxOf c = k by omega]
theorem idx_none {ds : List Ce} {c : Ce} (hb : ∀ j, j < ds.length → gt ds j ≠ c) : cput ds c = (ds ++ [c], ds.length) := by
  have hm : c ∉ ds := fun hm => by
    obtain ⟨i, hi, e⟩ := List.getElem_of_mem hm
    exact hb i hi (gt_get (by rw [List.getElem?_eq_getElem hi, e]))
  unfold cput
  rw [if_neg hm, List.idxOf_eq_length hm]
/-- Only the block of a list has turned, which goes to a new one at most. -/
structure Wk (w w' : World) (v v' : Value) : Prop where
  but : KeptBut w w' (fun k => v.ownBlock = some k)
  new : ∀ k, v'.ownBlock = some k → v.ownBlock = some k ∨ w.heap.size ≤ k
theorem Wk.refl (w : World) (v : Value) : Wk w w v v := ⟨KeptBut.refl _ _, fun k h => .inl h⟩
theorem Wk.trans {a b c : World} {u v x : Value} (h : Wk a b u v) (k : Wk b c v x) : Wk a c u x := by
  refine ⟨h.but.trans k.but fun i hi e => ?_, fun i e => ?_⟩
  · rcases h.new i e with e | e
    · exact e
    · omega
  · rcases k.new i e with e | e
    · exact h.new i e
    · exact .inr (Nat.le_trans h.but.size e)
theorem Wk.of_below {w w' : World} (h : Below w.heap.size w w') (v : Value) : Wk w w' v v := ⟨KeptBut.of_below h _, fun k e => .inl e⟩
/-- How a call of the model that puts cells behind others ends. -/
def Mpd (w : World) (B : Nat) (v : Value) (R : List Ce × Nat) (e : Ending) (w' : World) : Prop :=
  ∃ v', e = .returned (.tuple #[v', .int .i64 (R.2 : Nat)]) ∧ COwn w' B v' R.1 ∧ Wk w w' v v'
set_option maxHeartbeats 2000000 in
theorem l11Put_any (B : Nat) (v : Value) (ds : List Ce) (c : Ce) (w : World) (h : COwn w B v ds) (hBw : B ≤ w.heap.size) (hl : ds.length ≤ 250) :
    Calls Try.prog 128 #[v, .agg #[.int .i64 c.v, .int .i64 c.n, .int .i64 c.a, .int .i64 c.b, .int .i64 c.c]] w (Mpd w B v (cput ds c)) := by
  have eqC := eqCe
  obtain ⟨i0, hi0, hz0, hz1', hz2'⟩ := info_parts info_cell
  have hb0 : Below w.heap.size w (w.alloc (.cells #[.int .i64 c.v, .int .i64 c.n, .int .i64 c.a, .int .i64 c.b, .int .i64 c.c] 47)) := (Below.refl _ _).alloc (Nat.le_refl _) _
  have hW := Lib.hid (Has.new w 47 #[.int .i64 c.v, .int .i64 c.n, .int .i64 c.a, .int .i64 c.b, .int .i64 c.c])
  have hO0 := Lib.hid (h.below hb0)
  have hB := Lib.hid hb0
  have hF0 := Lib.hid (Wk.of_below hb0 v)
  obtain ⟨A, cp, hv, hcp1, hcp2⟩ := h.form
  subst hv
  clear h hb0
  go_enter Try.func128, Try.ntmps128
  go_wp2_with fail
  generalize w.alloc (.cells #[.int .i64 c.v, .int .i64 c.n, .int .i64 c.a, .int .i64 c.b, .int .i64 c.c] 47) = W0 at hW hO0 hB hF0 ⊢
  have hz0' : w.heap.size ≤ W0.heap.size := hB.out.size
  generalize hq : w.heap.size = q at hW hz0' ⊢
  have hqh := Lib.hid hq
  clear hq
  go_loopw [6] (fun i wr => ∃ k m : Nat, k ≤ ds.length ∧ i = .int .i64 k ∧ (∀ j, j < k → gt ds j ≠ c) ∧ wr = W0.drewN m) (fun i _ => ds.length - (intOf i).toNat)
  case atStart => exact ⟨0, 0, Nat.zero_le _, rfl, fun j hj => absurd hj (Nat.not_lt_zero _), rfl⟩
  case round =>
    obtain ⟨k, m, hk, rfl, hp, hw⟩ := hrel
    have hPh := Lib.hid hp
    have hbr : Below W0.heap.size W0 wr := by rw [hw]; exact below_drewN (Below.refl _ _) _
    have hWr := Lib.hid hw
    clear hp hw
    have hOr := Lib.hid (hO0.out.below hbr)
    have hCr := Lib.hid (hW.out.kept hbr)
    have hFr := Lib.hid (hF0.out.trans (Wk.of_below hbr _))
    have hzr := hbr.size
    clear hbr
    have hxc := hCr.out.cell
    by_cases hlt : k < ds.length
    · obtain ⟨g, off, rfl, hg, hat⟩ := (COwn.lst hOr.out).gt_ hlt
      obtain ⟨f0, f1, f2, f3, f4⟩ := hat.open_
      have hk0 : (0 : Int) ≤ (k : Int) := by omega
      have hk1 : (k : Int) < (ds.length : Int) := by omega
      have hput := Lib.hid (fun e => idx_first hlt e hPh.out)
      generalize hgt : gt ds k = t at *
      have hgth := Lib.hid hgt
      clear hat hgt
      cases hcc : ceq t c
      · have hN := Lib.hid (show ∀ j, j < k + 1 → gt ds j ≠ c from fun j hj => by
          by_cases e : j = k
          · rw [e, hgth.out]; exact ceq_not hcc
          · exact hPh.out j (by omega))
        clear hput
        go_wp2_with fail
        go_quiet (fail)
        go_wp2_with fail
        exact ⟨⟨k + 1, m + nq, by omega, by go_num, hN.out, by rw [hWr.out, World.drewN_drewN]⟩, by simp [intOf]; omega⟩
      · have hR := Lib.hid (hput.out (ceq_iff.1 hcc))
        clear hput
        go_wp2_with fail
        go_quiet (fail)
        go_wp2_with fail
        go_ret2
        rw [hR.out]
        exact ⟨_, rfl, hOr.out.below (below_drewN (Below.refl _ _) _), hFr.out.trans (Wk.of_below (below_drewN (Below.refl _ _) _) _)⟩
    · obtain rfl : k = ds.length := by omega
      have hR := Lib.hid (idx_none hPh.out)
      have hnq := Lib.hid (show ∀ j u, c.cells[j]? = some u → (wr.alloc (.cells #[.int .i64 c.v, .int .i64 c.n, .int .i64 c.a, .int .i64 c.b, .int .i64 c.c] 47)).cell? ((⟨wr.heap.size, 0, none⟩ : Addr).add j) = some u from World.news_of_block (Has.new wr 47 #[.int .i64 c.v, .int .i64 c.n, .int .i64 c.a, .int .i64 c.b, .int .i64 c.c]))
      have hOa := Lib.hid (World.ownsRow.alloc (show wr.ownsRow B 47 5 (.slice A ds.length cp) ds.length (cflat ds) from hOr.out) (.cells #[.int .i64 c.v, .int .i64 c.n, .int .i64 c.a, .int .i64 c.b, .int .i64 c.c] 47))
      have hqq : B ≤ wr.heap.size := by have := hqh.out; omega
      go_wp2_with (at_builtin; refine wpList_append_lies _ rfl (.tmp 21) (.tmp 23) 25 rfl B 47 i0 _ 5 40 Try.underlying25 hi0 hz0 hz1' hz2' rfl (by decide) (.slice A ds.length cp) ds.length (cflat ds) rfl (by exact hOa.out) ⟨wr.heap.size, 0, none⟩ 1 1 c.cells rfl rfl (by exact hnq.out) (by simp [Ce.cells, Value.oneCell']) (by omega) (by unfold maxLen; omega) (by omega) (by simp; omega) (wr.heap.size + 1) (by simp) ?_; intro gq cq w8 hown8 hgrow8 hat8 hlt8)
      have hK8 : KeptBut wr w8 (fun i => (Value.slice A ds.length cp).ownBlock = some i) := KeptBut.trans (KeptBut.alloc (KeptBut.refl wr (fun i => (Value.slice A ds.length cp).ownBlock = some i)) (.cells #[.int .i64 c.v, .int .i64 c.n, .int .i64 c.a, .int .i64 c.b, .int .i64 c.c] 47)) ⟨hgrow8.os, hgrow8.tape, hgrow8.output, hgrow8.size, fun i hi hn => hgrow8.block i hi (fun e => hn e.symm)⟩ (fun _ _ e => e)
      have hO9 := Lib.hid (show COwn w8 B (.slice (some ⟨gq, 0, none⟩) (ds.length + 1) cq) (ds ++ [c]) from by
        unfold COwn
        rw [List.length_append, List.length_singleton, cflat_append]
        simpa [cflat] using hown8)
      have hF9 := Lib.hid (hFr.out.trans (show Wk wr w8 (.slice A ds.length cp) (.slice (some ⟨gq, 0, none⟩) (ds.length + 1) cq) from ⟨hK8, fun k e => by
        obtain rfl : gq = k := by injection e with e
        rcases hat8 with e | e
        · exact .inl e
        · exact .inr (by omega)⟩))
      clear hown8 hgrow8 hat8 hK8 hlt8
      go_wp2_with fail
      go_ret2
      rw [hR.out]
      exact ⟨_, rfl, hO9.out, hF9.out⟩
end Go.Proofs.Ytghkpmafocacoaa

namespace Go.Proofs.Ytghkpmafocacoaa
set_option maxRecDepth 100000
set_option linter.unusedVariables false
open Go.RowKit

theorem lstOk_of {os : List Int} (hl : os.length = 81) (h : ∀ x ∈ os, 0 ≤ x ∧ x ≤ 1000000000) : lstOk 1000000000 os = true := by
  cases hk : lstOk 1000000000 os
  · exfalso
    unfold lstOk at hk
    rw [hl, decide_eq_true rfl, Bool.true_and] at hk
    rw [show numsOk 1000000000 os = true from List.all_eq_true.2 fun x hx => inB_iff.2 (h x hx)] at hk
    cases hk
  · rfl
/-- A diagram's numbers are a list. -/
theorem lst_dlist (ds : List Ce) : lstOk 1000000000 (dlistOf ds) = diaOk ds := by
  unfold dlistOf
  cases hd : diaOk ds
  · rfl
  · rw [if_pos rfl]
    obtain ⟨d1, d2, d3⟩ := dia_parts hd
    refine lstOk_of (dlist_length ds) fun x hx => ?_
    unfold dlist at hx
    obtain ⟨s, _, rfl⟩ := List.mem_map.1 hx
    exact num_bd d3 s _ (by omega)
/-- What Least tells. -/
def leastOf (ds : List Ce) : List Ce := dOf (dlistOf ds)
theorem Least_any (A : Option Addr) (n c : Nat) (ds : List Ce) (w : World) (h : CLst w w.heap.size A n ds) (hn : n ≤ maxLen) (hc : c ≤ maxLen) (hnc : n ≤ c) :
    Calls Try.prog 33 #[.slice A n c] w (Cbd w (leastOf ds) (diaOk ds)) := by
  have cD := Lib.hid (DiagramList_any A n c ds w h hn hc hnc)
  have hK := Lib.hid (lst_dlist ds)
  have hE := Lib.hid (show leastOf ds = dOf (dlistOf ds) from rfl)
  rw [hE.out]
  have hlen : (dlistOf ds).length ≤ 81 := by
    unfold dlistOf
    split
    · rw [dlist_length]; exact Nat.le_refl _
    · exact Nat.zero_le _
  generalize dlistOf ds = os at *
  clear h hn hc hnc hE
  go_enter Try.func33, Try.ntmps33
  go_wp2_with fail
  refine cD.out.mono ?_
  rintro e w1 ⟨v, rfl, hO, hb⟩
  obtain ⟨A1, c1, rfl, _, _⟩ := hO.form
  have cO := Lib.hid (DiagramOf_any A1 os.length c1 os w1 hO.lst (by unfold maxLen; omega))
  rw [hK.out] at cO
  have hB := Lib.hid hb
  clear hO hb hK
  go_wp2_with fail
  refine cO.out.mono ?_
  rintro e w2 ⟨v2, rfl, hO2, hb2⟩
  have hB2 := Lib.hid (hB.out.trans (hb2.mono hB.out.size))
  have hO2' := Lib.hid (show COwn w2 w.heap.size v2 (dOf os) from owns_le hO2 hB.out.size)
  clear hO2 hb2
  go_wp2_with fail
  go_ret2
  exact ⟨_, rfl, hO2'.out, hB2.out⟩
theorem csum_top {ds : List Ce} (h : diaOk ds = true) : 0 ≤ csum ds (ds.length - 1) ∧ csum ds (ds.length - 1) * 3 ^ (gt ds (ds.length - 1)).lev.toNat ≤ 1000000000000 := by
  obtain ⟨d1, d2, d3⟩ := dia_parts h
  have hb := csum_bd d3 (i := ds.length - 1) (by omega)
  have hl := lev_bd (up_of d3) (i := ds.length - 1) (by omega)
  generalize (gt ds (ds.length - 1)).lev = l at *
  generalize csum ds (ds.length - 1) = s at *
  obtain ⟨l, rfl⟩ : ∃ n : Nat, l = n := ⟨l.toNat, by omega⟩
  rw [Int.toNat_natCast] at hb ⊢
  refine ⟨hb.1, ?_⟩
  obtain rfl | rfl | rfl | rfl | rfl : l = 0 ∨ l = 1 ∨ l = 2 ∨ l = 3 ∨ l = 4 := by omega
  all_goals
    simp at hb ⊢
    omega
set_option maxHeartbeats 1000000 in
theorem DiagramSum_any (A : Option Addr) (n c : Nat) (ds : List Ce) (w : World) (h : CLst w w.heap.size A n ds) (hn : n ≤ maxLen) (hc : c ≤ maxLen) (hnc : n ≤ c) :
    Calls Try.prog 35 #[.slice A n c] w fun e w' => e = .returned (.int .i64 (dsum ds)) ∧ Below w.heap.size w w' := by
  have cC := Lib.hid (CellSums_any A n c ds w h hn hc hnc)
  have hH := Lib.hid h
  have hL := h.1
  clear h
  cases hd : diaOk ds
  · have hR := Lib.hid (show dsum ds = -1 by unfold dsum; rw [hd]; rfl)
    have hS : csums ds = [] := by unfold csums; rw [hd]; rfl
    rw [hS] at cC
    clear hd hL hn hc hnc hS
    go_enter Try.func35, Try.ntmps35
    go_wp2_with fail
    refine cC.out.mono ?_
    rintro e w1 ⟨v, rfl, hO, hb⟩
    obtain ⟨A1, c1, rfl, _, _⟩ := hO.form
    have hB := Lib.hid hb
    clear hb hO
    go_wp2_with fail
    go_ret
    exact ⟨ret_int hR.out, hB.out⟩
  · obtain ⟨d1, d2, d3⟩ := dia_parts hd
    have hS : csums ds = (List.range n).map (csum ds) := by unfold csums; rw [if_pos hd, hL]
    have hT := csum_top hd
    have hR : dsum ds = csum ds (ds.length - 1) * 3 ^ (gt ds (ds.length - 1)).lev.toNat := by unfold dsum; rw [if_pos hd, csum_all hd]
    have hlb := lev_bd (up_of d3) (i := ds.length - 1) (by omega)
    rw [hL] at hT hR hlb
    rw [hS] at cC
    obtain ⟨m, rfl⟩ : ∃ m, n = m + 1 := ⟨n - 1, by omega⟩
    rw [Nat.add_sub_cancel] at hT hR hlb
    obtain ⟨l, hl⟩ : ∃ l : Nat, (gt ds m).lev = l := ⟨_, (Int.toNat_of_nonneg hlb.1).symm⟩
    have hl4 : l ≤ 4 := by omega
    have cF := Lib.hid (fun wx => sumFrom_any (csum ds m) 0 l wx (Nat.zero_le _) hl4 hT.1 (by have := hT.2; rw [hl, Int.toNat_natCast] at this; simpa using this))
    have hR2 := Lib.hid (show dsum ds = csum ds m * 3 ^ (l - 0) by rw [hR, hl, Int.toNat_natCast, Nat.sub_zero])
    have cL := Lib.hid (fun wx => levelOf_any (gt ds m) wx)
    rw [hl] at cL
    have hmb : m ≤ 120 := by omega
    clear hd d1 d2 d3 hL hn hc hnc hS hT hR hlb hl hl4
    go_enter Try.func35, Try.ntmps35
    go_wp2_with fail
    refine cC.out.mono ?_
    rintro e w1 ⟨v, rfl, hO, hb⟩
    obtain ⟨A1, c1, rfl, _, _⟩ := hO.form
    have hlst := hO.lst
    have hll : ((List.range (m + 1)).map (csum ds)).length = m + 1 := by simp
    rw [hll] at hlst
    obtain ⟨gs, os, rfl, hgs, hcs⟩ := hlst.2 (by omega)
    have es := hcs m (csum ds m) (by rw [List.getElem?_map, List.getElem?_range (by omega)]; rfl)
    obtain ⟨g, off, rfl, hg, hat⟩ := (hH.out.below hb).gt_ (k := m) (by omega)
    obtain ⟨f0, f1, f2, f3, f4⟩ := hat.open_
    have hgz : g < w1.heap.size := Nat.lt_of_lt_of_le hg hb.size
    have hB := Lib.hid hb
    rw [hll]
    generalize csum ds m = x at *
    generalize gt ds m = d at *
    have hOk := Lib.hid (fun (wx : World) (hx : Below w1.heap.size w1 wx) => (show Below w1.heap.size w1 wx ∧ wx.cell? ⟨gs, os + m, none⟩ = some (.int .i64 x) ∧ wx.cell? ⟨g, off + m * 5, none⟩ = some (.int .i64 d.v) ∧ wx.cell? ⟨g, off + m * 5 + 1, none⟩ = some (.int .i64 d.n) ∧ wx.cell? ⟨g, off + m * 5 + 2, none⟩ = some (.int .i64 d.a) ∧ wx.cell? ⟨g, off + m * 5 + 3, none⟩ = some (.int .i64 d.b) ∧ wx.cell? ⟨g, off + m * 5 + 4, none⟩ = some (.int .i64 d.c) from
      ⟨hx, (hx.cell (p := ⟨gs, os + m, none⟩) (by exact hgs)).trans es, (hx.cell (p := ⟨g, off + m * 5, none⟩) (by exact hgz)).trans f0, (hx.cell (p := ⟨g, off + m * 5 + 1, none⟩) (by exact hgz)).trans f1, (hx.cell (p := ⟨g, off + m * 5 + 2, none⟩) (by exact hgz)).trans f2, (hx.cell (p := ⟨g, off + m * 5 + 3, none⟩) (by exact hgz)).trans f3, (hx.cell (p := ⟨g, off + m * 5 + 4, none⟩) (by exact hgz)).trans f4⟩))
    clear hb hO hlst hcs hat hll
    have hm0 : (0 : Int) ≤ (m : Int) := by omega
    have hm1 : (m : Int) < (m : Int) + 1 := by omega
    have hmw : IntKind.i64.wrap (m : Int) = m := by rw [IntKind.wrap_i64]; omega
    go_wp2_with fail
    go_region_held3 (fun wx => Below w1.heap.size w1 wx ∧ wx.cell? ⟨gs, os + m, none⟩ = some (.int .i64 x) ∧ wx.cell? ⟨g, off + m * 5, none⟩ = some (.int .i64 d.v) ∧ wx.cell? ⟨g, off + m * 5 + 1, none⟩ = some (.int .i64 d.n) ∧ wx.cell? ⟨g, off + m * 5 + 2, none⟩ = some (.int .i64 d.a) ∧ wx.cell? ⟨g, off + m * 5 + 3, none⟩ = some (.int .i64 d.b) ∧ wx.cell? ⟨g, off + m * 5 + 4, none⟩ = some (.int .i64 d.c)) (first | exact hOk.out _ ((Below.refl _ _).drew) | exact hOk.out _ (bt6 (by assumption) hbq) | exact hOk.out _ (bs6 (by assumption)) | exact hOk.out _ (bd6 (by assumption)) | go_keep) (first | (go_at_call 81; refine (cL.out _).mono ?_; rintro e q ⟨rfl, hbq⟩) | (go_at_call 80; refine (cF.out _).mono ?_; rintro e q ⟨rfl, rfl⟩))
    rename_i hHeld
    have hB6 := Lib.hid (hB.out.trans (hHeld.1.mono hB.out.size))
    clear hHeld hOk cF cL
    go_wp2_with fail
    go_ret
    exact ⟨ret_int hR2.out, hB6.out⟩
end Go.Proofs.Ytghkpmafocacoaa
