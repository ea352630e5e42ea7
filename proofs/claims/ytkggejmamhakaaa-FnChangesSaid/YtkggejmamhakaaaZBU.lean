/- Parts of the proof: D6. -/
import Derived.Test.YtkggejmamhakaaaZAY
import Derived.Test.YtkggejmamhakaaaZAV
import Derived.Test.YtkggejmamhakaaaZBT
import Derived.Test.YtkggejmamhakaaaZBS
import Derived.Test.YtkggejmamhakaaaZAK
namespace Go.Proofs.Ytkggejmamhakaaa
set_option maxRecDepth 100000
set_option linter.unusedVariables false
open Go.RowKit
def tdA (v : Value) (f : Nat → Nat) (b : Int) : Array Value := #[v, .int .i64 (f 0), .int .i64 (f 1), .int .i64 (f 2), .int .i64 (f 3), .int .i64 (f 4), .int .i64 b]
/-- A tidier in block g: its list, from where each change may fit, and what it has divided by. -/
def Tdr (w : World) (base g : Nat) (v : Value) (ps : List St) (f : Nat → Nat) (b : Int) : Prop := base ≤ g ∧ Has w g 57 (tdA v f b) ∧ Own w base v ps
theorem ttd : (63 : TypeId) ≠ 57 := by decide
theorem own_ne {w : World} {base g : Nat} {v : Value} {ps : List St} {cs : Array Value} (ho : Own w base v ps) (hg : Has w g 57 cs) : ∀ k, v.ownBlock = some k → k ≠ g := by
  intro k hk e
  subst e
  rcases ho.2 with ⟨hv, _⟩ | ⟨b, cap, cur, hv, hb, hh, _⟩
  · rw [hv] at hk; cases hk
  · rw [hv] at hk
    have e : b = k := by simpa [Value.ownBlock] using hk
    subst e
    have e2 := Option.some.inj (hh.symm.trans hg)
    injection e2 with _ e3
    exact ttd e3
theorem Tdr.set {w : World} {base g : Nat} {v : Value} {ps : List St} {f f' : Nat → Nat} {b b' : Int} (h : Tdr w base g v ps f b) (i : Nat) (u : Value) (he : (tdA v f b).setIfInBounds i u = tdA v f' b') : Tdr (w.setCell ⟨g, i, none⟩ u) base g v ps f' b' := by
  refine ⟨h.1, he ▸ h.2.1.put i u, ?_⟩
  have hk : KeptBut w (w.setCell ⟨g, i, none⟩ u) (fun k => k = g) := KeptBut.put (p := ⟨g, i, none⟩) (KeptBut.refl w (fun k => k = g)) (fun _ => rfl) u
  exact owns_but h.2.2 hk (own_ne h.2.2 h.2.1)
theorem Tdr.drew {w : World} {base g : Nat} {v : Value} {ps : List St} {f : Nat → Nat} {b : Int} (h : Tdr w base g v ps f b) (n : Nat) : Tdr (w.drewN n) base g v ps f b := h
theorem Tdr.below {w w' : World} {base g : Nat} {v : Value} {ps : List St} {f : Nat → Nat} {b : Int} (h : Tdr w base g v ps f b) (hb : Below w.heap.size w w') : Tdr w' base g v ps f b := ⟨h.1, h.2.1.kept hb, h.2.2.below hb⟩
def mb (t : Nat) (f : Nat → Nat) (k : Nat) : Nat → Nat := fun d => if d < k then min (f d) t else f d
theorem mb_put {v : Value} {f : Nat → Nat} {t k : Nat} {b : Int} (hk : k < 5) (h : t < f k) : (tdA v (mb t f k) b).setIfInBounds (k + 1) (.int .i64 (t : Int)) = tdA v (mb t f (k + 1)) b := by
  have e : min (f k) t = t := by omega
  obtain rfl | rfl | rfl | rfl | rfl : k = 0 ∨ k = 1 ∨ k = 2 ∨ k = 3 ∨ k = 4 := by omega
  all_goals simp [tdA, mb, e]
theorem mb_no {v : Value} {f : Nat → Nat} {t k : Nat} {b : Int} (hk : k < 5) (h : ¬ t < f k) : tdA v (mb t f k) b = tdA v (mb t f (k + 1)) b := by
  have e : min (f k) t = f k := by omega
  obtain rfl | rfl | rfl | rfl | rfl : k = 0 ∨ k = 1 ∨ k = 2 ∨ k = 3 ∨ k = 4 := by omega
  all_goals simp [tdA, mb, e]
theorem mb_end {v : Value} {f : Nat → Nat} {t : Nat} {b : Int} : tdA v (mb t f 5) b = tdA v (fun d => min (f d) t) b := by simp [tdA, mb]
theorem mb_start {v : Value} {f : Nat → Nat} {t : Nat} {b : Int} : tdA v (mb t f 0) b = tdA v f b := by simp [tdA, mb]
theorem Tdr.eq {w : World} {base g : Nat} {v : Value} {ps : List St} {f f' : Nat → Nat} {b : Int} (h : Tdr w base g v ps f b) (e : tdA v f b = tdA v f' b) : Tdr w base g v ps f' b := ⟨h.1, e ▸ h.2.1, h.2.2⟩
theorem index_five {sn : Array Value} {u : Value} {q : Nat} (h : sn[q]? = some u) (hq : q < 5) (w : World) : (Instr.index 55 (.agg sn) (.int .i64 q)).run Try.prog w = .ok u w := by
  have hu := Try.underlying55
  have hc : (0 : Int) ≤ (q : Int) ∧ (q : Int) < 5 := by omega
  simp [Instr.index, run_underlying hu, asIntOf, go_sem, part, h, hc]
  intro h9
  omega
def Mvd (w : World) (base g : Nat) (v : Value) (ps : List St) (f : Nat → Nat) (b : Int) (e : Ending) (w' : World) : Prop := e = .returned (.tuple #[]) ∧ Tdr w' base g v ps f b ∧ KeptBut w w' (fun i => i = g)
set_option maxHeartbeats 4000000 in
theorem moveBack_at (w : World) (base g t : Nat) (v : Value) (ps : List St) (f : Nat → Nat) (b : Int) (h : Tdr w base g v ps f b) (hf : ∀ d, f d ≤ 1000000) (ht : t ≤ 1000000) :
    Calls Try.prog 75 #[.pointer (some ⟨g, 0, none⟩), .int .i64 (t : Int)] w (Mvd w base g v ps (fun d => min (f d) t) b) := by
  have hT := Lib.hid h
  have hgl := h.2.1.lt
  have c0 := h.2.1.cell
  have f0 := h.2.1.frozen
  have hf0 := hf 0
  have hf1 := hf 1
  have hf2 := hf 2
  have hf3 := hf 3
  have hf4 := hf 4
  have ht0 : (0 : Int) ≤ (t : Int) := by omega
  simp only [tdA] at c0
  clear h hf
  go_enter Try.func75, Try.ntmps75
  go_wp2_with fail
  go_loopg [12] 5 (fun gn i wr => ∃ k : Nat, k ≤ 5 ∧ gn = 5 - k ∧ i = .int .i64 (k : Int) ∧ Tdr wr base g v ps (mb t f k) b ∧ KeptBut w wr (fun i => i = g))
  case atStart => exact ⟨0, by decide, rfl, rfl, hT.out.eq mb_start.symm, KeptBut.refl _ _⟩
  case round =>
    obtain ⟨k, hk, hgn, rfl, iT, iK⟩ := hrel
    have hgk : gk = 5 - k := hgn
    have jT := Lib.hid iT
    have jK := Lib.hid iK
    have hgl := iT.2.1.lt
    have c0 := iT.2.1.cell
    have f0 := iT.2.1.frozen
    simp only [tdA] at c0
    clear hgn iT iK
    obtain rfl | rfl | rfl | rfl | rfl | rfl : k = 0 ∨ k = 1 ∨ k = 2 ∨ k = 3 ∨ k = 4 ∨ k = 5 := by omega
    · by_cases hlt : t < f 0
      · have hix : ∀ wx, (Instr.index 55 (.agg #[.int .i64 (f 0), .int .i64 (f 1), .int .i64 (f 2), .int .i64 (f 3), .int .i64 (f 4)]) (.int .i64 0)).run Try.prog wx = .ok (.int .i64 (f 0)) wx := fun wx => index_five (q := 0) rfl (by decide) wx
        have hd : decide ((t : Int) < (f 0 : Int)) = true := decide_eq_true (by omega)
        have hS := Lib.hid (jT.out.set 1 (.int .i64 (t : Int)) (mb_put (k := 0) (by decide) hlt))
        have hK := Lib.hid (jK.out.trans (KeptBut.put (p := ⟨g, 1, none⟩) (KeptBut.refl wr (fun i => i = g)) (fun _ => rfl) (.int .i64 (t : Int))) (fun _ _ e => e))
        go_wp2_with fail
        go_roundg (5 - 1)
        case measure => omega
        case rel => exact ⟨1, by decide, rfl, rfl, hS.out, hK.out⟩
      · have hix : ∀ wx, (Instr.index 55 (.agg #[.int .i64 (f 0), .int .i64 (f 1), .int .i64 (f 2), .int .i64 (f 3), .int .i64 (f 4)]) (.int .i64 0)).run Try.prog wx = .ok (.int .i64 (f 0)) wx := fun wx => index_five (q := 0) rfl (by decide) wx
        have hd : decide ((t : Int) < (f 0 : Int)) = false := decide_eq_false (by omega)
        have hS := Lib.hid (jT.out.eq (mb_no (k := 0) (by decide) hlt))
        go_wp2_with fail
        go_roundg (5 - 1)
        case measure => omega
        case rel => exact ⟨1, by decide, rfl, rfl, hS.out, jK.out⟩
    · by_cases hlt : t < f 1
      · have hix : ∀ wx, (Instr.index 55 (.agg #[.int .i64 (f 0), .int .i64 (f 1), .int .i64 (f 2), .int .i64 (f 3), .int .i64 (f 4)]) (.int .i64 1)).run Try.prog wx = .ok (.int .i64 (f 1)) wx := fun wx => index_five (q := 1) rfl (by decide) wx
        have hd : decide ((t : Int) < (f 1 : Int)) = true := decide_eq_true (by omega)
        have hS := Lib.hid (jT.out.set 2 (.int .i64 (t : Int)) (mb_put (k := 1) (by decide) hlt))
        have hK := Lib.hid (jK.out.trans (KeptBut.put (p := ⟨g, 2, none⟩) (KeptBut.refl wr (fun i => i = g)) (fun _ => rfl) (.int .i64 (t : Int))) (fun _ _ e => e))
        go_wp2_with fail
        go_roundg (5 - 2)
        case measure => omega
        case rel => exact ⟨2, by decide, rfl, rfl, hS.out, hK.out⟩
      · have hix : ∀ wx, (Instr.index 55 (.agg #[.int .i64 (f 0), .int .i64 (f 1), .int .i64 (f 2), .int .i64 (f 3), .int .i64 (f 4)]) (.int .i64 1)).run Try.prog wx = .ok (.int .i64 (f 1)) wx := fun wx => index_five (q := 1) rfl (by decide) wx
        have hd : decide ((t : Int) < (f 1 : Int)) = false := decide_eq_false (by omega)
        have hS := Lib.hid (jT.out.eq (mb_no (k := 1) (by decide) hlt))
        go_wp2_with fail
        go_roundg (5 - 2)
        case measure => omega
        case rel => exact ⟨2, by decide, rfl, rfl, hS.out, jK.out⟩
    · by_cases hlt : t < f 2
      · have hix : ∀ wx, (Instr.index 55 (.agg #[.int .i64 (f 0), .int .i64 (f 1), .int .i64 (f 2), .int .i64 (f 3), .int .i64 (f 4)]) (.int .i64 2)).run Try.prog wx = .ok (.int .i64 (f 2)) wx := fun wx => index_five (q := 2) rfl (by decide) wx
        have hd : decide ((t : Int) < (f 2 : Int)) = true := decide_eq_true (by omega)
        have hS := Lib.hid (jT.out.set 3 (.int .i64 (t : Int)) (mb_put (k := 2) (by decide) hlt))
        have hK := Lib.hid (jK.out.trans (KeptBut.put (p := ⟨g, 3, none⟩) (KeptBut.refl wr (fun i => i = g)) (fun _ => rfl) (.int .i64 (t : Int))) (fun _ _ e => e))
        go_wp2_with fail
        go_roundg (5 - 3)
        case measure => omega
        case rel => exact ⟨3, by decide, rfl, rfl, hS.out, hK.out⟩
      · have hix : ∀ wx, (Instr.index 55 (.agg #[.int .i64 (f 0), .int .i64 (f 1), .int .i64 (f 2), .int .i64 (f 3), .int .i64 (f 4)]) (.int .i64 2)).run Try.prog wx = .ok (.int .i64 (f 2)) wx := fun wx => index_five (q := 2) rfl (by decide) wx
        have hd : decide ((t : Int) < (f 2 : Int)) = false := decide_eq_false (by omega)
        have hS := Lib.hid (jT.out.eq (mb_no (k := 2) (by decide) hlt))
        go_wp2_with fail
        go_roundg (5 - 3)
        case measure => omega
        case rel => exact ⟨3, by decide, rfl, rfl, hS.out, jK.out⟩
    · by_cases hlt : t < f 3
      · have hix : ∀ wx, (Instr.index 55 (.agg #[.int .i64 (f 0), .int .i64 (f 1), .int .i64 (f 2), .int .i64 (f 3), .int .i64 (f 4)]) (.int .i64 3)).run Try.prog wx = .ok (.int .i64 (f 3)) wx := fun wx => index_five (q := 3) rfl (by decide) wx
        have hd : decide ((t : Int) < (f 3 : Int)) = true := decide_eq_true (by omega)
        have hS := Lib.hid (jT.out.set 4 (.int .i64 (t : Int)) (mb_put (k := 3) (by decide) hlt))
        have hK := Lib.hid (jK.out.trans (KeptBut.put (p := ⟨g, 4, none⟩) (KeptBut.refl wr (fun i => i = g)) (fun _ => rfl) (.int .i64 (t : Int))) (fun _ _ e => e))
        go_wp2_with fail
        go_roundg (5 - 4)
        case measure => omega
        case rel => exact ⟨4, by decide, rfl, rfl, hS.out, hK.out⟩
      · have hix : ∀ wx, (Instr.index 55 (.agg #[.int .i64 (f 0), .int .i64 (f 1), .int .i64 (f 2), .int .i64 (f 3), .int .i64 (f 4)]) (.int .i64 3)).run Try.prog wx = .ok (.int .i64 (f 3)) wx := fun wx => index_five (q := 3) rfl (by decide) wx
        have hd : decide ((t : Int) < (f 3 : Int)) = false := decide_eq_false (by omega)
        have hS := Lib.hid (jT.out.eq (mb_no (k := 3) (by decide) hlt))
        go_wp2_with fail
        go_roundg (5 - 4)
        case measure => omega
        case rel => exact ⟨4, by decide, rfl, rfl, hS.out, jK.out⟩
    · by_cases hlt : t < f 4
      · have hix : ∀ wx, (Instr.index 55 (.agg #[.int .i64 (f 0), .int .i64 (f 1), .int .i64 (f 2), .int .i64 (f 3), .int .i64 (f 4)]) (.int .i64 4)).run Try.prog wx = .ok (.int .i64 (f 4)) wx := fun wx => index_five (q := 4) rfl (by decide) wx
        have hd : decide ((t : Int) < (f 4 : Int)) = true := decide_eq_true (by omega)
        have hS := Lib.hid (jT.out.set 5 (.int .i64 (t : Int)) (mb_put (k := 4) (by decide) hlt))
        have hK := Lib.hid (jK.out.trans (KeptBut.put (p := ⟨g, 5, none⟩) (KeptBut.refl wr (fun i => i = g)) (fun _ => rfl) (.int .i64 (t : Int))) (fun _ _ e => e))
        go_wp2_with fail
        go_roundg (5 - 5)
        case measure => omega
        case rel => exact ⟨5, by decide, rfl, rfl, hS.out, hK.out⟩
      · have hix : ∀ wx, (Instr.index 55 (.agg #[.int .i64 (f 0), .int .i64 (f 1), .int .i64 (f 2), .int .i64 (f 3), .int .i64 (f 4)]) (.int .i64 4)).run Try.prog wx = .ok (.int .i64 (f 4)) wx := fun wx => index_five (q := 4) rfl (by decide) wx
        have hd : decide ((t : Int) < (f 4 : Int)) = false := decide_eq_false (by omega)
        have hS := Lib.hid (jT.out.eq (mb_no (k := 4) (by decide) hlt))
        go_wp2_with fail
        go_roundg (5 - 5)
        case measure => omega
        case rel => exact ⟨5, by decide, rfl, rfl, hS.out, jK.out⟩
    · go_wp2_with fail
      go_end0
      exact ⟨rfl, jT.out.eq mb_end, jK.out⟩
set_option maxHeartbeats 4000000 in
theorem moveBack_neg (w : World) (base g : Nat) (v : Value) (ps : List St) (f : Nat → Nat) (b : Int) (h : Tdr w base g v ps f b) (hf : ∀ d, f d ≤ 1000000) :
    Calls Try.prog 75 #[.pointer (some ⟨g, 0, none⟩), .int .i64 (-1)] w (Mvd w base g v ps (fun d => min (f d) 0) b) := by
  have hT := Lib.hid h
  have hgl := h.2.1.lt
  have c0 := h.2.1.cell
  have f0 := h.2.1.frozen
  have hf0 := hf 0
  have hf1 := hf 1
  have hf2 := hf 2
  have hf3 := hf 3
  have hf4 := hf 4
  simp only [tdA] at c0
  clear h hf
  go_enter Try.func75, Try.ntmps75
  go_wp2_with fail
  go_loopg [12] 5 (fun gn i wr => ∃ k : Nat, k ≤ 5 ∧ gn = 5 - k ∧ i = .int .i64 (k : Int) ∧ Tdr wr base g v ps (mb 0 f k) b ∧ KeptBut w wr (fun i => i = g))
  case atStart => exact ⟨0, by decide, rfl, rfl, hT.out.eq mb_start.symm, KeptBut.refl _ _⟩
  case round =>
    obtain ⟨k, hk, hgn, rfl, iT, iK⟩ := hrel
    have hgk : gk = 5 - k := hgn
    have jT := Lib.hid iT
    have jK := Lib.hid iK
    have hgl := iT.2.1.lt
    have c0 := iT.2.1.cell
    have f0 := iT.2.1.frozen
    simp only [tdA] at c0
    clear hgn iT iK
    obtain rfl | rfl | rfl | rfl | rfl | rfl : k = 0 ∨ k = 1 ∨ k = 2 ∨ k = 3 ∨ k = 4 ∨ k = 5 := by omega
    · by_cases hlt : 0 < f 0
      · have hix : ∀ wx, (Instr.index 55 (.agg #[.int .i64 (f 0), .int .i64 (f 1), .int .i64 (f 2), .int .i64 (f 3), .int .i64 (f 4)]) (.int .i64 0)).run Try.prog wx = .ok (.int .i64 (f 0)) wx := fun wx => index_five (q := 0) rfl (by decide) wx
        have hd : decide ((0 : Int) < (f 0 : Int)) = true := decide_eq_true (by omega)
        have hS := Lib.hid (jT.out.set 1 (.int .i64 0) (mb_put (t := 0) (k := 0) (by decide) hlt))
        have hK := Lib.hid (jK.out.trans (KeptBut.put (p := ⟨g, 1, none⟩) (KeptBut.refl wr (fun i => i = g)) (fun _ => rfl) (.int .i64 0)) (fun _ _ e => e))
        go_wp2_with fail
        go_roundg (5 - 1)
        case measure => omega
        case rel => exact ⟨1, by decide, rfl, rfl, hS.out, hK.out⟩
      · have hix : ∀ wx, (Instr.index 55 (.agg #[.int .i64 (f 0), .int .i64 (f 1), .int .i64 (f 2), .int .i64 (f 3), .int .i64 (f 4)]) (.int .i64 0)).run Try.prog wx = .ok (.int .i64 (f 0)) wx := fun wx => index_five (q := 0) rfl (by decide) wx
        have hd : decide ((0 : Int) < (f 0 : Int)) = false := decide_eq_false (by omega)
        have hS := Lib.hid (jT.out.eq (mb_no (k := 0) (by decide) hlt))
        go_wp2_with fail
        go_roundg (5 - 1)
        case measure => omega
        case rel => exact ⟨1, by decide, rfl, rfl, hS.out, jK.out⟩
    · by_cases hlt : 0 < f 1
      · have hix : ∀ wx, (Instr.index 55 (.agg #[.int .i64 (f 0), .int .i64 (f 1), .int .i64 (f 2), .int .i64 (f 3), .int .i64 (f 4)]) (.int .i64 1)).run Try.prog wx = .ok (.int .i64 (f 1)) wx := fun wx => index_five (q := 1) rfl (by decide) wx
        have hd : decide ((0 : Int) < (f 1 : Int)) = true := decide_eq_true (by omega)
        have hS := Lib.hid (jT.out.set 2 (.int .i64 0) (mb_put (t := 0) (k := 1) (by decide) hlt))
        have hK := Lib.hid (jK.out.trans (KeptBut.put (p := ⟨g, 2, none⟩) (KeptBut.refl wr (fun i => i = g)) (fun _ => rfl) (.int .i64 0)) (fun _ _ e => e))
        go_wp2_with fail
        go_roundg (5 - 2)
        case measure => omega
        case rel => exact ⟨2, by decide, rfl, rfl, hS.out, hK.out⟩
      · have hix : ∀ wx, (Instr.index 55 (.agg #[.int .i64 (f 0), .int .i64 (f 1), .int .i64 (f 2), .int .i64 (f 3), .int .i64 (f 4)]) (.int .i64 1)).run Try.prog wx = .ok (.int .i64 (f 1)) wx := fun wx => index_five (q := 1) rfl (by decide) wx
        have hd : decide ((0 : Int) < (f 1 : Int)) = false := decide_eq_false (by omega)
        have hS := Lib.hid (jT.out.eq (mb_no (k := 1) (by decide) hlt))
        go_wp2_with fail
        go_roundg (5 - 2)
        case measure => omega
        case rel => exact ⟨2, by decide, rfl, rfl, hS.out, jK.out⟩
    · by_cases hlt : 0 < f 2
      · have hix : ∀ wx, (Instr.index 55 (.agg #[.int .i64 (f 0), .int .i64 (f 1), .int .i64 (f 2), .int .i64 (f 3), .int .i64 (f 4)]) (.int .i64 2)).run Try.prog wx = .ok (.int .i64 (f 2)) wx := fun wx => index_five (q := 2) rfl (by decide) wx
        have hd : decide ((0 : Int) < (f 2 : Int)) = true := decide_eq_true (by omega)
        have hS := Lib.hid (jT.out.set 3 (.int .i64 0) (mb_put (t := 0) (k := 2) (by decide) hlt))
        have hK := Lib.hid (jK.out.trans (KeptBut.put (p := ⟨g, 3, none⟩) (KeptBut.refl wr (fun i => i = g)) (fun _ => rfl) (.int .i64 0)) (fun _ _ e => e))
        go_wp2_with fail
        go_roundg (5 - 3)
        case measure => omega
        case rel => exact ⟨3, by decide, rfl, rfl, hS.out, hK.out⟩
      · have hix : ∀ wx, (Instr.index 55 (.agg #[.int .i64 (f 0), .int .i64 (f 1), .int .i64 (f 2), .int .i64 (f 3), .int .i64 (f 4)]) (.int .i64 2)).run Try.prog wx = .ok (.int .i64 (f 2)) wx := fun wx => index_five (q := 2) rfl (by decide) wx
        have hd : decide ((0 : Int) < (f 2 : Int)) = false := decide_eq_false (by omega)
        have hS := Lib.hid (jT.out.eq (mb_no (k := 2) (by decide) hlt))
        go_wp2_with fail
        go_roundg (5 - 3)
        case measure => omega
        case rel => exact ⟨3, by decide, rfl, rfl, hS.out, jK.out⟩
    · by_cases hlt : 0 < f 3
      · have hix : ∀ wx, (Instr.index 55 (.agg #[.int .i64 (f 0), .int .i64 (f 1), .int .i64 (f 2), .int .i64 (f 3), .int .i64 (f 4)]) (.int .i64 3)).run Try.prog wx = .ok (.int .i64 (f 3)) wx := fun wx => index_five (q := 3) rfl (by decide) wx
        have hd : decide ((0 : Int) < (f 3 : Int)) = true := decide_eq_true (by omega)
        have hS := Lib.hid (jT.out.set 4 (.int .i64 0) (mb_put (t := 0) (k := 3) (by decide) hlt))
        have hK := Lib.hid (jK.out.trans (KeptBut.put (p := ⟨g, 4, none⟩) (KeptBut.refl wr (fun i => i = g)) (fun _ => rfl) (.int .i64 0)) (fun _ _ e => e))
        go_wp2_with fail
        go_roundg (5 - 4)
        case measure => omega
        case rel => exact ⟨4, by decide, rfl, rfl, hS.out, hK.out⟩
      · have hix : ∀ wx, (Instr.index 55 (.agg #[.int .i64 (f 0), .int .i64 (f 1), .int .i64 (f 2), .int .i64 (f 3), .int .i64 (f 4)]) (.int .i64 3)).run Try.prog wx = .ok (.int .i64 (f 3)) wx := fun wx => index_five (q := 3) rfl (by decide) wx
        have hd : decide ((0 : Int) < (f 3 : Int)) = false := decide_eq_false (by omega)
        have hS := Lib.hid (jT.out.eq (mb_no (k := 3) (by decide) hlt))
        go_wp2_with fail
        go_roundg (5 - 4)
        case measure => omega
        case rel => exact ⟨4, by decide, rfl, rfl, hS.out, jK.out⟩
    · by_cases hlt : 0 < f 4
      · have hix : ∀ wx, (Instr.index 55 (.agg #[.int .i64 (f 0), .int .i64 (f 1), .int .i64 (f 2), .int .i64 (f 3), .int .i64 (f 4)]) (.int .i64 4)).run Try.prog wx = .ok (.int .i64 (f 4)) wx := fun wx => index_five (q := 4) rfl (by decide) wx
        have hd : decide ((0 : Int) < (f 4 : Int)) = true := decide_eq_true (by omega)
        have hS := Lib.hid (jT.out.set 5 (.int .i64 0) (mb_put (t := 0) (k := 4) (by decide) hlt))
        have hK := Lib.hid (jK.out.trans (KeptBut.put (p := ⟨g, 5, none⟩) (KeptBut.refl wr (fun i => i = g)) (fun _ => rfl) (.int .i64 0)) (fun _ _ e => e))
        go_wp2_with fail
        go_roundg (5 - 5)
        case measure => omega
        case rel => exact ⟨5, by decide, rfl, rfl, hS.out, hK.out⟩
      · have hix : ∀ wx, (Instr.index 55 (.agg #[.int .i64 (f 0), .int .i64 (f 1), .int .i64 (f 2), .int .i64 (f 3), .int .i64 (f 4)]) (.int .i64 4)).run Try.prog wx = .ok (.int .i64 (f 4)) wx := fun wx => index_five (q := 4) rfl (by decide) wx
        have hd : decide ((0 : Int) < (f 4 : Int)) = false := decide_eq_false (by omega)
        have hS := Lib.hid (jT.out.eq (mb_no (k := 4) (by decide) hlt))
        go_wp2_with fail
        go_roundg (5 - 5)
        case measure => omega
        case rel => exact ⟨5, by decide, rfl, rfl, hS.out, jK.out⟩
    · go_wp2_with fail
      go_end0
      exact ⟨rfl, jT.out.eq mb_end, jK.out⟩
/-- The window moved back to an index, or to the first one. -/
theorem moveBack_any (w : World) (base g q : Nat) (v : Value) (ps : List St) (f : Nat → Nat) (b : Int) (h : Tdr w base g v ps f b) (hf : ∀ d, f d ≤ 1000000) (hq : q ≤ 1000000) :
    Calls Try.prog 75 #[.pointer (some ⟨g, 0, none⟩), .int .i64 ((q : Int) - 1)] w (Mvd w base g v ps (fun d => min (f d) (q - 1)) b) := by
  by_cases h0 : q = 0
  · subst h0
    exact moveBack_neg w base g v ps f b h hf
  · have := moveBack_at w base g (q - 1) v ps f b h hf (by omega)
    rwa [show ((q - 1 : Nat) : Int) = (q : Int) - 1 by omega] at this
end Go.Proofs.Ytkggejmamhakaaa
namespace Go.Proofs.Ytkggejmamhakaaa
set_option maxRecDepth 100000
set_option linter.unusedVariables false
open Go.RowKit
theorem Tdr.at_ {w : World} {base g : Nat} {v : Value} {ps : List St} {f : Nat → Nat} {b : Int} (h : Tdr w base g v ps f b) {c : Nat} (hc : c < 5) : w.cell? ⟨g, 1 + c, none⟩ = some (.int .i64 (f c)) := by
  rw [h.2.1.cell]
  obtain rfl | rfl | rfl | rfl | rfl : c = 0 ∨ c = 1 ∨ c = 2 ∨ c = 3 ∨ c = 4 := by omega
  all_goals simp [tdA]
theorem tdA_put {v : Value} {f : Nat → Nat} {b : Int} {c x : Nat} (hc : c < 5) : (tdA v f b).setIfInBounds (1 + c) (.int .i64 (x : Int)) = tdA v (fun d => if d = c then x else f d) b := by
  obtain rfl | rfl | rfl | rfl | rfl : c = 0 ∨ c = 1 ∨ c = 2 ∨ c = 3 ∨ c = 4 := by omega
  all_goals simp [tdA]
theorem Tdr.put {w : World} {base g : Nat} {v : Value} {ps : List St} {f : Nat → Nat} {b : Int} (h : Tdr w base g v ps f b) {c : Nat} (hc : c < 5) (x : Nat) : Tdr (w.setCell ⟨g, 1 + c, none⟩ (.int .i64 (x : Int))) base g v ps (fun d => if d = c then x else f d) b := h.set (1 + c) _ (tdA_put hc)
/-- From where each change may fit: ahead of it none does. -/
def TInv (ps : List St) (f : Nat → Nat) : Prop := ∀ d : Nat, f d ≤ ps.length ∧ ∀ j, j < f d → 1 ≤ d → d ≤ 4 → fitAt (d : Int) ps j = false
theorem TInv.next {ps : List St} {f : Nat → Nat} (h : TInv ps f) {c : Nat} (hl : f c < ps.length) (hf : fitAt (c : Int) ps (f c) = false) : TInv ps (fun d => if d = c then f c + 1 else f d) := by
  intro d
  by_cases hd : d = c
  · subst hd
    show (if d = d then f d + 1 else f d) ≤ ps.length ∧ ∀ j, j < (if d = d then f d + 1 else f d) → 1 ≤ d → d ≤ 4 → fitAt (d : Int) ps j = false
    rw [if_pos rfl]
    refine ⟨hl, fun j hj h1 h2 => ?_⟩
    by_cases he : j = f d
    · rw [he]; exact hf
    · exact (h d).2 j (by omega) h1 h2
  · show (if d = c then f c + 1 else f d) ≤ ps.length ∧ ∀ j, j < (if d = c then f c + 1 else f d) → 1 ≤ d → d ≤ 4 → fitAt (d : Int) ps j = false
    rw [if_neg hd]
    exact h d
/-- What a tidier tells: the next change, or that there is none. -/
def Fnd (ps : List St) (f : Nat → Nat) (x y : Value) : Prop := (∃ c : Nat, (1 ≤ c ∧ c ≤ 4) ∧ x = .int .i64 (c : Int) ∧ y = .bool true ∧ fitAt (c : Int) ps (f c) = true ∧ nextCh ps = some ((c : Int), f c)) ∨ (x = .int .i64 0 ∧ y = .bool false ∧ nextCh ps = none)
def Found (w : World) (base g : Nat) (v : Value) (ps : List St) (b : Int) (e : Ending) (w' : World) : Prop :=
  ∃ (f : Nat → Nat) (x y : Value), e = .returned (.tuple #[x, y]) ∧ Tdr w' base g v ps f b ∧ TInv ps f ∧ Below base w w' ∧ Fnd ps f x y
theorem done_get {c : Int} {ps : List St} {i j : Nat} {a : St} (ha : ps[i]? = some a) (hj : j < i) : (chDone c ps i)[j]? = ps[j]? := by
  have hl : i < ps.length := (List.getElem?_eq_some_iff.1 ha).1
  rw [done_eq ha, List.append_assoc, List.getElem?_append_left (by rw [List.length_take]; omega), List.getElem?_take, if_pos hj]
theorem TInv.done {ps : List St} {f : Nat → Nat} (h : TInv ps f) {c : Int} {i : Nat} {a : St} (ha : ps[i]? = some a) : TInv (chDone c ps i) (fun d => min (f d) (i - 1)) := by
  have hl : i < ps.length := (List.getElem?_eq_some_iff.1 ha).1
  have hdl : i ≤ (chDone c ps i).length := by
    rw [done_eq ha, List.append_assoc, List.length_append, List.length_take]
    omega
  intro d
  refine ⟨by show min (f d) (i - 1) ≤ _; omega, fun j hj h1 h2 => ?_⟩
  have hj' : j < min (f d) (i - 1) := hj
  have h3 := (h d).2 j (by omega) h1 h2
  unfold fitAt at h3 ⊢
  rw [done_get ha (show j < i by omega), done_get ha (show j + 1 < i by omega)]
  exact h3
theorem Lst.win {w : World} {B n k g off : Nat} {ps : List St} {a : St} (h : Lst w B (some ⟨g, off, none⟩) n ps) (ha : ps[k]? = some a) : Lst w B (some ⟨g, off + k * 7, none⟩) (1 + ps[k + 1]?.toList.length) (a :: ps[k + 1]?.toList) := by
  have hk : k < ps.length := (List.getElem?_eq_some_iff.1 ha).1
  have hn := h.1
  cases hb : ps[k + 1]? with
  | none =>
    have := h.part_ (k := k) (m := 1) (by omega) (by omega)
    rw [drop_cons ha] at this
    exact this
  | some b =>
    have hk2 : k + 1 < ps.length := (List.getElem?_eq_some_iff.1 hb).1
    have := h.part_ (k := k) (m := 2) (by omega) (by omega)
    rwa [← win_len ha, hb] at this
theorem windowAt_at (g off n c k : Nat) (ps : List St) (a : St) (w : World) (hl : ps.length = n) (hn : n ≤ c) (hc : c ≤ maxLen) (ha : ps[k]? = some a) :
    Calls Try.prog 47 #[.slice (some ⟨g, off, none⟩) n c, .int .i64 (k : Int)] w fun e w' => e = .returned (.slice (some ⟨g, off + k * 7, none⟩) (1 + ps[k + 1]?.toList.length) (c - k)) ∧ w = w' := by
  have hk : k < n := by have := (List.getElem?_eq_some_iff.1 ha).1; omega
  have hc9 : c ≤ 9223372036854775807 := by unfold maxLen at hc; omega
  have hk0 : (0 : Int) ≤ (k : Int) := by omega
  have hk1 : (k : Int) ≤ (n : Int) := by omega
  have hnc : (n : Int) ≤ (c : Int) := by omega
  by_cases he : k + 1 = n
  · have hb : ps[k + 1]? = none := List.getElem?_eq_none_iff.2 (by omega)
    have hg1 : ((k : Int) + 1 == (n : Int)) = true := by simp; omega
    rw [hb]
    clear hl ha hb
    subst he
    go_enter Try.func47, Try.ntmps47
    go_wp2_with fail
    go_ret
    exact ⟨by simp, rfl⟩
  · obtain ⟨b, hb⟩ : ∃ b, ps[k + 1]? = some b := ⟨_, List.getElem?_eq_getElem (by omega)⟩
    have hg1 : ((k : Int) + 1 == (n : Int)) = false := by simp; omega
    have hk2 : (k : Int) + 2 ≤ (n : Int) := by omega
    rw [hb]
    clear hl ha hb
    go_enter Try.func47, Try.ntmps47
    go_wp2_with fail
    go_ret
    exact ⟨by simp, rfl⟩
set_option maxHeartbeats 4000000 in
theorem toChange_any (w : World) (base g : Nat) (v : Value) (ps : List St) (f : Nat → Nat) (b : Int) (h : Tdr w base g v ps f b) (hp : plainOk ps = true) (hI : TInv ps f) (hbs : base ≤ w.heap.size) :
    Calls Try.prog 41 #[.pointer (some ⟨g, 0, none⟩)] w (Found w base g v ps b) := by
  obtain ⟨h10, hok⟩ := plain_iff.1 hp
  have hokh := Lib.hid hok
  obtain ⟨n, hn⟩ : ∃ n, ps.length = n := ⟨_, rfl⟩
  obtain ⟨A, cap, rfl, hcap, hcm⟩ := h.2.2.form
  rw [hn] at h10 hcap h ⊢
  have hnh := Lib.hid hn
  have hT := Lib.hid h
  have hII := Lib.hid hI
  have hph := Lib.hid hp
  have hcmh := Lib.hid hcm
  have hcaph := Lib.hid hcap
  have hn9 : n ≤ 9223372036854775807 := by omega
  clear h hI hp hn hok hcm hcap
  go_enter Try.func41, Try.ntmps41
  go_wp2_with fail
  go_loopg [4] 4 (fun gn o wr => ∃ (c : Nat) (f : Nat → Nat), 1 ≤ c ∧ c ≤ 5 ∧ gn = 5 - c ∧ o = .int .i64 (c : Int) ∧ Tdr wr base g (.slice A n cap) ps f b ∧ TInv ps f ∧ Below base w wr ∧ (∀ d : Nat, 1 ≤ d → d < c → n ≤ f d))
  case atStart => exact ⟨1, f, by decide, by decide, rfl, rfl, hT.out, hII.out, Below.refl _ _, fun d h1 h2 => by omega⟩
  case round =>
    obtain ⟨c, f1, hc1, hc5, hgn, rfl, iT, iI, iB, iF⟩ := hrel
    have hgk : gk = 5 - c := hgn
    have jT := Lib.hid iT
    have jI := Lib.hid iI
    have jB := Lib.hid iB
    have jF := Lib.hid iF
    clear hgn iT iI iB iF hT hII
    by_cases hlt : c < 5
    · go_wp2_with fail
      have hdec : decide ((c : Int) < 5) = true := decide_eq_true (by omega)
      try rw [hdec]
      clear hdec
      obtain ⟨wq, rfl⟩ : ∃ x, x = wr := ⟨_, rfl⟩
      obtain ⟨gq, hgq⟩ : ∃ x, x = gk := ⟨_, rfl⟩
      go_loopg [] (n - f1 c) (fun gn wz => ∃ (f2 : Nat → Nat), gn = n - f2 c ∧ Tdr wz base g (.slice A n cap) ps f2 b ∧ TInv ps f2 ∧ Below base w wz ∧ (∀ d : Nat, 1 ≤ d → d < c → n ≤ f2 d))
      case atStart => exact ⟨f1, rfl, jT.out, jI.out, jB.out, jF.out⟩
      case round =>
        obtain ⟨f2, hgn2, kT, kI, kB, kF⟩ := hrel
        have hgk2 : gk = n - f2 c := hgn2
        have cq := kT.at_ (c := c) (by omega)
        have cl := kT.2.1.cell 0
        simp only [tdA] at cl
        have hle : f2 c ≤ n := by have := (kI c).1; rw [hnh.out] at this; exact this
        have lT := Lib.hid kT
        have lI := Lib.hid kI
        have lB := Lib.hid kB
        have lF := Lib.hid kF
        have hgl := kT.2.1.lt
        clear hgn2 kT kI kB kF jT jI jB jF
        have hc0 : (0 : Int) ≤ (c : Int) := by omega
        have hc50 : (c : Int) < 5 := by omega
        obtain ⟨q, hq⟩ : ∃ q, f2 c = q := ⟨_, rfl⟩
        rw [hq] at cq hle hgk2
        have hqh := Lib.hid hq
        clear hq
        by_cases hlk : q < n
        · have hqn : (q : Int) < (n : Int) := by omega
          obtain ⟨a, ha⟩ : ∃ a, ps[q]? = some a := ⟨_, List.getElem?_eq_getElem (by have := hnh.out; omega)⟩
          have hLs := lT.out.2.2.lst
          obtain ⟨gs, off, _, rfl, hgs, _, _⟩ := hLs.at_ hlk
          have hfe := Lib.hid (show fitAt c ps q = fits c a ps[q + 1]? by unfold fitAt; rw [ha])
          have cW := Lib.hid (fun wx => windowAt_at gs off n cap q ps a wx hnh.out hcaph.out hcmh.out ha)
          have hLw := Lib.hid (hLs.win ha)
          have cF := Lib.hid (fun A' cap' wx hx hcp => changeFits_any c a ps[q + 1]? A' cap' wx (by omega) (hokh.out a (List.mem_of_getElem? ha)) (fun b hb => hokh.out b (List.mem_of_getElem? hb)) hx hcp)
          have hwin : 1 + ps[q + 1]?.toList.length ≤ cap - q := by
            have := hcaph.out
            have hl := hnh.out
            cases hb : ps[q + 1]? with
            | none => simp; omega
            | some b => have := (List.getElem?_eq_some_iff.1 hb).1; simp; omega
          generalize ps[q + 1]? = ob at cW cF hfe hLw hwin
          clear ha hLs
          go_wp2_with fail
          go_quiet (fail)
          go_wp2_with fail
          generalize hWQ : World.drewN wr nq = WQ
          have mT := Lib.hid (show Tdr WQ base g (.slice (some ⟨gs, off, none⟩) n cap) ps f2 b by rw [← hWQ]; exact lT.out.drew _)
          have mB := Lib.hid (show Below base w WQ by rw [← hWQ]; exact below_drewN lB.out _)
          have mL := Lib.hid (show Lst WQ WQ.heap.size (some ⟨gs, off + q * 7, none⟩) (1 + ob.toList.length) (a :: ob.toList) by rw [← hWQ]; exact hLw.out)
          clear lT lB hLw cq cl hWQ
          have cq := mT.out.at_ (c := c) (by omega)
          rw [hqh.out] at cq
          have cl := mT.out.2.1.cell 0
          simp only [tdA] at cl
          have hgl := mT.out.2.1.lt
          go_still_tail 12, (by kernel_rfl)
          still_call ((cW.out WQ.drew).mono fun e w9 h9 => ⟨h9.1, h9.2.symm⟩)
          repeat still_step
          refine wpStill_nil ?_
          change wpList _ _ _ _ _ WQ.drew
          go_wp2_with fail
          refine (cF.out (some ⟨gs, off + q * 7, none⟩) (cap - q) WQ.drew (by exact mL.out) hwin).mono ?_
          cases hff : fits c a ob
          · rintro e w4 ⟨rfl, hb4⟩
            have hb4' : Below WQ.heap.size WQ w4 := ((Below.refl _ _).drew).trans hb4
            have nT := mT.out.below hb4'
            have nB := mB.out.trans (hb4'.mono (Nat.le_trans hbs mB.out.size))
            have hnf := lI.out.next (c := c) (by rw [hqh.out, hnh.out]; exact hlk) (by rw [hqh.out, hfe.out]; exact hff)
            rw [hqh.out] at hnf
            have oI := Lib.hid hnf
            have oT := Lib.hid (nT.put (c := c) (by omega) (q + 1))
            have oB := Lib.hid (nB.setCell (p := ⟨g, 1 + c, none⟩) nT.1 (.int .i64 ((q + 1 : Nat) : Int)))
            have oF := Lib.hid (show ∀ d : Nat, 1 ≤ d → d < c → n ≤ (if d = c then q + 1 else f2 d) from fun d h1 h2 => by rw [if_neg (by omega)]; exact lF.out d h1 h2)
            have cq := nT.at_ (c := c) (by omega)
            rw [hqh.out] at cq
            have cf := nT.2.1.frozen
            have hgl := nT.2.1.lt
            clear mT mB mL hb4 hb4' nT nB hnf hff lI lF
            go_wp2_with fail
            go_still_tail 10, (by kernel_rfl)
            repeat still_step
            try (refine wpStill_nil ?_)
            try (change wpList _ _ _ _ _ (World.drew _))
            go_wp2_with fail
            go_roundg (n - (q + 1))
            case measure => omega
            case rel => exact ⟨_, by show n - (q + 1) = n - (if c = c then q + 1 else f2 c); rw [if_pos rfl], oT.out, oI.out, oB.out.drew, oF.out⟩
          · rintro e w4 ⟨rfl, hb4⟩
            have hb4' : Below WQ.heap.size WQ w4 := ((Below.refl _ _).drew).trans hb4
            have nT := Lib.hid (mT.out.below hb4')
            have nB := Lib.hid (mB.out.trans (hb4'.mono (Nat.le_trans hbs mB.out.size)))
            have hff' := Lib.hid hff
            clear mT mB mL hb4 hb4' hff
            go_wp2_with fail
            go_ret2
            refine ⟨f2, _, _, rfl, nT.out, lI.out, nB.out, .inl ⟨c, by omega, rfl, rfl, by rw [hqh.out, hfe.out]; exact hff'.out, ?_⟩⟩
            exact next_some (by omega) (by rw [hqh.out, hfe.out]; exact hff'.out) (fun j hj => (lI.out c).2 j hj hc1 (by omega)) (fun d h1 h2 j hj => (lI.out d).2 j (by have := lF.out d h1 h2; have := hnh.out; omega) h1 (by omega))
        · obtain rfl : q = n := by omega
          go_wp2_with fail
          go_quiet (fail)
          go_wp2_with fail
          go_roundg (5 - (c + 1))
          case measure => omega
          case rel => exact ⟨c + 1, f2, by omega, by omega, rfl, by go_num, lT.out.drew _, lI.out, below_drewN lB.out _, fun d h1 h2 => by
            by_cases hd : d = c
            · subst hd; have := hqh.out; omega
            · exact lF.out d h1 (by omega)⟩
    · obtain rfl : c = 5 := by omega
      go_wp2_with fail
      go_ret2
      exact ⟨f1, _, _, rfl, jT.out, jI.out, jB.out, .inr ⟨rfl, rfl, next_none fun d h1 h2 j hj => (jI.out d).2 j (by have := jF.out d h1 (by omega); have := hnh.out; omega) h1 h2⟩⟩
end Go.Proofs.Ytkggejmamhakaaa
namespace Go.Proofs.Ytkggejmamhakaaa
set_option maxRecDepth 100000
set_option linter.unusedVariables false
open Go.RowKit
theorem Tdr.by_ {w : World} {base g : Nat} {v : Value} {ps : List St} {f : Nat → Nat} {b : Int} (h : Tdr w base g v ps f b) (x : Int) : Tdr (w.setCell ⟨g, 6, none⟩ (.int .i64 x)) base g v ps f x := h.set 6 _ (by simp [tdA])
theorem Tdr.list_ {w w1 : World} {base g : Nat} {v v' : Value} {ps qs : List St} {f : Nat → Nat} {b : Int} (h : Tdr w base g v ps f b) (hb : Below w.heap.size w w1) (ho : Own w1 w.heap.size v' qs) (hbs : base ≤ w.heap.size) : Tdr (w1.setCell ⟨g, 0, none⟩ v') base g v' qs f b := by
  have h1 := h.2.1.kept hb
  refine ⟨h.1, ?_, ?_⟩
  · have := h1.put 0 v'
    rwa [show (tdA v f b).setIfInBounds 0 v' = tdA v' f b by simp [tdA]] at this
  · have ho1 : Own w1 base v' qs := owns_le ho hbs
    have hk : KeptBut w1 (w1.setCell ⟨g, 0, none⟩ v') (fun k => k = g) := KeptBut.put (p := ⟨g, 0, none⟩) (KeptBut.refl w1 (fun k => k = g)) (fun _ => rfl) v'
    exact owns_but ho1 hk (own_ne ho1 h1)
def Didd (w : World) (base g : Nat) (qs : List St) (f : Nat → Nat) (b : Int) (e : Ending) (w' : World) : Prop := e = .returned (.tuple #[]) ∧ ∃ v', Tdr w' base g v' qs f b ∧ Below base w w'
set_option maxHeartbeats 4000000 in
theorem do_any (w : World) (base g : Nat) (v : Value) (ps : List St) (f : Nat → Nat) (b : Int) (c : Nat) (a : St) (h : Tdr w base g v ps f b) (hp : plainOk ps = true) (hI : TInv ps f) (hc : 1 ≤ c ∧ c ≤ 4) (ha : ps[f c]? = some a) (hf : fits (c : Int) a ps[f c + 1]? = true) (hb : 1 ≤ b ∧ b ≤ 1000000000000000) (hbs : base ≤ w.heap.size) :
    Calls Try.prog 42 #[.pointer (some ⟨g, 0, none⟩), .int .i64 (c : Int)] w (Didd w base g (chDone (c : Int) ps (f c)) (fun d => min (f d) (f c - 1)) (b * facBy (c : Int) a)) := by
  obtain ⟨h10, hok⟩ := plain_iff.1 hp
  have hoa := hok a (List.mem_of_getElem? ha)
  obtain ⟨n, hn⟩ : ∃ n, ps.length = n := ⟨_, rfl⟩
  obtain ⟨A, cap, rfl, hcap, hcm⟩ := h.2.2.form
  have hfp := fac_pos (c := (c : Int)) (by omega) hoa hf
  have hfd := Lib.hid (show ∀ d, f d ≤ 1000000 from fun d => by have := (hI d).1; omega)
  have cq := h.at_ (c := c) (by omega)
  obtain ⟨q, hq⟩ : ∃ q, f c = q := ⟨_, rfl⟩
  rw [hn] at h10 hcap h
  have hqn : q < n := by have := (List.getElem?_eq_some_iff.1 ha).1; omega
  rw [hq] at ha hf cq ⊢
  have hqh := Lib.hid hq
  have hnh := Lib.hid hn
  have hLs := h.2.2.lst
  obtain ⟨gs, off, s0, rfl, hgs, hs0, hat⟩ := hLs.at_ hqn
  obtain rfl : s0 = a := by rw [ha] at hs0; injection hs0 with e; exact e.symm
  obtain ⟨e0, e1, e2, e3, e4, e5, e6⟩ := hat.open_
  have cl := h.2.1.cell 0
  have cb := h.2.1.cell 6
  simp only [tdA] at cl cb
  have hT := Lib.hid h
  have hgl := h.2.1.lt
  have hcmh := Lib.hid hcm
  have hcaph := Lib.hid hcap
  have cF := Lib.hid (fun wx => factorOf_any s0 (c : Int) wx (ok_ws hoa.1 hoa.2))
  have hw := IntWalk.i64_in (b * facBy (c : Int) s0) (by
    have h1 := Int.mul_le_mul hb.2 hfp.2 (by omega) (by omega)
    have h2 := Int.mul_le_mul hb.1 hfp.1 (by omega) (by omega)
    omega)
  have hpart := Lib.hid (fun (wx : World) (hx : Tdr wx base g (.slice (some ⟨gs, off, none⟩) n cap) ps f (b * facBy (c : Int) s0)) => withChange_any (some ⟨gs, off, none⟩) n cap q ps (c : Int) s0 wx hx.2.2.lst hcap hcm (by omega) (by omega) ha hoa (fun b hb => hok b (List.mem_of_getElem? hb)) hf)
  have hOk := Lib.hid (fun (wx : World) (hx : Below w.heap.size w wx) => (show wx.cell? ⟨gs, off + q * 7, none⟩ = some (.int .i64 s0.k) ∧ wx.cell? ⟨gs, off + q * 7 + 1, none⟩ = some (.int .i64 s0.a) ∧ wx.cell? ⟨gs, off + q * 7 + 2, none⟩ = some (.int .i64 s0.b) ∧ wx.cell? ⟨gs, off + q * 7 + 3, none⟩ = some (.int .i64 s0.c) ∧ wx.cell? ⟨gs, off + q * 7 + 4, none⟩ = some (.int .i64 s0.u) ∧ wx.cell? ⟨gs, off + q * 7 + 5, none⟩ = some (.int .i64 s0.v) ∧ wx.cell? ⟨gs, off + q * 7 + 6, none⟩ = some (.int .i64 s0.x) from (StAt.keep hat (fun p hp => hx.cell (by rw [hp]; exact hgs))).open_))
  have hq0 : (0 : Int) ≤ (q : Int) := by omega
  have hqn' : (q : Int) < (n : Int) := by omega
  have hc0 : (0 : Int) ≤ (c : Int) := by omega
  have hc5 : (c : Int) < 5 := by omega
  have hbsh := Lib.hid hbs
  have hq10 : q ≤ 10 := by omega
  have hgb : base ≤ g := h.1
  clear h hp hI hoa hok hfp hb hLs hat hs0 ha hf hcm hcap hn hq h10 hbs
  go_enter Try.func42, Try.ntmps42
  go_wp2_with fail
  go_region_law (first | (go_simp; go_at_call 68; refine (cF.out _).mono ?_; rintro e w3 ⟨rfl, hb3⟩; have hB3 : Below w.heap.size w w3 := (by first | exact hb3 | exact ((Below.refl _ _).drew).trans hb3); have hT3 := hT.out.below hB3; have c3 := hT3.2.1.cell; have f3 := hT3.2.1.frozen; simp only [tdA] at c3; obtain ⟨x0, x1, x2, x3, x4, x5, x6⟩ := hOk.out _ hB3; clear hb3))
  all_goals
    have hT4 := Lib.hid (hT3.by_ (b * facBy (c : Int) s0))
    have hB4 := Lib.hid ((hB3.mono hbsh.out).setCell (p := ⟨g, 6, none⟩) hgb (.int .i64 (b * facBy (c : Int) s0)))
    clear hB3 hT3 c3 f3 x0 x1 x2 x3 x4 x5 x6
    generalize w3.setCell ⟨g, 6, none⟩ (.int .i64 (b * facBy (c : Int) s0)) = WF at hT4 hB4 ⊢
    have c4 := hT4.out.2.1.cell 0
    simp only [tdA] at c4
    go_wp2_with fail
    refine (hpart.out _ hT4.out).mono ?_
    rintro e w5 ⟨v5, rfl, ho5, hb5⟩
    have hz4 : base ≤ WF.heap.size := Nat.le_trans hbsh.out hB4.out.size
    have hT5 := Lib.hid (hT4.out.list_ hb5 ho5 hz4)
    have hB5 := Lib.hid ((hB4.out.trans (hb5.mono hz4)).setCell (p := ⟨g, 0, none⟩) hgb v5)
    have hg5 := hT4.out.2.1.kept hb5
    have c5 := hg5.cell 0
    have f5 := hg5.frozen
    have hgl5 := hg5.lt
    simp only [tdA] at c5
    obtain ⟨A5, k5, hv5, _, _⟩ := ho5.form
    subst hv5
    clear ho5 hb5 hg5 hT4 hB4 c4
    go_wp2_with fail
    refine (moveBack_any _ base g q _ _ f _ hT5.out hfd.out (by omega)).mono ?_
    rintro e w6 ⟨rfl, hT6, hK6⟩
    have hT6h := Lib.hid hT6
    have hB6 := Lib.hid (hB5.out.trans (hK6.below (B := base) (fun i hi e => by omega) (Nat.le_trans hbsh.out hB5.out.size)))
    clear hT6 hK6
    go_wp2_with fail
    go_end0
    exact ⟨rfl, _, hT6h.out, hB6.out⟩
end Go.Proofs.Ytkggejmamhakaaa
namespace Go.Proofs.Ytkggejmamhakaaa
set_option maxRecDepth 100000
set_option linter.unusedVariables false
open Go.RowKit
theorem rows_first (ps : List St) (c : Nat) : (rowsAt ps c ps.length).head? = (firstAt c ps).map fun (i : Nat) => [(c : Int), (i : Int)] := by
  unfold rowsAt firstAt
  rw [List.head?_map, List.head?_filter]
theorem rows_parts {ps : List St} (hp : plainOk ps = true) : chRows ps = rowsAt ps 0 ps.length ++ (rowsAt ps 1 ps.length ++ (rowsAt ps 2 ps.length ++ (rowsAt ps 3 ps.length ++ rowsAt ps 4 ps.length))) := by
  unfold chRows
  rw [if_pos hp]
  simp only [rowsTo, List.nil_append, List.append_assoc]
/-- How many swaps can be done. -/
def swaps (ps : List St) : Nat := (rowsAt ps 0 ps.length).length
theorem rows_head {ps : List St} (hp : plainOk ps = true) : (chRows ps)[swaps ps]? = (nextCh ps).map fun x => [x.1, (x.2 : Int)] := by
  unfold swaps
  rw [rows_parts hp, List.getElem?_append_right (Nat.le_refl _), Nat.sub_self, ← List.head?_eq_getElem?]
  rw [List.head?_append, List.head?_append, List.head?_append, rows_first, rows_first, rows_first, rows_first]
  unfold nextCh
  cases firstAt ((1 : Nat) : Int) ps <;> cases firstAt ((2 : Nat) : Int) ps <;> cases firstAt ((3 : Nat) : Int) ps <;> cases firstAt ((4 : Nat) : Int) ps <;> rfl
theorem rows_swap {ps : List St} (hp : plainOk ps = true) {k : Nat} (hk : k < swaps ps) : ∃ i : Nat, (chRows ps)[k]? = some [(0 : Int), (i : Int)] := by
  rw [rows_parts hp, List.getElem?_append_left hk]
  unfold rowsAt
  rw [List.getElem?_map]
  cases h : (List.filter (fun i => fitAt ((0 : Nat) : Int) ps i) (List.range ps.length))[k]? with
  | none =>
    have := List.getElem?_eq_none_iff.1 h
    unfold swaps rowsAt at hk
    rw [List.length_map] at hk
    omega
  | some i => exact ⟨i, rfl⟩
theorem swaps_le {ps : List St} (hp : plainOk ps = true) : swaps ps ≤ (chRows ps).length := by
  rw [rows_parts hp, List.length_append]
  exact Nat.le_add_right _ _
theorem rows_none {ps : List St} (hp : plainOk ps = true) (h : nextCh ps = none) : (chRows ps).length = swaps ps := by
  have h1 := rows_head hp
  rw [h] at h1
  have := List.getElem?_eq_none_iff.1 (show (chRows ps)[swaps ps]? = none from h1)
  have := swaps_le hp
  omega
theorem rows_some {ps : List St} (hp : plainOk ps = true) {c : Int} {i : Nat} (h : nextCh ps = some (c, i)) : (chRows ps)[swaps ps]? = some [c, (i : Int)] ∧ swaps ps < (chRows ps).length := by
  have h1 := rows_head hp
  rw [h] at h1
  exact ⟨h1, (List.getElem?_eq_some_iff.1 h1).1⟩
def tdTo (ps : List St) : List St := if plainOk ps = true then (tidy ps 1).1 else []
def tdBy (ps : List St) : Int := if plainOk ps = true then (tidy ps 1).2 else 0
end Go.Proofs.Ytkggejmamhakaaa
namespace Go.Proofs.Ytkggejmamhakaaa
set_option maxRecDepth 100000
set_option linter.unusedVariables false
open Go.RowKit
def Tdd (w : World) (ps : List St) (e : Ending) (w' : World) : Prop := ∃ v, e = .returned (.tuple #[v, .int .i64 (tdBy ps), .bool (plainOk ps)]) ∧ Own w' w.heap.size v (tdTo ps) ∧ Below w.heap.size w w'
theorem inv_zero (ps : List St) : TInv ps (fun _ => 0) := fun d => ⟨Nat.zero_le _, fun j hj => absurd hj (Nat.not_lt_zero _)⟩
theorem sumWs_small {ps : List St} (h : plainOk ps = true) : 1 ≤ sumWs ps ∧ sumWs ps ≤ 1000000000000000 := by
  obtain ⟨h10, hok⟩ := plain_iff.1 h
  obtain ⟨h1, h2⟩ := sumWs_bd hok
  have h3 : ∀ n : Fin 11, (27 : Int) ^ (n : Nat) ≤ 1000000000000000 := by decide
  exact ⟨h1, Int.le_trans h2 (h3 ⟨ps.length, by omega⟩)⟩
/-- What is on its way to be tidy. -/
def Way (ps qs : List St) (b : Int) : Prop := plainOk qs = true ∧ tidy ps 1 = tidy qs b ∧ 1 ≤ b ∧ b * sumWs qs ≤ sumWs ps
theorem Way.start {ps : List St} (h : plainOk ps = true) : Way ps ps 1 := ⟨h, rfl, Int.le_refl _, by rw [Int.one_mul]; exact Int.le_refl _⟩
theorem Way.bd {ps qs : List St} {b : Int} (hp : plainOk ps = true) (h : Way ps qs b) : 1 ≤ b ∧ b ≤ 1000000000000000 := by
  have h1 := sumWs_small hp
  have h2 := sumWs_small h.1
  have h3 := h.2.2.2
  have h4 := Int.mul_le_mul_of_nonneg_left h2.1 (show 0 ≤ b by have := h.2.2.1; omega)
  have h5 := h.2.2.1
  omega
theorem Way.step {ps qs : List St} {b : Int} (h : Way ps qs b) {c : Int} {i : Nat} {a : St} (hn : nextCh qs = some (c, i)) (ha : qs[i]? = some a) : Way ps (chDone c qs i) (b * facBy c a) ∧ masses (chDone c qs i) < masses qs ∧ 0 ≤ masses (chDone c qs i) ∧ (0 ≤ c ∧ c ≤ 4) ∧ fits c a qs[i + 1]? = true := by
  obtain ⟨hc, hf⟩ := next_fit hn
  have hc' : 0 ≤ c ∧ c ≤ 4 := ⟨by omega, hc.2⟩
  obtain ⟨a', ha', hfa⟩ := fitAt_some hf
  rw [ha] at ha'
  obtain rfl : a = a' := by injection ha'
  have hoa := (plain_iff.1 h.1).2 a (List.mem_of_getElem? ha)
  have h2 := done_plain hc' h.1 hf
  have hfp := (fac_pos hc' hoa hfa).1
  have hb := h.2.2.1
  refine ⟨⟨h2, h.2.1.trans (tidy_step h.1 hn ha), ?_, ?_⟩, done_less hc h.1 hf, (masses_bd (plain_iff.1 h2).2).1, hc', hfa⟩
  · have := Int.mul_le_mul hb hfp (by omega) (by omega)
    omega
  · rw [Int.mul_assoc]
    exact Int.le_trans (Int.mul_le_mul_of_nonneg_left (done_sumW hc' h.1 hf ha) (by omega)) h.2.2.2
theorem Way.stop {ps qs : List St} {b : Int} (hp : plainOk ps = true) (h : Way ps qs b) (hn : nextCh qs = none) : tdTo ps = qs ∧ tdBy ps = b := by
  have e : tidy ps 1 = (qs, b) := h.2.1.trans (tidy_end hn)
  unfold tdTo tdBy
  rw [if_pos hp, if_pos hp, e]
  exact ⟨rfl, rfl⟩
theorem fit_get {c : Int} {ps : List St} {i : Nat} (h : fitAt c ps i = true) : ∃ a, ps[i]? = some a := by
  obtain ⟨a, ha, _⟩ := fitAt_some h
  exact ⟨a, ha⟩
theorem new_empty (w : World) (base : Nat) (hb : base ≤ w.heap.size) : (w.alloc (.cells #[] 63)).ownsRow base 63 7 (.slice (some ⟨w.heap.size, 0, none⟩) 0 0) 0 [] :=
  ⟨rfl, .inr ⟨w.heap.size, 0, #[], rfl, hb, Has.new w _ _, Nat.le_refl _, Nat.zero_le _, rfl, rfl⟩⟩
theorem tdr_new {w : World} {base : Nat} {v : Value} {ps : List St} (h : Own w base v ps) (hb : base ≤ w.heap.size) : Tdr (w.alloc (.cells #[v, .int .i64 0, .int .i64 0, .int .i64 0, .int .i64 0, .int .i64 0, .int .i64 1] 57)) base w.heap.size v ps (fun _ => 0) 1 :=
  ⟨hb, Has.new w _ _, h.alloc _⟩
/-- append onto a row of the call's own, of a list that reads as statements. -/
theorem wpList_append_lst {w : World} {ops : Array Oper} {rest : List Oper} {o : Oper} {a : Act} {Q : Exit → Act → World → Prop} (hgd : o.guard = none) (s x : Operand)
    (ho : o.op = .call { callee := .builtin .append, args := #[s, x], argTypes := #[23, 23] })
    (base B : Nat) (v : Value) (m : Nat) (os : List St) (hs : a.eval s = v) (hown : w.ownsRow base 63 7 v m (flat os))
    (A : Option Addr) (n cap : Nat) (ps : List St) (hx : a.eval x = .slice A n cap) (hL : Lst w B A n ps) (h0 : A = none → cap = 0)
    (h63 : m + n ≤ 1000000) (hbase : base ≤ w.heap.size)
    (h : ∀ v' w', w'.ownsRow base 63 7 v' (m + n) (flat os ++ flat ps) → w.grownBy w' v.ownBlock → wpList Try.prog ops Q rest (a.put o.dst v') w') :
    wpList Try.prog ops Q (o :: rest) a w := by
  obtain ⟨i0, hi0, hz0, hz1', hz2'⟩ := info_parts info_stmt
  cases A with
  | none =>
    obtain rfl := h0 rfl
    have hn : n = 0 := by
      by_cases hn : 0 < n
      · obtain ⟨_, _, e, _⟩ := hL.2 hn
        cases e
      · omega
    subst hn
    have hps : ps = [] := List.eq_nil_of_length_eq_zero hL.1
    subst hps
    refine wpList_append_own_none hgd s x _ ho base 63 i0 7 Try.underlying23 hi0 v m (flat os) hs hown hx (h v w ?_ (World.grownBy.refl w _))
    simpa [flat] using hown
  | some ad =>
    refine wpList_append_own _ hgd s x _ ho base 63 i0 _ 7 56 Try.underlying23 hi0 hz0 hz1' hz2' rfl (by decide) v m (flat os) hs hown ad n cap (flat ps) hx (by rw [flat_length, hL.1]) ?_ (flat_one ps) (by unfold maxLen; omega) (by omega) hbase (fun v' w' h1 h2 _ => h v' w' h1 h2)
    intro j u hu
    by_cases hn : 0 < n
    · obtain ⟨g, off, e, _⟩ := hL.2 hn
      injection e with e
      subst e
      have := hL.part (k := 0) (m := n) hn (by omega) j u (by rw [List.drop_zero, List.take_of_length_le (by have := hL.1; omega)]; exact hu)
      simpa using this
    · have hps : ps = [] := List.eq_nil_of_length_eq_zero (by have := hL.1; omega)
      subst hps
      simp [flat] at hu
set_option maxHeartbeats 4000000 in
theorem Tidy_any (A : Option Addr) (n cap : Nat) (ps : List St) (w : World) (h : Lst w w.heap.size A n ps) (hn : n ≤ cap) (hc : cap ≤ maxLen) (h0 : A = none → cap = 0) :
    Calls Try.prog 12 #[.slice A n cap] w (Tdd w ps) := by
  have hL := Lib.hid h.1
  have hH := Lib.hid h
  have cP := Lib.hid (PlainOk_any A n cap ps w h hn hc)
  cases hp : plainOk ps
  · have hR := Lib.hid (show tdTo ps = [] ∧ tdBy ps = 0 by unfold tdTo tdBy; rw [hp]; exact ⟨rfl, rfl⟩)
    clear h
    go_enter Try.func12, Try.ntmps12
    go_wp2_with fail
    refine cP.out.mono ?_
    rw [hp]
    rintro e w1 ⟨rfl, hb⟩
    go_wp2_with fail
    go_ret3
    exact ⟨_, by rw [hR.out.2, hp]; rfl, by rw [hR.out.1]; exact Own.nil _ _, hb⟩
  · obtain ⟨h10, hok⟩ := plain_iff.1 hp
    have h10' : n ≤ 10 := by have := hL.out; omega
    have hph := Lib.hid hp
    have h0h := Lib.hid h0
    obtain ⟨i0, hi0, hz0, hz1', hz2'⟩ := info_parts info_stmt
    clear h h10 hok h0
    go_enter Try.func12, Try.ntmps12
    go_wp2_with fail
    refine cP.out.mono ?_
    rw [hp]
    rintro e w1 ⟨rfl, hb1⟩
    have hz1 := hb1.size
    have hB1 := hb1.alloc hz1 (.cells #[] 63)
    have hN := Lib.hid (new_empty w1 w.heap.size hz1)
    have hLs := (hH.out.below hb1).below ((Below.refl _ _).alloc (Nat.le_refl _) (.cells #[] 63) |>.mono hz1)
    clear hp
    have hLh := Lib.hid hLs
    have hB1h := Lib.hid hB1
    clear hLs hb1
    go_wp2_with (at_builtin; refine wpList_append_lst rfl (.tmp 11) (.tmp 12) rfl w.heap.size w.heap.size (.slice (some ⟨w1.heap.size, 0, none⟩) 0 0) 0 [] rfl (by exact hN.out) A n cap ps rfl (by exact hLh.out) h0h.out (by omega) (by exact hB1h.out.size) ?_)
    intro v2 w2 hown2 hgrow2
    have hB2 := hB1h.out.grown hgrow2 hB1h.out.size (fun k hk => by
      have h1 : w1.heap.size = k := by simpa [Value.ownBlock] using hk
      omega)
    have hO2 : Own w2 w.heap.size v2 ps := by
      unfold Own
      rw [hL.out]
      simpa [flat] using hown2
    obtain ⟨A2, c2, hv2, _, _⟩ := hO2.form
    subst hv2
    have hT2 := Lib.hid (tdr_new hO2 hB2.size)
    have hB3 := Lib.hid (hB2.alloc hB2.size (.cells #[.slice A2 ps.length c2, .int .i64 0, .int .i64 0, .int .i64 0, .int .i64 0, .int .i64 0, .int .i64 1] 57))
    clear hown2 hgrow2 hO2 hN hLh hB1h
    go_wp2_with fail
    generalize w2.alloc (.cells #[.slice A2 ps.length c2, .int .i64 0, .int .i64 0, .int .i64 0, .int .i64 0, .int .i64 0, .int .i64 1] 57) = W1 at hT2 hB3 ⊢
    generalize w2.heap.size = g at hT2 ⊢
    have cT := Lib.hid (toChange_any W1 w.heap.size g (.slice A2 ps.length c2) ps (fun _ => 0) 1 hT2.out hph.out (inv_zero ps) hB3.out.size)
    refine cT.out.mono ?_
    rintro e w5 ⟨f5, x5, y5, rfl, hT5, hI5, hB5, hF5⟩
    have kT := Lib.hid hT5
    have kI := Lib.hid hI5
    have kB := Lib.hid (hB3.out.trans hB5)
    have kF := Lib.hid hF5
    clear hT5 hI5 hB5 hF5 hT2 hB3
    go_wp2_with fail
    go_loopg [6, 7] (masses ps).toNat (fun gn x y wr => ∃ (qs : List St) (f : Nat → Nat) (v : Value) (b : Int), gn = (masses qs).toNat ∧ Tdr wr w.heap.size g v qs f b ∧ TInv qs f ∧ Way ps qs b ∧ Below w.heap.size w wr ∧ Fnd qs f x y)
    case atStart => exact ⟨ps, f5, _, 1, rfl, kT.out, kI.out, Way.start hph.out, kB.out, kF.out⟩
    case round =>
      clear kT kI kB kF
      obtain ⟨qs, f, v, b, hgn, iT, iI, iW, iB, iF⟩ := hrel
      have hgk : gk = (masses qs).toNat := hgn
      have hbd := iW.bd hph.out
      have jT := Lib.hid iT
      have jI := Lib.hid iI
      have jW := Lib.hid iW
      have jB := Lib.hid iB
      have hz := iB.size
      clear hgn iT iI iW iB
      rcases iF with ⟨c, hc, rfl, rfl, hfit, hnx⟩ | ⟨rfl, rfl, hnx⟩
      · obtain ⟨a, ha⟩ := fit_get hfit
        obtain ⟨hWs, hless, hpos, hcc, hfa⟩ := jW.out.step hnx ha
        have cD := Lib.hid (do_any wr w.heap.size g v qs f b c a jT.out jW.out.1 jI.out hc ha hfa hbd hz)
        have hI2 := Lib.hid (jI.out.done (c := (c : Int)) ha)
        have hWs' := Lib.hid hWs
        have hmm : (masses (chDone (c : Int) qs (f c))).toNat < gk := by omega
        clear hfit hnx ha hWs hless hpos hfa
        go_wp2_with fail
        refine cD.out.mono ?_
        rintro e w6 ⟨rfl, v6, hT6, hB6⟩
        have kT := Lib.hid hT6
        have kB := Lib.hid (jB.out.trans hB6)
        clear hT6 hB6
        go_wp2_with fail
        have cT := Lib.hid (toChange_any w6 w.heap.size g v6 _ _ _ kT.out hWs'.out.1 hI2.out kB.out.size)
        refine cT.out.mono ?_
        rintro e w7 ⟨f7, x7, y7, rfl, hT7, hI7, hB7, hF7⟩
        have lT := Lib.hid hT7
        have lI := Lib.hid hI7
        have lB := Lib.hid (kB.out.trans hB7)
        have lF := Lib.hid hF7
        clear hT7 hI7 hB7 hF7
        go_wp2_with fail
        go_roundg (masses (chDone (c : Int) qs (f c))).toNat
        case measure => exact hmm
        case rel => exact ⟨_, f7, v6, _, rfl, lT.out, lI.out, hWs'.out, lB.out, lF.out⟩
      · obtain ⟨hR1, hR2⟩ := jW.out.stop hph.out hnx
        have hR := Lib.hid (And.intro hR1 hR2)
        have hO := jT.out.2.2
        obtain ⟨Av, cv, hv, _, _⟩ := hO.form
        subst hv
        have hOh := Lib.hid hO
        have cl := jT.out.2.1.cell
        simp only [tdA] at cl
        clear hR1 hR2 hO hnx
        go_wp2_with fail
        go_quiet (fail)
        go_wp2_with fail
        go_ret3
        exact ⟨_, by rw [hR.out.2, hph.out]; rfl, by rw [hR.out.1]; exact hOh.out, below_drewN jB.out _⟩
end Go.Proofs.Ytkggejmamhakaaa
namespace Go.Proofs.Ytkggejmamhakaaa
set_option maxRecDepth 100000
set_option linter.unusedVariables false
open Go.RowKit
theorem l1Copy_all (A : Option Addr) (n c : Nat) (ps : List St) (w : World) (h : Lst w w.heap.size A n ps) (hn : n ≤ 1000) (h0 : A = none → c = 0) :
    Calls Try.prog 44 #[.slice A n c] w (OwndM w ps) := by
  by_cases hp : 0 < n
  · obtain ⟨g, off, _, rfl, _⟩ := h.at_ hp
    refine (l1Copy_lst g off n c ps w h hp hn).mono ?_
    rintro e w1 ⟨G, c', rfl, ho, _, _, _, hb⟩
    exact ownM ho hb
  · obtain rfl : n = 0 := by omega
    have hps : ps = [] := List.eq_nil_of_length_eq_zero h.1
    subst hps
    have hN := Lib.hid (show (w.alloc (.cells #[] 63)).ownsRow w.heap.size 63 7 (.slice (some ⟨w.heap.size, 0, none⟩) 0 0) 0 [] from
      ⟨rfl, .inr ⟨w.heap.size, 0, #[], rfl, Nat.le_refl _, Has.new w _ _, Nat.le_refl _, Nat.zero_le _, rfl, rfl⟩⟩)
    clear h
    obtain ⟨i0, hi0, hz0, hz1', hz2'⟩ := info_parts info_stmt
    have hB : Below w.heap.size w (w.alloc (.cells #[] 63)) := (Below.refl _ _).alloc (Nat.le_refl _) _
    have hBh := Lib.hid hB
    cases A with
    | none =>
      obtain rfl := h0 rfl
      go_enter Try.func44, Try.ntmps44
      go_wp2_with (at_builtin; refine wpList_append_own_none rfl (.tmp 5) (.tmp 6) 23 rfl w.heap.size 63 i0 7 Try.underlying23 hi0 (.slice (some ⟨w.heap.size, 0, none⟩) 0 0) 0 [] rfl (by exact hN.out) rfl ?_)
      go_wp2_with fail
      go_ret
      exact ownM hN.out hBh.out
    | some ad =>
      go_enter Try.func44, Try.ntmps44
      go_wp2_with (at_builtin; refine wpList_append_own _ rfl (.tmp 5) (.tmp 6) 23 rfl w.heap.size 63 i0 _ 7 56 Try.underlying23 hi0 hz0 hz1' hz2' rfl (by decide) (.slice (some ⟨w.heap.size, 0, none⟩) 0 0) 0 [] rfl (by exact hN.out) ad 0 c [] rfl rfl (by intro j u hu; simp at hu) (by simp) (by unfold maxLen; omega) (by omega) (by simp) ?_; intro v' w4 hown4 hgrow4 hblk)
      have hB4 := Lib.hid (hB.grown hgrow4 (by simp) (fun k hk => by
        have h1 : w.heap.size = k := by simpa [Value.ownBlock] using hk
        omega))
      have hf0 : w4.ownsRow w.heap.size 63 7 v' 0 (flat []) := by simpa [flat] using hown4
      have hf := Lib.hid hf0
      clear hown4 hgrow4 hblk hf0
      go_wp2_with fail
      go_ret
      exact ownM hf.out hB4.out
theorem cg_all {ps : List St} {c : Int} {i : Nat} {a : St} (hp : plainOk ps = true) (hc : 0 ≤ c ∧ c ≤ 4) (ha : ps[i]? = some a) (hf : fits c a ps[i + 1]? = true) : cgOk ps c i = true ∧ cgDo ps c i = chDone c ps i ∧ cgBy ps c i = facBy c a := by
  have hl : i < ps.length := (List.getElem?_eq_some_iff.1 ha).1
  have h1 : cgOk ps c i = true := by
    unfold cgOk
    rw [hp, inB_iff.2 hc, inB_iff.2 (show (0 : Int) ≤ (i : Int) ∧ (i : Int) ≤ (ps.length : Int) - 1 by omega), Int.toNat_natCast]
    unfold fitAt
    rw [ha]
    simpa using hf
  refine ⟨h1, ?_, ?_⟩
  · unfold cgDo
    rw [if_pos h1, Int.toNat_natCast]
  · unfold cgBy
    rw [if_pos h1, Int.toNat_natCast, List.getD_eq_getElem?_getD, ha]
    rfl
/-- A row of two numbers in a list of rows. -/
theorem row_at {w : World} {base : Nat} {A : Option Addr} {n c k : Nat} {rs : List (List Int)} {vs : List Value} {x y : Int} (h : RowsV w base (.slice A n c) rs vs) (hn : rs.length = n) (hr : rs[k]? = some [x, y]) :
    ∃ (g gx ox cx : Nat), A = some ⟨g, 0, none⟩ ∧ g < w.heap.size ∧ gx < w.heap.size ∧ w.cell? ⟨g, k, none⟩ = some (.slice (some ⟨gx, ox, none⟩) 2 cx) ∧ w.cell? ⟨gx, ox, none⟩ = some (.int .i64 x) ∧ w.cell? ⟨gx, ox + 1, none⟩ = some (.int .i64 y) := by
  have hk : k < n := by have := (List.getElem?_eq_some_iff.1 hr).1; omega
  obtain ⟨g, Ax, cx, ds, rfl, hvx, c0, hds, hxo⟩ := h.at_ hn hk
  rw [hr] at hds
  obtain rfl : [x, y] = ds := by injection hds
  obtain ⟨gx, ox, rfl, hgx, hcx⟩ := (IOwn.lst (n := 2) hxo).2 (by decide)
  have hg : g < w.heap.size := (World.ownsRow.lt h.1 g rfl).2
  exact ⟨g, gx, ox, cx, rfl, hg, hgx, c0, hcx 0 x rfl, hcx 1 y rfl⟩
set_option maxHeartbeats 1000000 in
theorem specTidy_any (A : Option Addr) (n cap : Nat) (ps : List St) (w : World) (h : Lst w w.heap.size A n ps) (hn : n ≤ cap) (hc : cap ≤ maxLen) (hbig : n ≤ 1048576) (h0 : A = none → cap = 0) :
    Calls Try.prog 13 #[.slice A n cap] w (Tdd w ps) := by
  have hL := Lib.hid h.1
  have hH := Lib.hid h
  have cP := Lib.hid (specPlainOk_any A n cap ps w h hn hc hbig)
  clear h
  cases hp : plainOk ps
  · have hR := Lib.hid (show tdTo ps = [] ∧ tdBy ps = 0 by unfold tdTo tdBy; rw [hp]; exact ⟨rfl, rfl⟩)
    go_enter Try.func13, Try.ntmps13
    go_wp2_with fail
    refine cP.out.mono ?_
    rw [hp]
    rintro e w1 ⟨rfl, hb⟩
    go_wp2_with fail
    go_ret3
    exact ⟨_, by rw [hR.out.2, hp]; rfl, by rw [hR.out.1]; exact Own.nil _ _, hb⟩
  · obtain ⟨h10, hok⟩ := plain_iff.1 hp
    have cY := Lib.hid (fun wx (hx : Lst wx wx.heap.size A n ps) => l1Copy_all A n cap ps wx hx (by have := hL.out; omega) h0)
    have hph := Lib.hid hp
    clear h10 hok h0
    go_enter Try.func13, Try.ntmps13
    go_wp2_with fail
    refine cP.out.mono ?_
    rw [hp]
    rintro e w1 ⟨rfl, hb1⟩
    have hB1 := Lib.hid hb1
    have hz1 := hb1.size
    clear hb1 hp
    go_wp2_with fail
    refine (cY.out _ ((hH.out.below hB1.out).more hB1.out.size)).mono ?_
    rintro e w2 ⟨v2, rfl, ho2, hb2⟩
    have hO2 := Lib.hid (owns_le ho2 hz1)
    have hB2 := Lib.hid (hB1.out.trans (hb2.mono hz1))
    clear ho2 hb2
    go_wp2_with fail
    go_loopg [5, 6] (masses ps).toNat (fun gn v f wr => ∃ (qs : List St) (b : Int), gn = (masses qs).toNat ∧ f = .int .i64 b ∧ Own wr w.heap.size v qs ∧ Way ps qs b ∧ Below w.heap.size w wr)
    case atStart => exact ⟨ps, 1, rfl, rfl, hO2.out, Way.start hph.out, hB2.out⟩
    case round =>
      obtain ⟨qs, b, hgn, rfl, hO, hW, hB⟩ := hrel
      have hgk : gk = (masses qs).toNat := hgn
      obtain ⟨h10, hok⟩ := plain_iff.1 hW.1
      obtain ⟨m, hm⟩ : ∃ m, qs.length = m := ⟨_, rfl⟩
      obtain ⟨Av, cv, hv, hcv, hcm⟩ := hO.form
      subst hv
      rw [hm] at hO hcv h10 ⊢
      have hO' : Own wr w.heap.size (.slice Av m cv) qs := by exact hO
      have hLs := Lib.hid hO'.lst
      have hOh := Lib.hid hO'
      have hWh := Lib.hid hW
      have hBh := Lib.hid hB
      have hz := hB.size
      have cC := Lib.hid (fun wx (hx : Lst wx wx.heap.size Av m qs) => specChangesOf_any Av m cv qs wx hx hcv hcm (by omega))
      have cF := Lib.hid (fun c z wx (hx : Lst wx wx.heap.size Av m qs) => specFactorBy_any Av m cv qs c z wx hx hcv hcm (by omega))
      have cD := Lib.hid (fun c z wx (hx : Lst wx wx.heap.size Av m qs) => specChangeDo_any Av m cv qs c z wx hx hcv hcm (by omega))
      have hmh := Lib.hid hm
      have hokh := Lib.hid hok
      have hbd := hW.bd hph.out
      clear hgn hO hO' hW hB hm hok
      obtain ⟨wq, rfl⟩ : ∃ x, x = wr := ⟨_, rfl⟩
      obtain ⟨gq, hgq⟩ : ∃ x, x = gk := ⟨_, rfl⟩
      go_wp2_with fail
      refine (cC.out _ hLs.out).mono ?_
      rintro e w3 ⟨v3, vs, rfl, hRv, hb3⟩
      obtain ⟨A3, c3, hv3, hc3, hm3⟩ := hRv.form
      subst hv3
      obtain ⟨R, hR⟩ : ∃ R, (chRows qs).length = R := ⟨_, rfl⟩
      obtain ⟨S, hS⟩ : ∃ S, swaps qs = S := ⟨_, rfl⟩
      have hSR : S ≤ R := by have := swaps_le hWh.out.1; omega
      have hR60 : R ≤ 60 := by
        have h1 := rowsTo_len qs 5
        have h2 := hmh.out
        have : chRows qs = rowsTo qs 5 := by unfold chRows; rw [hWh.out.1]; rfl
        rw [this] at hR
        omega
      rw [hR] at hRv hc3 ⊢
      have hRvh := Lib.hid hRv
      have hb3h := Lib.hid hb3
      have hRh := Lib.hid hR
      have hSh := Lib.hid hS
      clear hRv hb3 hR hS
      go_wp2_with fail
      go_loopg [8] S (fun gn o wr => ∃ (k : Nat), k ≤ S ∧ gn = S - k ∧ o = .int .i64 (k : Int) ∧ wr = w3)
      case atStart => exact ⟨0, Nat.zero_le _, rfl, rfl, rfl⟩
      case round =>
        obtain ⟨k, hk, hgn2, rfl, hwr⟩ := hrel
        have hgk2 : gk = S - k := hgn2
        obtain rfl := hwr
        clear hgn2
        have hk0 : (0 : Int) ≤ (k : Int) := by omega
        by_cases hlt : k < S
        · have hkR : (k : Int) < (R : Int) := by omega
          obtain ⟨i, hi⟩ := rows_swap hWh.out.1 (k := k) (by have := hSh.out; omega)
          obtain ⟨g3, gx, ox, cx, rfl, hg3, hgx, e0, e1, e2⟩ := row_at hRvh.out hRh.out hi
          clear hi
          go_wp2_with fail
          go_roundg (S - (k + 1))
          case measure => omega
          case rel => exact ⟨k + 1, by omega, rfl, by go_num, rfl⟩
        · obtain rfl : k = S := by omega
          cases hnx : nextCh qs with
          | none =>
            obtain rfl : R = k := by have := rows_none hWh.out.1 hnx; have := hRh.out; have := hSh.out; omega
            obtain ⟨hR1, hR2⟩ := hWh.out.stop hph.out hnx
            have hX := Lib.hid (And.intro hR1 hR2)
            have hE := Lib.hid (hBh.out.trans (hb3h.out.mono hz))
            have hOz := Lib.hid (hOh.out.below hb3h.out)
            clear hR1 hR2 hnx
            go_wp2_with fail
            go_ret3
            exact ⟨_, by rw [hX.out.2, hph.out]; rfl, by rw [hX.out.1]; exact hOz.out, hE.out⟩
          | some x =>
            obtain ⟨c, i⟩ := x
            obtain ⟨hrow, hlen⟩ := rows_some hWh.out.1 hnx
            rw [hSh.out] at hrow
            rw [hSh.out, hRh.out] at hlen
            obtain ⟨hc, hfit⟩ := next_fit hnx
            obtain ⟨a, ha, _⟩ := fitAt_some hfit
            obtain ⟨hWs, hless, hpos, hcc, hfa⟩ := hWh.out.step hnx ha
            obtain ⟨hg1, hg2, hg3⟩ := cg_all hWh.out.1 hcc ha hfa
            have hoa := (plain_iff.1 hWh.out.1).2 a (List.mem_of_getElem? ha)
            have hfp := fac_pos hcc hoa hfa
            have hw := IntWalk.i64_in (b * facBy c a) (by
              have h1 := Int.mul_le_mul hbd.2 hfp.2 (by omega) (by omega)
              have h2 := Int.mul_le_mul hbd.1 hfp.1 (by omega) (by omega)
              omega)
            have hkR : (k : Int) < (R : Int) := by omega
            have hkR2 : ((k : Int) == (R : Int)) = false := by simp; omega
            have hcz : (c == (0 : Int)) = false := by simp; omega
            obtain ⟨g3, gx, ox, cx, rfl, hg3', hgx, e0, e1, e2⟩ := row_at hRvh.out hRh.out hrow
            have cF' := Lib.hid (fun wx hx => cF.out c (i : Int) wx hx)
            have cD' := Lib.hid (fun wx hx => cD.out c (i : Int) wx hx)
            rw [hg1, hg3] at cF'
            rw [hg1, hg2] at cD'
            have hWs' := Lib.hid hWs
            have hmm : (masses (chDone c qs i)).toNat < gq := by omega
            have hOk := Lib.hid (fun (wx : World) (hx : Below wr.heap.size wr wx) => (show Below wr.heap.size wr wx ∧ wx.cell? ⟨g3, k, none⟩ = some (.slice (some ⟨gx, ox, none⟩) 2 cx) ∧ wx.cell? ⟨gx, ox, none⟩ = some (.int .i64 c) ∧ wx.cell? ⟨gx, ox + 1, none⟩ = some (.int .i64 i) from ⟨hx, (hx.cell (p := ⟨g3, k, none⟩) hg3').trans e0, (hx.cell (p := ⟨gx, ox, none⟩) hgx).trans e1, (hx.cell (p := ⟨gx, ox + 1, none⟩) hgx).trans e2⟩))
            have hLx := Lib.hid (fun (wx : World) (hx : Below wr.heap.size wr wx) => (hLs.out.below (hb3h.out.trans (hx.mono hb3h.out.size))).more (Nat.le_trans hb3h.out.size hx.size))
            clear cF cD cC hnx hrow hfit ha hWs hless hpos hfa hg1 hg2 hg3 hoa hfp
            go_wp2_with fail
            go_region_held3 (fun wx => Below wr.heap.size wr wx ∧ wx.cell? ⟨g3, k, none⟩ = some (.slice (some ⟨gx, ox, none⟩) 2 cx) ∧ wx.cell? ⟨gx, ox, none⟩ = some (.int .i64 c) ∧ wx.cell? ⟨gx, ox + 1, none⟩ = some (.int .i64 i)) (first | exact hOk.out _ ((Below.refl _ _).drew) | exact hOk.out _ (bt6 (by assumption) hbq) | exact hOk.out _ (bs6 (by assumption)) | exact hOk.out _ (bd6 (by assumption)) | go_keep) (first | (go_at_call 34; refine (cF'.out _ (hLx.out _ (And.left (by assumption)))).mono ?_; rintro e q ⟨rfl, hbq⟩))
            rename_i hHeld
            have hB6 := Lib.hid hHeld.1
            clear hHeld hbq e0 e1 e2
            obtain ⟨e0, e1, e2⟩ := (hOk.out _ hB6.out).2
            have hOk0 := hOk
            clear hOk
            have hOk := Lib.hid (fun (wx : World) (hx : Below q.heap.size q wx) => (show Below q.heap.size q wx ∧ wx.cell? ⟨g3, k, none⟩ = some (.slice (some ⟨gx, ox, none⟩) 2 cx) ∧ wx.cell? ⟨gx, ox, none⟩ = some (.int .i64 c) ∧ wx.cell? ⟨gx, ox + 1, none⟩ = some (.int .i64 i) from ⟨hx, (hOk0.out _ (hB6.out.trans (hx.mono hB6.out.size))).2⟩))
            have hLx0 := hLx
            clear hLx
            have hLx := Lib.hid (fun (wx : World) (hx : Below q.heap.size q wx) => hLx0.out _ (hB6.out.trans (hx.mono hB6.out.size)))
            clear hOk0 hLx0
            go_wp2_with fail
            go_region_held3 (fun wx => Below q.heap.size q wx ∧ wx.cell? ⟨g3, k, none⟩ = some (.slice (some ⟨gx, ox, none⟩) 2 cx) ∧ wx.cell? ⟨gx, ox, none⟩ = some (.int .i64 c) ∧ wx.cell? ⟨gx, ox + 1, none⟩ = some (.int .i64 i)) (first | exact hOk.out _ ((Below.refl _ _).drew) | exact hOk.out _ (bt6 (by assumption) hbq) | exact hOk.out _ (bs6 (by assumption)) | exact hOk.out _ (bd6 (by assumption)) | go_keep) (first | (go_at_call 24; refine (cD'.out _ (hLx.out _ (And.left (by assumption)))).mono ?_; rintro e q2 ⟨v5, rfl, ho5, hbq⟩; obtain ⟨A5, c5, hv5, _, _⟩ := ho5.form; subst hv5))
            rename_i hHeld
            have hz3 : w.heap.size ≤ wr.heap.size := Nat.le_trans hz hb3h.out.size
            have hz6 : w.heap.size ≤ q.heap.size := Nat.le_trans hz3 hB6.out.size
            have hOz := Lib.hid (show Own q2 w.heap.size (.slice A5 (chDone c qs i).length c5) (chDone c qs i) from owns_le ho5 hz6)
            have hBz := Lib.hid ((hBh.out.trans (hb3h.out.mono hz)).trans ((hB6.out.mono hz3).trans (hHeld.1.mono hz6)))
            clear hHeld ho5 hbq e0 e1 e2 hOk hLx
            go_wp2_with fail
            go_roundg (masses (chDone c qs i)).toNat
            case measure => omega
            case rel => exact ⟨_, _, rfl, rfl, hOz.out, hWs'.out, hBz.out⟩
end Go.Proofs.Ytkggejmamhakaaa
