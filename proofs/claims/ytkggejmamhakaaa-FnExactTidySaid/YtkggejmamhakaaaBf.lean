/- Three states' numbers, and a whole row, changed from what is behind a statement to what is ahead of it: the program's takeThree and takeBack. -/
import Derived.Test.YtkggejmamhakaaaBe
namespace Go.Proofs.Ytkggejmamhakaaa
set_option maxRecDepth 100000
set_option linter.unusedVariables false
open Go.RowKit

theorem worth_in {h : Int → Int} {os : List St} {led : Nat → Int → Bool} {k : Nat} {s : St} {z x : Int} (hs : os[k]? = some s) (hok : s.ok = true) (hc : Cl os led k) (hz : 0 ≤ z ∧ z ≤ 80) (ha : 0 ≤ s.a ∧ s.a ≤ 3) (hz0 : valueAt z s.a = 0) (hx : 0 ≤ x ∧ x ≤ 2) :
    (if led k (withValue z s.a x) = true then wsum (Xw (mix (Rw h os led (k + 1)) (Rw h os led k) s.a z) (Rw h os led) (k + 1)) (prt os.length s ⟨k, withValue z s.a x, 1⟩) else 0) = Rw h os led k (withValue z s.a x) := by
  have hl := (List.getElem?_eq_some_iff.1 hs).1
  have hw := with_bd hz ha hx
  have hzz : withValue (withValue z s.a x) s.a 0 = z := by
    rw [with_with hz ha hx (by decide)]
    have := with_self hz ha
    rwa [hz0] at this
  generalize withValue z s.a x = st at hw hzz
  have hR : Rw h os led k st = if led k st = true then valAt h os k st else 0 := if_neg (by omega)
  rw [hR]
  split
  · rename_i hled
    rw [← worth_led (h := h) hs hw hc hled]
    refine wsum_congr fun r hr => ?_
    congr 1
    obtain ⟨d, hd, rfl⟩ := mem_prt hr
    have hmy := many_le s
    unfold Xw
    split
    · rfl
    · rename_i h9
      have hp : (clp os.length (Rn.step s ⟨k, st, 1⟩ d)).pos = k + 1 := by
        have h9' : ¬ (k + 1 < min (k + 1 + s.jump st) os.length) := h9
        show min (k + 1 + s.jump st) os.length = k + 1
        omega
      rw [hp]
      have e1 := next_three (s := s) (x := (d : Int)) hok hw (by omega)
      show mix _ _ _ z (s.next st d) = _
      unfold mix
      rw [if_neg (by rw [e1, hzz]; omega)]
      rfl
  · rfl

theorem info_three : (Try.prog.info? 61).map (fun i => (i.zero, i.size)) = some (some (.agg #[.int .i64 0, .int .i64 0, .int .i64 0]), 3) := by kernel_rfl
theorem index_three {sn : Array Value} {u : Value} {q : Nat} (h : sn[q]? = some u) (hq : q < 3) (w : World) : (Instr.index 61 (.agg sn) (.int .i64 q)).run Try.prog w = .ok u w := by
  have hu := Try.underlying61
  have hc : (0 : Int) ≤ (q : Int) ∧ (q : Int) < 3 := by omega
  simp [Instr.index, run_underlying hu, asIntOf, go_sem, part, h, hc]
  intro h9
  omega

end Go.Proofs.Ytkggejmamhakaaa
