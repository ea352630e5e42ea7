/- Whether a change fits: the model's l6Ok. -/
import Derived.Test.YtkggejmamhakaaaQ1
import Derived.Test.YtkggejmamhakaaaQ2
import Derived.Test.YtkggejmamhakaaaQ3
import Derived.Test.YtkggejmamhakaaaQ4
import Derived.Test.YtkggejmamhakaaaQ7
import Derived.Test.YtkggejmamhakaaaQ8
import Derived.Test.YtkggejmamhakaaaQA
import Derived.Test.YtkggejmamhakaaaQB
import Derived.Test.YtkggejmamhakaaaQC
namespace Go.Proofs.Ytkggejmamhakaaa
set_option maxRecDepth 100000
set_option linter.unusedVariables false
open Go.RowKit

set_option maxHeartbeats 2000000 in
theorem l6Ok_any (A : Option Addr) (n cap k : Nat) (ps : List St) (c : Int) (a : St) (w : World) (h : Lst w w.heap.size A n ps) (hn : n ≤ 1048576) (hcc : 0 ≤ c ∧ c ≤ 4) (ha : ps[k]? = some a) (hoa : a.ok = true ∧ a.k < 6) (hob : ∀ b, ps[k + 1]? = some b → b.ok = true ∧ b.k < 6) :
    Calls Try.prog 60 #[.slice A n cap, .int .i64 c, .int .i64 (k : Int)] w fun e w' => e = .returned (.bool (fits c a ps[k + 1]?)) ∧ Below w.heap.size w w' := by
  have hk : k < n := by have := (List.getElem?_eq_some_iff.1 ha).1; have := h.1; omega
  obtain ⟨g, off, s0, rfl, hg, hs0, hat⟩ := h.at_ hk
  obtain rfl : a = s0 := by rw [ha] at hs0; injection hs0
  obtain ⟨c0, c1, c2, c3, c4, c5, c6⟩ := hat.open_
  have hk0 : (0 : Int) ≤ (k : Int) := by omega
  have hk1 : (k : Int) < (n : Int) := by omega
  have hwa := ok_wsm hoa.1 hoa.2
  have h1 := Has.new w 63 #[.int .i64 a.k, .int .i64 a.a, .int .i64 a.b, .int .i64 a.c, .int .i64 a.u, .int .i64 a.v, .int .i64 a.x]
  have hh1 := Lib.hid h1
  have hB := Lib.hid (show Below w.heap.size w (w.alloc (.cells #[.int .i64 a.k, .int .i64 a.a, .int .i64 a.b, .int .i64 a.c, .int .i64 a.u, .int .i64 a.v, .int .i64 a.x] 63)) from (Below.refl _ _).alloc (Nat.le_refl _) _)
  by_cases h3 : c = 3
  · subst h3
    have hR := fits3 (a := a) (ob := ps[k + 1]?) (by omega)
    have cC := Lib.hid (fun wx => l6Common_any a.u a.v a.x wx (by omega) (by omega) (by omega))
    rw [← com_three hoa.1 hoa.2] at cC
    generalize fits 3 a ps[k + 1]? = res at hR ⊢
    clear h hat hs0 hob ha
    by_cases h2 : 2 ≤ a.k
    · rw [decide_eq_true h2, Bool.true_and] at hR
      have hRh := Lib.hid hR
      clear hR
      go_enter Try.func60, Try.ntmps60
      go_wp2_with fail
      refine (cC.out _).mono ?_
      rintro e w2 ⟨rfl, hb2⟩
      have hB2 := Lib.hid (hB.out.trans (hb2.mono (by simp)))
      clear hb2
      go_wp2_with fail
      go_ret
      exact ⟨ret_bool hRh.out, hB2.out⟩
    · rw [decide_eq_false h2, Bool.false_and] at hR
      have hRh := Lib.hid hR
      clear hR
      go_enter Try.func60, Try.ntmps60
      go_wp2_with fail
      go_ret
      exact ⟨ret_bool hRh.out, hB.out⟩
  · have g3 : (c == (3 : Int)) = false := by simpa using h3
    cases hb : ps[k + 1]? with
    | none =>
      have hle : n ≤ k + 1 := by have := List.getElem?_eq_none_iff.1 hb; have := h.1; omega
      have hR := Lib.hid (fits_no (a := a) hcc h3)
      have ge : ((k : Int) + 1 == (n : Int)) = true := by simp; omega
      clear h hat hs0 hob ha h3 hb
      go_enter Try.func60, Try.ntmps60
      go_wp2_with fail
      go_ret
      exact ⟨ret_bool hR.out, hB.out⟩
    | some b =>
      have hbb := hob b hb
      obtain rfl | rfl | rfl | rfl | rfl : c = 0 ∨ c = 1 ∨ c = 2 ∨ c = 3 ∨ c = 4 := by omega
      · exact l6Ok_0 _ n cap k ps a b w h hn ha hoa hb hbb
      · exact l6Ok_1 _ n cap k ps a b w h hn ha hoa hb hbb
      · by_cases s0 : 0 ≤ a.sets
        · by_cases s1 : b.sets = a.sets
          · exact l6Ok_2t _ n cap k ps a b w h hn ha hoa s0 s1 hb hbb
          · exact l6Ok_2f _ n cap k ps a b w h hn ha hoa s0 (by simpa using s1) hb hbb
        · exact l6Ok_2n _ n cap k ps a b w h hn ha hoa s0 hb hbb
      · exact absurd rfl h3
      · cases q0 : (a.k == 0)
        · exact l6Ok_4d _ n cap k ps a b w h hn ha hoa q0 hb hbb
        · by_cases q1 : a.b < 0
          · cases q2 : ((b.reads / 2 ^ a.a.toNat).tmod 2 == 1)
            · exact l6Ok_4f _ n cap k ps a b w h hn ha hoa q0 q1 q2 hb hbb
            · cases q3 : (b.k == 3)
              · cases q4 : (b.k == 5)
                · exact l6Ok_40 _ n cap k ps a b w h hn ha hoa q0 q1 q2 q3 q4 hb hbb
                · exact l6Ok_45 _ n cap k ps a b w h hn ha hoa q0 q1 q2 q3 q4 hb hbb
              · exact l6Ok_43 _ n cap k ps a b w h hn ha hoa q0 q1 q2 q3 hb hbb
          · exact l6Ok_4e _ n cap k ps a b w h hn ha hoa q0 q1 hb hbb
end Go.Proofs.Ytkggejmamhakaaa
