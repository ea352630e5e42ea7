/- Drawn traces, and drawn texts of traces. -/
import Derived.Test.YtpogohgepcakcaaCas
import Derived.Test.YtpogohgepcakcaaTxf
import Derived.Test.YtpogohgepcakcaaOpB
namespace Go.Proofs.Ytpogohgepcakcaa
set_option maxRecDepth 100000
set_option linter.unusedVariables false
open Go.RowKit

theorem DrawTraceText_any (A : Option Addr) (n c : Nat) (w : World) (h : Byt w w.heap.size A n) (hn : n ≤ c) (hc : c ≤ maxLen) :
    Calls Try.prog 33 #[.slice A n c] w fun e w' => ∃ u ds, e = .returned u ∧ IOwn w' w.heap.size u ds ∧ ds.length ≤ 12 ∧ Below w.heap.size w w' := by
  have hO := Lib.hid (l2Case_any A n c _ h hn hc)
  clear h hc
  go_enter Try.func33, Try.ntmps33
  go_wp2_with fail
  refine (hO.out).mono ?_
  rintro e w1 ⟨v, u, os, ds, rfl, hown, hl, hI, hd, hb⟩
  obtain ⟨A', c', hv, _, _⟩ := hown.form
  subst hv
  obtain ⟨A2, c2, hu, _, _⟩ := hI.form
  subst hu
  have hIh := Lib.hid hI
  clear hown hI hO
  go_wp2
  go_ret
  exact ⟨_, ds, rfl, hIh.out, hd, hb⟩

theorem DrawReadTrace_any (A : Option Addr) (n c : Nat) (w : World) (h : Byt w w.heap.size A n) (hn : n ≤ c) (hc : c ≤ maxLen) :
    Calls Try.prog 34 #[.slice A n c] w fun e w' => ∃ s, e = .returned (.string s) ∧ s.size ≤ 100 ∧ Below w.heap.size w w' := by
  have hO := Lib.hid (DrawTraceText_any A n c _ h hn hc)
  have hn' : n ≤ 9223372036854775807 := by unfold maxLen at hc; omega
  clear h hc
  go_enter Try.func34, Try.ntmps34
  go_wp2_with fail
  refine (hO.out).mono ?_
  rintro e w1 ⟨u, ds, rfl, hI, hd, hb⟩
  obtain ⟨A2, c2, hu, _, _⟩ := hI.form
  subst hu
  have hIl := Lib.hid hI.lst
  clear hI hO
  have hts := txt_size ds
  go_wp2_with fail
  refine (specTraceText_any A2 ds.length c2 ds _ hIl.out (by unfold maxLen; omega)).mono ?_
  rintro e w2 ⟨rfl, hb2⟩
  have hB2 := hb.trans (hb2.mono hb.size)
  generalize txt ds = s at hts ⊢
  clear hb hb2 hIl
  by_cases h6 : (n : Int) % 6 = 0
  · have h6' : (((n : Int) % 6) == 0) = true := by rw [beq_iff_eq]; exact h6
    go_wp2
    go_ret
    exact ⟨_, rfl, by rw [ByteArray.size_append]; show s.size + 1 ≤ 100; omega, hB2⟩
  · have h6' : (((n : Int) % 6) == 0) = false := by rw [beq_eq_false_iff_ne]; exact h6
    go_wp2
    go_ret
    exact ⟨_, rfl, by omega, hB2⟩
end Go.Proofs.Ytpogohgepcakcaa
