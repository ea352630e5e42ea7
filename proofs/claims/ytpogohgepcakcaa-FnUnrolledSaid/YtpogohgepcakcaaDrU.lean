/- A drawn argument of Unrolled. -/
import Derived.Test.YtpogohgepcakcaaDrA
namespace Go.Proofs.Ytpogohgepcakcaa
set_option maxRecDepth 100000
open Go.RowKit

theorem DrawUnrolled_any (A : Option Addr) (n c : Nat) (w : World) (h : Byt w w.heap.size A n) (hn : n ≤ c) (hc : c ≤ maxLen) :
    Calls Try.prog 13 #[.slice A n c] w (Anyd w) := by
  have hO := Lib.hid (l40Open_any A n c _ h hn hc)
  clear h hc
  go_enter Try.func13, Try.ntmps13
  go_wp2_with fail
  refine (hO.out).mono ?_
  rintro e w1 ⟨rfl, ⟨n', hn', hrd⟩, hb1⟩
  have hz1 : w.heap.size < w1.heap.size := hrd.lt
  clear hO
  go_wp2_with fail
  refine (l1Any_any A n' c 0 w.heap.size 6 w1 w hrd (by omega) hn' (by omega) hb1 rfl).mono ?_
  rintro e w2 ⟨v, os, rfl, hown, hl, hb2⟩
  obtain ⟨A', c', hv, hlc, hcm⟩ := hown.form
  subst hv
  have hO1 := Lib.hid hown
  clear hown hrd hb1
  go_wp2
  go_ret
  exact ⟨_, os, rfl, hO1.out, hl, hb2⟩

end Go.Proofs.Ytpogohgepcakcaa
