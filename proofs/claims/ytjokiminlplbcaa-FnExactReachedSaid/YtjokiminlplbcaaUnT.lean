/- What hangs on what a program unrolls to: whether it is one, whether it is plain, how many draws it has. -/
import Derived.Test.YtjokiminlplbcaaUnS
namespace Go.Proofs.Ytjokiminlplbcaa
set_option maxRecDepth 100000
open Go.RowKit

def countDraws (ps : List St) : Int := match unrolled ps with
  | none => -1
  | some os => (os.filter St.draws).length
def St.low (s : St) : Bool := decide (s.k < 6)
def plainOk (ps : List St) : Bool := (unrolled ps).isSome && ps.all St.low

theorem unrolled_ok {ps os : List St} (h : unrolled ps = some os) : ps.all St.ok = true ∧ os.length ≤ 12 ∧ ps.length ≤ 10 ∧ unr ps 0 = some os := by
  unfold unrolled at h
  split at h
  · rename_i h1
    rw [Bool.and_eq_true] at h1
    rw [Option.filter_eq_some_iff] at h
    exact ⟨h1.2, by simpa using h.2, by simpa using h1.1, h.1⟩
  · cases h

theorem specProgramOk_any (A : Option Addr) (n c : Nat) (ps : List St) (w : World) (h : Lst w w.heap.size A n ps) (hn : n ≤ c) (hc : c ≤ maxLen) (hbig : n ≤ 1048576) :
    Calls Try.prog 77 #[.slice A n c] w fun e w' => e = .returned (.bool (unrolled ps).isSome) ∧ Below w.heap.size w w' := by
  have hC := Lib.hid (fun wx (hx : Lst wx wx.heap.size A n ps) => l1Unrolled_any A n c ps wx hx hn hc hbig)
  have hH := Lib.hid h
  clear h hc
  go_enter Try.func77, Try.ntmps77
  go_wp2_with fail
  refine (hC.out _ hH.out).mono ?_
  rintro e w1 ⟨v, rfl, _, hb⟩
  go_wp2
  go_ret
  exact ⟨rfl, hb⟩

theorem ProgramOk_any (A : Option Addr) (n c : Nat) (ps : List St) (w : World) (h : Lst w w.heap.size A n ps) (hn : n ≤ c) (hc : c ≤ maxLen) :
    Calls Try.prog 33 #[.slice A n c] w fun e w' => e = .returned (.bool (unrolled ps).isSome) ∧ Below w.heap.size w w' := by
  have hC := Lib.hid (fun wx (hx : Lst wx wx.heap.size A n ps) => Unrolled_any A n c ps wx hx hn hc)
  have hH := Lib.hid h
  clear h hc
  go_enter Try.func33, Try.ntmps33
  go_wp2_with fail
  refine (hC.out _ hH.out).mono ?_
  rintro e w1 ⟨v, rfl, hown, hb⟩
  clear hown
  go_wp2
  go_ret
  exact ⟨rfl, hb⟩

end Go.Proofs.Ytjokiminlplbcaa
