/- What hangs on what a program unrolls to: whether it is one, whether it is plain, how many draws it has. -/
import Derived.Test.YtpogohgepcakcaaUnS
namespace Go.Proofs.Ytpogohgepcakcaa
set_option maxRecDepth 100000
open Go.RowKit

def countDraws (ps : List St) : Int := match unrolled ps with
  | none => -1
  | some os => (os.filter St.draws).length
def St.low (s : St) : Bool := decide (s.k < 6)
def plainOk (ps : List St) : Bool := (unrolled ps).isSome && ps.all St.low

theorem unrolled_ok {ps os : List St} (h : unrolled ps = some os) : ps.all St.ok = true ∧ os.length ≤ 12 ∧ ps.length ≤ 10 ∧ unr ps 0 = some os := by
  unfold unrolled at h
  split at h
  · rename_i h1
    rw [Bool.and_eq_true] at h1
    rw [Option.filter_eq_some_iff] at h
    exact ⟨h1.2, by simpa using h.2, by simpa using h1.1, h.1⟩
  · cases h

theorem specUnrolled_any (A : Option Addr) (n c : Nat) (ps : List St) (w : World) (h : Lst w w.heap.size A n ps) (hn : n ≤ c) (hc : c ≤ maxLen) (hbig : n ≤ 1048576) :
    Calls Try.prog 15 #[.slice A n c] w (Unrd w (unrolled ps)) := by
  have hC := Lib.hid (fun wx (hx : Lst wx wx.heap.size A n ps) => l1Unrolled_any A n c ps wx hx hn hc hbig)
  have hH := Lib.hid h
  clear h hc
  cases hu : unrolled ps with
  | none =>
    have hU := Lib.hid hu
    go_enter Try.func15, Try.ntmps15
    go_wp2_with fail
    refine (hC.out _ hH.out).mono ?_
    rw [hU.out]
    rintro e w1 ⟨v, rfl, _, hb⟩
    clear hu
    go_wp2
    go_ret2
    exact Unrd.no rfl hb
  | some os =>
    have hU := Lib.hid hu
    go_enter Try.func15, Try.ntmps15
    go_wp2_with fail
    refine (hC.out _ hH.out).mono ?_
    rw [hU.out]
    rintro e w1 ⟨v, rfl, hown, hb⟩
    have hO := Lib.hid (hown os rfl)
    clear hown hu
    go_wp2
    go_ret2
    exact ⟨_, rfl, hO.out, hb⟩

theorem specProgramOk_any (A : Option Addr) (n c : Nat) (ps : List St) (w : World) (h : Lst w w.heap.size A n ps) (hn : n ≤ c) (hc : c ≤ maxLen) (hbig : n ≤ 1048576) :
    Calls Try.prog 60 #[.slice A n c] w fun e w' => e = .returned (.bool (unrolled ps).isSome) ∧ Below w.heap.size w w' := by
  have hC := Lib.hid (fun wx (hx : Lst wx wx.heap.size A n ps) => l1Unrolled_any A n c ps wx hx hn hc hbig)
  have hH := Lib.hid h
  clear h hc
  go_enter Try.func60, Try.ntmps60
  go_wp2_with fail
  refine (hC.out _ hH.out).mono ?_
  rintro e w1 ⟨v, rfl, _, hb⟩
  go_wp2
  go_ret
  exact ⟨rfl, hb⟩

theorem ProgramOk_any (A : Option Addr) (n c : Nat) (ps : List St) (w : World) (h : Lst w w.heap.size A n ps) (hn : n ≤ c) (hc : c ≤ maxLen) :
    Calls Try.prog 17 #[.slice A n c] w fun e w' => e = .returned (.bool (unrolled ps).isSome) ∧ Below w.heap.size w w' := by
  have hC := Lib.hid (fun wx (hx : Lst wx wx.heap.size A n ps) => Unrolled_any A n c ps wx hx hn hc)
  have hH := Lib.hid h
  clear h hc
  go_enter Try.func17, Try.ntmps17
  go_wp2_with fail
  refine (hC.out _ hH.out).mono ?_
  rintro e w1 ⟨v, rfl, hown, hb⟩
  clear hown
  go_wp2
  go_ret
  exact ⟨rfl, hb⟩

theorem specPlainOk_any (A : Option Addr) (n c : Nat) (ps : List St) (w : World) (h : Lst w w.heap.size A n ps) (hn : n ≤ c) (hc : c ≤ maxLen) (hbig : n ≤ 1048576) :
    Calls Try.prog 22 #[.slice A n c] w fun e w' => e = .returned (.bool (plainOk ps)) ∧ Below w.heap.size w w' := by
  have hC := Lib.hid (fun wx (hx : Lst wx wx.heap.size A n ps) => specProgramOk_any A n c ps wx hx hn hc hbig)
  have hL := Lib.hid h.1
  have hH := Lib.hid h
  clear h hc
  go_enter Try.func22, Try.ntmps22
  go_wp2
  go_loop [3] (fun i => ∃ k : Nat, k ≤ n ∧ i = .int .i64 k ∧ (ps.take k).all St.low = true) (fun i => n - (intOf i).toNat)
  case atStart => exact ⟨0, Nat.zero_le _, rfl, by simp⟩
  case round =>
    obtain ⟨k, hk, rfl, hall⟩ := hrel
    have hAll := Lib.hid hall
    clear hall
    by_cases hlt : k < n
    · obtain ⟨g, off, s, rfl, hg, hs, hat⟩ := hH.out.at_ hlt
      have c0 := hat.open_.1
      have hS := Lib.hid hs
      clear hs hat
      by_cases h6 : s.k < 6
      · have hR := Lib.hid ((all_take_succ hS.out St.low).trans (by rw [hAll.out, show s.low = true from decide_eq_true h6, Bool.and_self]))
        go_wp2
        go_round
        case rel => exact ⟨k + 1, by omega, by go_num, hR.out⟩
        case measure => (simp [intOf]; try omega)
      · have hR := Lib.hid (show plainOk ps = false by unfold plainOk; rw [all_no hS.out (show s.low = false from decide_eq_false h6), Bool.and_false])
        go_wp2
        go_ret
        exact ⟨ret_bool hR.out, Below.refl _ _⟩
    · obtain rfl : n = k := by omega
      have hR := Lib.hid (show plainOk ps = (unrolled ps).isSome by
        have h1 := hAll.out
        rw [List.take_of_length_le (by rw [hL.out]; omega)] at h1
        unfold plainOk
        rw [h1, Bool.and_true])
      go_wp2_with (go_at_call 60; refine (hC.out _ hH.out).mono ?_; rintro e w1 ⟨rfl, hb⟩)
      go_ret
      exact ⟨ret_bool hR.out, hb⟩

end Go.Proofs.Ytpogohgepcakcaa
