/- Diagrams: the program's kidFor, numberLedTo. -/
import Derived.Test.YtghkpmafocacoaaO1
import Derived.Test.YtghkpmafocacoaaO2
namespace Go.Proofs.Ytghkpmafocacoaa
set_option maxRecDepth 100000
set_option linter.unusedVariables false
open Go.RowKit

theorem valueAt_dig {s v : Nat} (hs : s ≤ 80) (hv : v ≤ 3) : valueAt (s : Int) (v : Int) = (dig s v : Nat) := by
  rw [valueAt_yes (k := v) (by omega) (by omega) rfl hv]
  unfold dig
  obtain rfl | rfl | rfl | rfl : v = 0 ∨ v = 1 ∨ v = 2 ∨ v = 3 := by omega
  all_goals
    simp only [p3, Nat.reducePow]
    omega
theorem dig_lt (s v : Nat) : dig s v = 0 ∨ dig s v = 1 ∨ dig s v = 2 := by unfold dig; omega
/-- The cell that stands at an index. -/
theorem CLst.gt_ {w : World} {B : Nat} {A : Option Addr} {n k : Nat} {ds : List Ce} (h : CLst w B A n ds) (hk : k < n) :
    ∃ (g off : Nat), A = some ⟨g, off, none⟩ ∧ g < B ∧ CeAt w g (off + k * 5) (gt ds k) := by
  obtain ⟨g, off, s, e, hg, hs, hat⟩ := h.at_ hk
  refine ⟨g, off, e, hg, ?_⟩
  rw [gt_get hs]
  exact hat
theorem kidFor_any (A : Option Addr) (n c i v x : Nat) (ds : List Ce) (w : World) (h : CLst w w.heap.size A n ds) (hn : n ≤ 121) (hi : i < n) (hx : x < 3) (hu : Up ds) (hv : v ≤ 3) :
    Calls Try.prog 168 #[.slice A n c, .int .i64 (i : Int), .int .i64 (v : Int), .int .i64 (x : Int)] w fun e w' => e = .returned (.int .i64 (kf ds i v x : Nat)) ∧ w = w' := by
  obtain ⟨g, off, rfl, hg, hat⟩ := h.gt_ hi
  obtain ⟨c0, c1, c2, c3, c4⟩ := hat.open_
  have hl := h.1
  clear h hat
  by_cases hvv : (gt ds i).v = v
  · have hk := hu i (by omega) (by omega)
    have hR := Lib.hid (show kf ds i v x = ((gt ds i).kid x).toNat from if_pos hvv)
    have h0 := hk.2 x
    obtain ⟨k, hkk⟩ : ∃ k : Nat, (gt ds i).kid x = k := ⟨_, (Int.toNat_of_nonneg h0.1).symm⟩
    have hR2 := Lib.hid (show ((kf ds i v x : Nat) : Int) = k by rw [hR.out, hkk, Int.toNat_natCast])
    rw [hvv] at c0
    clear hvv hk h0 hR hl
    obtain rfl | rfl | rfl : x = 0 ∨ x = 1 ∨ x = 2 := by omega
    · rw [show (gt ds i).a = k from hkk] at c2
      clear hkk c3 c4
      go_enter Try.func168, Try.ntmps168
      go_wp2
      go_ret
      exact ⟨ret_int hR2.out, rfl⟩
    · rw [show (gt ds i).b = k from hkk] at c3
      clear hkk c2 c4
      go_enter Try.func168, Try.ntmps168
      go_wp2
      go_ret
      exact ⟨ret_int hR2.out, rfl⟩
    · rw [show (gt ds i).c = k from hkk] at c4
      clear hkk c2 c3
      go_enter Try.func168, Try.ntmps168
      go_wp2
      go_ret
      exact ⟨ret_int hR2.out, rfl⟩
  · have hR := Lib.hid (show kf ds i v x = i from if_neg hvv)
    have hne : ((gt ds i).v == (v : Int)) = false := by simpa using hvv
    clear hvv
    go_enter Try.func168, Try.ntmps168
    go_wp2
    go_ret
    exact ⟨ret_int (by rw [hR.out]), rfl⟩
theorem num_next {ds : List Ce} (h : Up ds) {i s k : Nat} (hi : i < ds.length) (hv : (gt ds i).v ≠ -1) {v : Nat} (hvv : (gt ds i).v = v) (hk : (gt ds i).kid (dig s v) = k) : k < i ∧ num ds s k = num ds s i := by
  have h1 := (h i hi hv).2 (dig s v)
  rw [num_step h hi hv, hvv, Int.toNat_natCast, hk, Int.toNat_natCast]
  exact ⟨by omega, rfl⟩
theorem numberLedTo_any (A : Option Addr) (n c s : Nat) (ds : List Ce) (w : World) (h : CLst w w.heap.size A n ds) (h1 : 1 ≤ n) (hn : n ≤ 121) (hu : Up ds) (hs : s ≤ 80) :
    Calls Try.prog 73 #[.slice A n c, .int .i64 (s : Int)] w fun e w' => e = .returned (.int .i64 (dnum ds s)) ∧ ∃ k, w' = w.drewN k := by
  have hH := Lib.hid h
  have hL := Lib.hid h.1
  have hU := Lib.hid hu
  clear h hu
  go_enter Try.func73, Try.ntmps73
  go_wp2
  go_loopw [5] (fun i wr => ∃ k nq : Nat, k < n ∧ i = .int .i64 k ∧ wr = w.drewN nq ∧ num ds s k = dnum ds s) (fun i _ => (intOf i).toNat)
  case atStart => exact ⟨n - 1, 0, by omega, by go_num, rfl, by unfold dnum; rw [hL.out]⟩
  case round =>
    obtain ⟨k, mq, hk, rfl, hw, hnum⟩ := hrel
    have hHr : CLst wr wr.heap.size A n ds := by rw [hw]; exact hH.out
    have hW := Lib.hid hw
    clear hw
    have hNum := Lib.hid hnum
    clear hnum
    obtain ⟨g, off, rfl, hg, hat⟩ := hHr.gt_ hk
    obtain ⟨c0, c1, c2, c3, c4⟩ := hat.open_
    clear hHr
    have hkl : k < ds.length := by rw [hL.out]; exact hk
    by_cases hv : (gt ds k).v = -1
    · have hR := Lib.hid (show dnum ds s = (gt ds k).n by rw [← hNum.out, num_leaf hv])
      rw [hv] at c0
      clear hv hkl hat
      go_wp2
      go_ret
      exact ⟨ret_int hR.out, mq, hW.out⟩
    · obtain ⟨⟨hv0, hv3⟩, hkid⟩ := hU.out k hkl hv
      obtain ⟨v, hvv⟩ : ∃ v : Nat, (gt ds k).v = v := ⟨_, (Int.toNat_of_nonneg hv0).symm⟩
      obtain ⟨k2, hk2⟩ : ∃ k2 : Nat, (gt ds k).kid (dig s v) = k2 := ⟨_, (Int.toNat_of_nonneg (hkid (dig s v)).1).symm⟩
      obtain ⟨hlt, hnx⟩ := num_next hU.out hkl hv hvv hk2
      have hN2 := Lib.hid (hnx.trans hNum.out)
      have hv3' : v ≤ 3 := by omega
      have cV := Lib.hid (fun wx => ValueAt_any (s : Int) (v : Int) wx)
      rw [valueAt_dig hs hv3'] at cV
      rw [hvv] at c0
      clear hkid hv hv0 hv3 hvv hnx hkl hat hNum
      rcases dig_lt s v with hd | hd | hd
      all_goals
        rw [hd] at cV hk2
        clear hd
      · rw [show (gt ds k).a = k2 from hk2] at c2
        clear hk2 c3 c4
        go_wp2
        go_quiet ((go_at_call 101; exact Calls.quiet_of_same ((cV.out _).mono fun _ _ h => ⟨h.1, h.2.symm⟩)))
        go_wp2
        exact ⟨⟨k2, mq + nq, by omega, rfl, by rw [hW.out, World.drewN_drewN], hN2.out⟩, by simp [intOf]; omega⟩
      · rw [show (gt ds k).b = k2 from hk2] at c3
        clear hk2 c2 c4
        go_wp2
        go_quiet ((go_at_call 101; exact Calls.quiet_of_same ((cV.out _).mono fun _ _ h => ⟨h.1, h.2.symm⟩)))
        go_wp2
        exact ⟨⟨k2, mq + nq, by omega, rfl, by rw [hW.out, World.drewN_drewN], hN2.out⟩, by simp [intOf]; omega⟩
      · rw [show (gt ds k).c = k2 from hk2] at c4
        clear hk2 c2 c3
        go_wp2
        go_quiet ((go_at_call 101; exact Calls.quiet_of_same ((cV.out _).mono fun _ _ h => ⟨h.1, h.2.symm⟩)))
        go_wp2
        exact ⟨⟨k2, mq + nq, by omega, rfl, by rw [hW.out, World.drewN_drewN], hN2.out⟩, by simp [intOf]; omega⟩
end Go.Proofs.Ytghkpmafocacoaa
