/- The laws' helpers over lists of lists of numbers. -/
import Derived.Test.YtjokiminlplbcaaRws
namespace Go.Proofs.Ytjokiminlplbcaa
set_option maxRecDepth 100000
set_option linter.unusedVariables false
open Go.RowKit

theorem RowsV.at_ {w : World} {base : Nat} {A : Option Addr} {n c k : Nat} {rs : List (List Int)} {vs : List Value} (h : RowsV w base (.slice A n c) rs vs) (hn : rs.length = n) (hk : k < n) :
    ∃ (g : Nat) (Ax : Option Addr) (cx : Nat) (ds : List Int), A = some ⟨g, 0, none⟩ ∧ vs[k]? = some (.slice Ax ds.length cx) ∧ w.cell? ⟨g, k, none⟩ = some (.slice Ax ds.length cx) ∧ rs[k]? = some ds ∧ IOwn w base (.slice Ax ds.length cx) ds := by
  have hvl := h.length
  obtain ⟨x, hx⟩ : ∃ x, vs[k]? = some x := ⟨_, List.getElem?_eq_getElem (by omega)⟩
  obtain ⟨ds, hds, hxo⟩ := h.2 k x hx
  obtain ⟨Ax, cx, hvx, _, _⟩ := IOwn.form hxo
  subst hvx
  rcases h.1.2 with ⟨hv, hn0⟩ | ⟨g, cap, cur, hv, _⟩
  · omega
  · injection hv with e1 _ _
    subst e1
    refine ⟨g, Ax, cx, ds, rfl, hx, ?_, hds, hxo⟩
    rw [← World.ownsRow.cells h.1 (g := g) rfl k _ hx]
    congr 1
    unfold Addr.add
    split
    · (rename_i h0; simp at h0 ⊢; try omega)
    · (simp; try omega)

theorem eqIntSS_same (A A2 : Option Addr) (n c c2 base base2 : Nat) (rs : List (List Int)) (vs vs2 : List Value) (w : World) (h : RowsV w base (.slice A n c) rs vs) (h2 : RowsV w base2 (.slice A2 n c2) rs vs2) (hL : rs.length = n) (hn : n ≤ 1000000) (hr : ∀ ds ∈ rs, ds.length ≤ 1000000) :
    Calls Try.prog 42 #[.slice A n c, .slice A2 n c2] w fun e w' => e = .returned (.bool true) ∧ ∃ k, w' = w.drewN k := by
  have hH := Lib.hid h
  have hH2 := Lib.hid h2
  have hrr := Lib.hid hr
  clear h h2 hr
  go_enter Try.func42, Try.ntmps42
  go_wp2
  go_loopw [5] (fun i wr => ∃ k : Nat, k ≤ n ∧ i = .int .i64 k ∧ ∃ q, wr = w.drewN q) (fun i _ => n - (intOf i).toNat)
  case atStart => exact ⟨0, Nat.zero_le _, rfl, 0, rfl⟩
  case round =>
    obtain ⟨k, hk, rfl, q, hq⟩ := hrel
    have hW := Lib.hid (show RowsV wr base (.slice A n c) rs vs from by rw [hq]; exact hH.out)
    have hW2 := Lib.hid (show RowsV wr base2 (.slice A2 n c2) rs vs2 from by rw [hq]; exact hH2.out)
    have hQ := Lib.hid hq
    clear hq
    by_cases hlt : k < n
    · obtain ⟨g, Ax, cx, ds, rfl, _, c0, hd, ho⟩ := hW.out.at_ hL hlt
      obtain ⟨g2, Ay, cy, ds2, rfl, _, d0, hd2, ho2⟩ := hW2.out.at_ hL hlt
      obtain rfl : ds2 = ds := Option.some.inj (hd2.symm.trans hd)
      have hdl := hrr.out ds2 (List.mem_of_getElem? hd)
      have hk0 : (0 : Int) ≤ (k : Int) := Int.natCast_nonneg _
      have hk1 : (k : Int) < (n : Int) := by omega
      have cE := Lib.hid (show ∀ p : Nat, Calls Try.prog 47 #[.slice Ax ds2.length cx, .slice Ay ds2.length cy] (wr.drewN p) (fun e w' => e = .returned (.bool true) ∧ ∃ m, w' = (wr.drewN p).drewN m) from fun p => by
        have := eqIntS_any Ax Ay ds2.length ds2.length cx cy ds2 ds2 (wr.drewN p) (by exact ho.lst) (by exact ho2.lst) (by unfold maxLen; omega) (by unfold maxLen; omega)
        rwa [decide_eq_true (rfl : ds2 = ds2)] at this)
      clear ho ho2 hd hd2
      go_wp2
      go_quiet ((go_at_call 47; exact Calls.quiet_of (cE.out _)))
      go_wp2
      exact ⟨⟨k + 1, by omega, by go_num, q + nq, by rw [hQ.out, World.drewN_drewN]⟩, by simp [intOf]; omega⟩
    · go_wp2
      go_ret
      exact ⟨rfl, q, hQ.out⟩

theorem wcRows_same (A A2 : Option Addr) (n c c2 base base2 : Nat) (rs : List (List Int)) (vs vs2 : List Value) (w : World) (h : RowsV w base (.slice A n c) rs vs) (h2 : RowsV w base2 (.slice A2 n c2) rs vs2) (hL : rs.length = n) (hn : n ≤ 1000000) (hr : ∀ ds ∈ rs, ds.length ≤ 1000000) :
    Calls Try.prog 20 #[.slice A n c, .slice A2 n c2] w fun e w' => e = .returned (.bool true) ∧ ∃ k, w' = w.drewN k := by
  have hH := Lib.hid h
  have hH2 := Lib.hid h2
  have hrr := Lib.hid hr
  clear h h2 hr
  go_enter Try.func20, Try.ntmps20
  go_wp2
  go_loopw [13] (fun i wr => ∃ k : Nat, k ≤ n ∧ i = .int .i64 k ∧ ∃ q, wr = w.drewN q) (fun i _ => n - (intOf i).toNat)
  case atStart => exact ⟨0, Nat.zero_le _, rfl, 0, rfl⟩
  case round =>
    obtain ⟨k, hk, rfl, q, hq⟩ := hrel
    have hW := Lib.hid (show RowsV wr base (.slice A n c) rs vs from by rw [hq]; exact hH.out)
    have hW2 := Lib.hid (show RowsV wr base2 (.slice A2 n c2) rs vs2 from by rw [hq]; exact hH2.out)
    have hQ := Lib.hid hq
    clear hq
    by_cases hlt : k < n
    · obtain ⟨g, Ax, cx, ds, rfl, _, c0, hd, ho⟩ := hW.out.at_ hL hlt
      obtain ⟨g2, Ay, cy, ds2, rfl, _, d0, hd2, ho2⟩ := hW2.out.at_ hL hlt
      obtain rfl : ds2 = ds := Option.some.inj (hd2.symm.trans hd)
      have hdl := hrr.out ds2 (List.mem_of_getElem? hd)
      have hk0 : (0 : Int) ≤ (k : Int) := Int.natCast_nonneg _
      have hk1 : (k : Int) < (n : Int) := by omega
      have cE := Lib.hid (show ∀ p : Nat, Calls Try.prog 21 #[.slice Ax ds2.length cx, .slice Ay ds2.length cy] (wr.drewN p) (fun e w' => e = .returned (.bool true) ∧ ∃ m, w' = (wr.drewN p).drewN m) from fun p => by
        have := wcInts_any Ax Ay ds2.length ds2.length cx cy ds2 ds2 (wr.drewN p) (by exact ho.lst) (by exact ho2.lst) (by unfold maxLen; omega) (by unfold maxLen; omega)
        rwa [decide_eq_true (rfl : ds2 = ds2)] at this)
      clear ho ho2 hd hd2
      go_wp2
      go_quiet ((go_at_call 21; exact Calls.quiet_of (cE.out _)))
      go_wp2
      exact ⟨⟨k + 1, by omega, by go_num, q + nq, by rw [hQ.out, World.drewN_drewN]⟩, by simp [intOf]; omega⟩
    · go_wp2
      go_ret
      exact ⟨rfl, q, hQ.out⟩

end Go.Proofs.Ytjokiminlplbcaa
