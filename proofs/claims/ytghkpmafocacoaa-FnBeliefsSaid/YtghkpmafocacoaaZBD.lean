/- Parts of the proof: MH, Ws, OpB. -/
import Derived.Test.YtghkpmafocacoaaZBC
import Derived.Test.YtghkpmafocacoaaZAB
import Derived.Test.YtghkpmafocacoaaZAC
import Derived.Test.YtghkpmafocacoaaZAA
namespace Go.Proofs.Ytghkpmafocacoaa
set_option maxRecDepth 100000
set_option linter.unusedVariables false
open Go.RowKit
theorem msgc0 (A : Option Addr) (n c : Nat) (Fs : List Fac) (g : Gr) : MsgC A n c Fs g 0 := fun u t w _ _ _ hd _ => by cases hd
theorem msgc3 {A : Option Addr} {n c : Nat} {Fs : List Fac} {g : Gr} (hl8 : listOk Fs = true) (hg : prG (prsL Fs) = some g) (hst : Fst Fs g) : MsgC A n c Fs g 3 := by
  have h1 := msg_of A n c Fs g 0 hl8 hst (all_of A n c Fs g 0 hl8 hg (msgc0 A n c Fs g))
  have h2 := msg_of A n c Fs g 1 hl8 hst (all_of A n c Fs g 1 hl8 hg h1)
  exact msg_of A n c Fs g 2 hl8 hst (all_of A n c Fs g 2 hl8 hg h2)
theorem allc3 {A : Option Addr} {n c : Nat} {Fs : List Fac} {g : Gr} (hl8 : listOk Fs = true) (hg : prG (prsL Fs) = some g) (hst : Fst Fs g) (v bt : Nat) (but : Int) (w : World) (hv : v ≤ 3) (hb : ∀ r : Nat, r ≤ 3 → ((r : Int) == but) = decide (r = bt)) (h : FLst w w.heap.size A n Fs) :
    Calls Try.prog 105 #[.slice A n c, .int .i64 (v : Int), .int .i64 but] w (R3d w fun x => IntKind.i64.wrap (allT Fs g v bt x)) :=
  all_of A n c Fs g 3 hl8 hg (msgc3 hl8 hg hst) v bt but w hv hb (fun r hr => by
    obtain ⟨h1, h2, _⟩ := nbs_mem hr
    have h3 := (prs_row g ⟨v, by omega⟩).2.2.2.2 ⟨r, by omega⟩
    simp only at h3
    exact dep_all g hst.acy ⟨r, by omega⟩ ⟨v, by omega⟩ (by rw [← h3]; exact h2)) h
set_option maxHeartbeats 1000000 in
theorem specBeliefOf_any (A : Option Addr) (n c : Nat) (Fs : List Fac) (v : Int) (w : World) (h : FLst w w.heap.size A n Fs) (hn : n ≤ maxLen) (hsm : smallF Fs) :
    Calls Try.prog 51 #[.slice A n c, .int .i64 v] w (Lbd w (belR Fs v) (treeOk Fs && inB v 0 3)) := by
  have cO := Lib.hid (fun wx hx => specTreeOk_any A n c Fs wx hx hn hsm)
  have cV := Lib.hid (fun wx => l1Var_any v wx)
  have hI := Lib.hid h
  have hl := h.1
  clear h
  go_enter Try.func51, Try.ntmps51
  go_wp2_with fail
  refine (cO.out w hI.out).mono ?_
  rintro e w1 ⟨rfl, hb1⟩
  have hB1 := Lib.hid hb1
  have hI1 := Lib.hid ((hI.out.below hb1).more hb1.size)
  clear hb1
  cases htt : treeOk Fs
  · have htth := Lib.hid htt
    clear htt
    go_wp2_with fail
    go_ret2
    rw [show belR Fs v = [] by unfold belR; rw [htth.out]; rfl, htth.out]
    exact ⟨_, rfl, IOwn.nil _ _, hB1.out⟩
  have h1 := (tree_parts htt).1
  have h8 : n ≤ 8 := by
    unfold listOk at h1
    rw [Bool.and_eq_true, decide_eq_true_eq] at h1
    omega
  have htth := Lib.hid htt
  cases hv : inB v 0 3
  · have hvh := Lib.hid hv
    rw [hv] at cV
    clear hv htt h1
    go_wp2_with (go_at_call 66; refine (cV.out _).mono ?_; rintro e w' ⟨rfl, rfl⟩)
    go_ret2
    rw [show belR Fs v = [] by unfold belR; rw [htth.out, hvh.out]; rfl, hvh.out, Bool.and_false]
    exact ⟨_, rfl, IOwn.nil _ _, hB1.out⟩
  · have hvb := inB_iff.1 hv
    obtain ⟨k, rfl, hk⟩ := nat4 hvb.1 hvb.2
    have hvh := Lib.hid hv
    rw [hv] at cV
    have hk3 : k ≤ 3 := by omega
    have cN := Lib.hid (fun wx hx => allc3 (A := A) (n := n) (c := c) h1 (tree_pr htt) (tree_fst htt).1 k 4 (-1) wx hk3 (fun r hr => by rw [Bool.eq_iff_iff, beq_iff_eq, decide_eq_true_eq]; omega) hx)
    have hR := Lib.hid (show belR Fs (k : Int) = row3 (fun x => IntKind.i64.wrap (allT Fs (gOf Fs) k 4 x)) by
      unfold belR
      rw [htt, hv]
      rfl)
    unfold R3d at cN
    clear hv htt h1 hvb
    go_wp2_with (first
      | (go_at_call 66; refine (cV.out _).mono ?_; rintro e w' ⟨rfl, rfl⟩)
      | (go_at_call 105; refine (cN.out _ hI1.out).mono ?_; rintro e w5 ⟨g5, c5, rfl, hv5, hb5⟩; have hB5 := Lib.hid (hB1.out.trans (hb5.mono hB1.out.size)); have hvo := Lib.hid (show IOwn w5 w.heap.size (.slice (some ⟨g5, 0, none⟩) 3 c5) (row3 fun x => IntKind.i64.wrap (allT Fs (gOf Fs) k 4 x)) from owns_le hv5 hB1.out.size); clear hb5 hv5))
    go_ret2
    rw [hR.out, htth.out, hvh.out]
    exact ⟨_, rfl, hvo.out, hB5.out⟩
end Go.Proofs.Ytghkpmafocacoaa

namespace Go.Proofs.Ytghkpmafocacoaa
set_option maxRecDepth 100000
set_option linter.unusedVariables false
open Go.RowKit
theorem wcSum_same (A : Option Addr) (n c : Nat) (ds : List Int) (w : World) (h : Ils w w.heap.size A n ds) (hn : n ≤ 1048576) (h0 : ∀ x ∈ ds, 0 ≤ x) (ht : isum ds ≤ 1000000000000000000) :
    Calls Try.prog 42 #[.slice A n c] w fun e w' => e = .returned (.int .i64 (isum ds)) ∧ w = w' := by
  have hI := Lib.hid h
  have hP := Lib.hid (isum_le h0)
  have hT := Lib.hid (show isum (ds.take n) = isum ds by rw [List.take_of_length_le (by rw [h.1]; exact Nat.le_refl _)])
  clear h h0
  go_enter Try.func42, Try.ntmps42
  go_wp2_with fail
  go_loopg [3, 8] n (fun gn o v wr => ∃ k : Nat, k ≤ n ∧ gn = n - k ∧ v = .int .i64 k ∧ o = .int .i64 (isum (ds.take k)) ∧ wr = w)
  case atStart => exact ⟨0, Nat.zero_le _, rfl, rfl, rfl, rfl⟩
  case round =>
    obtain ⟨k, hk, hgn, rfl, rfl, rfl⟩ := hrel
    have hgk : gk = n - k := hgn
    clear hgn
    by_cases hlt : k < n
    · obtain ⟨g, off, d, rfl, hg, hd, c0⟩ := hI.out.at_ hlt
      have h1 := (hP.out k)
      have h2 := (hP.out (k + 1))
      rw [isum_take hd] at h2
      have hR := Lib.hid (isum_take hd)
      have hw : IntKind.i64.wrap (isum (ds.take k) + d) = isum (ds.take k) + d := by rw [IntKind.wrap_i64]; omega
      have hk0 : (0 : Int) ≤ (k : Int) := by omega
      have hk1 : (k : Int) < (n : Int) := by omega
      clear hd
      go_wp2_with fail
      go_roundg (n - (k + 1))
      case measure => omega
      case rel => exact ⟨k + 1, by omega, rfl, by go_num, by rw [hR.out], rfl⟩
    · obtain rfl : k = n := by omega
      rw [hT.out]
      go_wp2_with fail
      go_ret
      exact ⟨rfl, rfl⟩
theorem wcSum_any (A : Option Addr) (n c : Nat) (ds : List Int) (w : World) (h : Ils w w.heap.size A n ds) (hn : n ≤ 1048576) (h0 : ∀ x ∈ ds, 0 ≤ x) (ht : isum ds ≤ 1000000000000000000) :
    Calls Try.prog 42 #[.slice A n c] w fun e w' => e = .returned (.int .i64 (isum ds)) ∧ Below w.heap.size w w' :=
  (wcSum_same A n c ds w h hn h0 ht).mono fun _ _ ⟨h1, h2⟩ => ⟨h1, h2 ▸ Below.refl _ _⟩
end Go.Proofs.Ytghkpmafocacoaa

namespace Go.Proofs.Ytghkpmafocacoaa
set_option maxRecDepth 100000
open Go.ChangeShapes Go.WideShapes Go.ChangeAt Go.RowKit Go.Deep
set_option maxRecDepth 100000 in
theorem open_bytes {H : Type} {enc : TypeId × Value → H} {w : World} {b0 : Nat} {r : Reach} {v : Value} {d : DataW H} {p : List MemPlace} (hv : Value.okWide Try.prog w r b0 43 v) (h : DataW.Trod enc Try.prog w 0 (fun _ => true) true 43 v d p) :
    ∃ (A : Option Addr) (n c : Nat), v = .slice A n c ∧ n ≤ c ∧ c ≤ maxLen ∧ Byt w w.heap.size A n := by
  obtain ⟨A, n, c, rfl⟩ := okWide_slice Try.underlying43 hv
  obtain ⟨fuel, hf⟩ := h
  rcases open_ints Try.underlying43 Try.underlying5 (by kernel_rfl) hf with ⟨hcs, _⟩ | ⟨x, l, c', zs, hcs, _, hl, hm, hz, _, hcell, hwz⟩
  · simp [Value.cells] at hcs
    obtain ⟨rfl, rfl, rfl⟩ := hcs
    exact ⟨none, 0, 0, rfl, Nat.le_refl _, by simp [maxLen], fun h => absurd h (by omega)⟩
  · simp [Value.cells] at hcs
    obtain ⟨rfl, rfl, rfl⟩ := hcs
    refine ⟨some x, n, c, rfl, hl, hm, fun hn => ?_⟩
    have hz' : zs.length = c := by simpa using hz
    obtain ⟨g, off, spot⟩ := x
    have h0 := hcell 0 (by omega)
    have hspot : spot = none := by simpa [Addr.add] using World.cell?_spot h0
    subst hspot
    have hlt := World.block_lt_of_cell? w _ h0
    refine ⟨g, off, rfl, by simpa [Addr.add] using hlt, fun i hi => ?_⟩
    have hi' : i < zs.length := by omega
    have hw := hwz (zs.getD i 0) (by rw [List.getD_eq_getElem?_getD, List.getElem?_eq_getElem hi']; exact List.getElem_mem hi')
    have hbd := bounds_u8 hw
    refine ⟨zs.getD i 0, ?_, hbd.1, hbd.2⟩
    rw [← hcell i hi']
    congr 1
    unfold Addr.add
    split
    · (rename_i h0; simp; try omega)
    · (simp; try omega)
end Go.Proofs.Ytghkpmafocacoaa
