/- Parts of the proof: MC, OpB, KP. -/
import Derived.BigQuiet
import Derived.Test.YtdpeaabdpolmoaaZAT
import Derived.Test.YtdpeaabdpolmoaaZAN
import Derived.Test.YtdpeaabdpolmoaaZAC
import Derived.Test.YtdpeaabdpolmoaaZAA
import Derived.Test.YtdpeaabdpolmoaaZAQ
import Derived.Test.YtdpeaabdpolmoaaZAE
namespace Go.Proofs.Ytdpeaabdpolmoaa
set_option maxRecDepth 100000
set_option linter.unusedVariables false
open Go.RowKit
theorem lens_take {Fs : List Fac} {k : Nat} {F : Fac} (h : Fs[k]? = some F) : (Fs.take (k + 1)).all lenOk = ((Fs.take k).all lenOk && lenOk F) := facs_take h
theorem tree_len {Fs : List Fac} (hl : listOk Fs = true) : treeOk Fs = (Fs.all lenOk && (prG (prsL Fs)).isSome) := by
  unfold treeOk
  rw [hl, Bool.true_and]
  cases hq : Fs.all lenOk
  · rw [Bool.false_and]
    have : grL Fs = none := grL_bad Fs _ hq
    rw [this]
    rfl
  · rw [grL_sets (list_nine hl) hq, Bool.true_and]
set_option maxHeartbeats 2000000 in
theorem specTreeOk_any (A : Option Addr) (n c : Nat) (Fs : List Fac) (w : World) (h : FLst w w.heap.size A n Fs) (hn : n ≤ maxLen) (hsm : smallF Fs) :
    Calls Try.prog 16 #[.slice A n c] w fun e w' => e = .returned (.bool (treeOk Fs)) ∧ Below w.heap.size w w' := by
  have cL := Lib.hid (fun wx hx => l8List_any A n c Fs wx hx hn hsm)
  have hI := Lib.hid h
  have hl := h.1
  have hn63 : n ≤ 9223372036854775807 := by unfold maxLen at hn; omega
  have cI := Lib.hid (fun (x : Int) wx => l1In_any x 1 2 wx)
  clear h hn
  go_enter Try.func16, Try.ntmps16
  go_wp2_with fail
  refine (cL.out w hI.out).mono ?_
  rintro e w1 ⟨rfl, hb1⟩
  have hB1 := Lib.hid hb1
  have hI1 := Lib.hid ((hI.out.below hb1).more hb1.size)
  clear hb1
  cases hlo : listOk Fs
  · have hR := Lib.hid (show treeOk Fs = false by unfold treeOk; rw [hlo]; rfl)
    clear hlo
    go_wp2_with fail
    go_ret
    exact ⟨ret_bool hR.out, hB1.out⟩
  have hRR := Lib.hid (tree_len hlo)
  have h8 : n ≤ 8 := by
    unfold listOk at hlo
    rw [Bool.and_eq_true, decide_eq_true_eq] at hlo
    omega
  have cT := Lib.hid (fun wx hx => l10Trees_any A n c Fs wx hx (by omega) (list_nine hlo))
  clear hlo
  go_wp2_with fail
  go_loopg [3] n (fun gn i wr => ∃ k : Nat, k ≤ n ∧ gn = n - k ∧ i = .int .i64 k ∧ (Fs.take k).all lenOk = true ∧ wr = w1)
  case atStart => exact ⟨0, Nat.zero_le _, rfl, rfl, rfl, rfl⟩
  case round =>
    obtain ⟨k, hk, hgn, rfl, hA, rfl⟩ := hrel
    have hgk : gk = n - k := hgn
    have hAh := Lib.hid hA
    clear hgn hA
    by_cases hlt : k < n
    · obtain ⟨gl, off, F, B1, m1, e1, B2, m2, e2, rfl, hgl, hFk, cl1, cl2, hFW⟩ := hI1.out.at_ hlt
      have hk0 : (0 : Int) ≤ (k : Int) := by omega
      have hk1 : (k : Int) < (n : Int) := by omega
      have hm1 := hFW.1.1
      have hlk := Lib.hid (show lenOk F = inB (m1 : Int) 1 2 by unfold lenOk; rw [hm1])
      have hnx := Lib.hid (lens_take hFk)
      have hFkh := Lib.hid hFk
      clear hFk hFW hm1
      cases hq : inB (m1 : Int) 1 2
      · have hno := Lib.hid (show treeOk Fs = false by rw [hRR.out, facs_no (f := lenOk) hFkh.out (by rw [hlk.out, hq])]; rfl)
        have cIk := Lib.hid (fun wx => cI.out (m1 : Int) wx)
        rw [hq] at cIk
        clear hq
        go_wp2_with (go_at_call 63; refine (cIk.out _).mono ?_; rintro e w' ⟨rfl, rfl⟩)
        go_ret
        exact ⟨ret_bool hno.out, hB1.out⟩
      · have hA2 := Lib.hid (show (Fs.take (k + 1)).all lenOk = true by rw [hnx.out, hAh.out, hlk.out, hq]; rfl)
        have cIk := Lib.hid (fun wx => cI.out (m1 : Int) wx)
        rw [hq] at cIk
        clear hq
        go_wp2_with (go_at_call 63; refine (cIk.out _).mono ?_; rintro e w' ⟨rfl, rfl⟩)
        go_roundg (n - (k + 1))
        case measure => omega
        case rel => exact ⟨k + 1, by omega, rfl, by go_num, hA2.out, rfl⟩
    · obtain rfl : k = n := by omega
      have hfull : Fs.take k = Fs := List.take_of_length_le (by omega)
      have hR := Lib.hid (show treeOk Fs = (prG (prsL Fs)).isSome by rw [hRR.out, ← hfull, hAh.out, Bool.true_and])
      clear hfull
      go_wp2_with fail
      refine (cT.out _ hI1.out).mono ?_
      rintro e w5 ⟨v, ds, rfl, _, _, hb5⟩
      have hB5 := Lib.hid (hB1.out.trans (hb5.mono hB1.out.size))
      clear hb5
      obtain ⟨bb, hbb⟩ : ∃ bb, (prG (prsL Fs)).isSome = bb := ⟨_, rfl⟩
      rw [hbb] at hR ⊢
      clear hbb
      go_wp2_with fail
      go_ret
      exact ⟨ret_bool hR.out, hB5.out⟩
theorem treesR_row {Fs : List Fac} {g : Gr} (h : treeOk Fs = true) (hg : prG (prsL Fs) = some g) : treesR Fs = row4 (fun u => (g.root u : Int)) := by
  obtain ⟨h1, h2⟩ := tree_parts h
  have h3 := tree_len h1
  rw [h] at h3
  have h4 : Fs.all lenOk = true := by
    cases hq : Fs.all lenOk
    · rw [hq] at h3; cases h3
    · rfl
  have h5 := grL_sets (list_nine h1) h4
  rw [h5, hg] at h2
  obtain rfl := Option.some.inj h2
  unfold treesR
  rw [h, if_pos rfl]
  rfl
theorem tree_pr {Fs : List Fac} (h : treeOk Fs = true) : prG (prsL Fs) = some (gOf Fs) := by
  obtain ⟨h1, h2⟩ := tree_parts h
  have h3 := tree_len h1
  rw [h] at h3
  have h4 : Fs.all lenOk = true := by
    cases hq : Fs.all lenOk
    · rw [hq] at h3; cases h3
    · rfl
  rw [← grL_sets (list_nine h1) h4]
  exact h2
set_option maxHeartbeats 1000000 in
theorem specTreesOf_any (A : Option Addr) (n c : Nat) (Fs : List Fac) (w : World) (h : FLst w w.heap.size A n Fs) (hn : n ≤ maxLen) (hsm : smallF Fs) :
    Calls Try.prog 32 #[.slice A n c] w (Lbd w (treesR Fs) (treeOk Fs)) := by
  have cO := Lib.hid (fun wx hx => specTreeOk_any A n c Fs wx hx hn hsm)
  have hI := Lib.hid h
  have hl := h.1
  clear h
  go_enter Try.func32, Try.ntmps32
  go_wp2_with fail
  refine (cO.out w hI.out).mono ?_
  rintro e w1 ⟨rfl, hb1⟩
  have hB1 := Lib.hid hb1
  have hI1 := Lib.hid ((hI.out.below hb1).more hb1.size)
  clear hb1
  cases htt : treeOk Fs
  · have hR := Lib.hid (show treesR Fs = [] by unfold treesR; rw [htt]; rfl)
    have htth := Lib.hid htt
    clear htt
    go_wp2_with fail
    go_ret2
    rw [hR.out, htth.out]
    exact ⟨_, rfl, IOwn.nil _ _, hB1.out⟩
  · have htth := Lib.hid htt
    have h1 := (tree_parts htt).1
    have h8 : n ≤ 8 := by
      unfold listOk at h1
      rw [Bool.and_eq_true, decide_eq_true_eq] at h1
      omega
    have cT := Lib.hid (fun wx hx => l10Trees_any A n c Fs wx hx (by omega) (list_nine h1))
    have hpr := Lib.hid (tree_pr htt)
    clear htt h1
    go_wp2_with fail
    refine (cT.out _ hI1.out).mono ?_
    rintro e w5 ⟨v, ds, rfl, hv, hds, hb5⟩
    have hB5 := Lib.hid (hB1.out.trans (hb5.mono hB1.out.size))
    have hvh := Lib.hid (owns_le hv hB1.out.size)
    have hds2 := Lib.hid (hds _ hpr.out)
    clear hb5 hv hds
    rw [hpr.out]
    go_wp2_with fail
    go_ret2
    rw [treesR_row htth.out hpr.out, ← hds2.out, htth.out]
    exact ⟨_, rfl, hvh.out, hB5.out⟩
end Go.Proofs.Ytdpeaabdpolmoaa

namespace Go.Proofs.Ytdpeaabdpolmoaa
set_option maxRecDepth 100000
open Go.ChangeShapes Go.WideShapes Go.ChangeAt Go.RowKit Go.Deep
set_option maxRecDepth 100000 in
theorem open_bytes {H : Type} {enc : TypeId × Value → H} {w : World} {b0 : Nat} {r : Reach} {v : Value} {d : DataW H} {p : List MemPlace} (hv : Value.okWide Try.prog w r b0 40 v) (h : DataW.Trod enc Try.prog w 0 (fun _ => true) true 40 v d p) :
    ∃ (A : Option Addr) (n c : Nat), v = .slice A n c ∧ n ≤ c ∧ c ≤ maxLen ∧ Byt w w.heap.size A n := by
  obtain ⟨A, n, c, rfl⟩ := okWide_slice Try.underlying40 hv
  obtain ⟨fuel, hf⟩ := h
  rcases open_ints Try.underlying40 Try.underlying5 (by kernel_rfl) hf with ⟨hcs, _⟩ | ⟨x, l, c', zs, hcs, _, hl, hm, hz, _, hcell, hwz⟩
  · simp [Value.cells] at hcs
    obtain ⟨rfl, rfl, rfl⟩ := hcs
    exact ⟨none, 0, 0, rfl, Nat.le_refl _, by simp [maxLen], fun h => absurd h (by omega)⟩
  · simp [Value.cells] at hcs
    obtain ⟨rfl, rfl, rfl⟩ := hcs
    refine ⟨some x, n, c, rfl, hl, hm, fun hn => ?_⟩
    have hz' : zs.length = c := by simpa using hz
    obtain ⟨g, off, spot⟩ := x
    have h0 := hcell 0 (by omega)
    have hspot : spot = none := by simpa [Addr.add] using World.cell?_spot h0
    subst hspot
    have hlt := World.block_lt_of_cell? w _ h0
    refine ⟨g, off, rfl, by simpa [Addr.add] using hlt, fun i hi => ?_⟩
    have hi' : i < zs.length := by omega
    have hw := hwz (zs.getD i 0) (by rw [List.getD_eq_getElem?_getD, List.getElem?_eq_getElem hi']; exact List.getElem_mem hi')
    have hbd := bounds_u8 hw
    refine ⟨zs.getD i 0, ?_, hbd.1, hbd.2⟩
    rw [← hcell i hi']
    congr 1
    unfold Addr.add
    split
    · (rename_i h0; simp; try omega)
    · (simp; try omega)
end Go.Proofs.Ytdpeaabdpolmoaa

namespace Go.Proofs.Ytdpeaabdpolmoaa
set_option maxRecDepth 100000
set_option linter.unusedVariables false
open Go.RowKit
theorem wcInts_eq (A A2 : Option Addr) (n n2 c c2 : Nat) (ds es : List Int) (w : World) (h : Ils w w.heap.size A n ds) (h2 : Ils w w.heap.size A2 n2 es) (hn : n ≤ maxLen) (hn2 : n2 ≤ maxLen) (he : ds = es) :
    Calls Try.prog 35 #[.slice A n c, .slice A2 n2 c2] w fun e w' => e = .returned (.bool true) ∧ Below w.heap.size w w' :=
  (wcInts_any A A2 n n2 c c2 ds es w h h2 hn hn2).mono fun e w' ⟨h1, q, h3⟩ => ⟨by rw [h1, decide_eq_true he], by rw [h3]; exact below_drewN (Below.refl _ _) q⟩
/-- A row of factors of the call's own whose numbers are elder ones. -/
def Bk (w : World) (b : Nat) (v : Value) (Fs : List Fac) (vs : List Value) : Prop :=
  w.ownsRow b 44 2 v Fs.length vs ∧ ∀ j F, Fs[j]? = some F → ∃ (A1 : Option Addr) (n1 c1 : Nat) (A2 : Option Addr) (n2 c2 : Nat), vs[j * 2]? = some (.slice A1 n1 c1) ∧ vs[j * 2 + 1]? = some (.slice A2 n2 c2) ∧ FacW w b A1 n1 A2 n2 F
theorem Bk.length {w : World} {b : Nat} {v : Value} {Fs : List Fac} {vs : List Value} (h : Bk w b v Fs vs) : vs.length = Fs.length * 2 := h.1.1
theorem Bk.form {w : World} {b : Nat} {v : Value} {Fs : List Fac} {vs : List Value} (h : Bk w b v Fs vs) : ∃ A c, v = .slice A Fs.length c ∧ Fs.length ≤ c ∧ c ≤ maxLen := by
  rcases h.1.2 with ⟨hv, hn⟩ | ⟨g, cap, cur, hv, _, _, h1, h2, _⟩
  · exact ⟨none, 0, by rw [hv, hn], by omega, by simp [maxLen]⟩
  · exact ⟨_, cap, hv, h1, h2⟩
theorem Bk.flst {w : World} {b n c : Nat} {A : Option Addr} {Fs : List Fac} {vs : List Value} (h : Bk w b (.slice A n c) Fs vs) (hn : Fs.length = n) (hb : b ≤ w.heap.size) : FLst w w.heap.size A n Fs := by
  refine ⟨hn, fun h0 => ?_⟩
  obtain ⟨g, hA⟩ : ∃ g, A = some ⟨g, 0, none⟩ := by
    rcases h.1.2 with ⟨hv, h9⟩ | ⟨g', cap, cur, hv, _⟩
    · injection hv; omega
    · injection hv with e1 _ _; exact ⟨g', e1⟩
  subst hA
  refine ⟨g, 0, rfl, (World.ownsRow.lt h.1 g rfl).2, fun k F hF => ?_⟩
  obtain ⟨A1, n1, c1, A2, n2, c2, h1, h2, h3⟩ := h.2 k F hF
  have e1 := World.ownsRow.cells h.1 (g := g) rfl _ _ h1
  have e2 := World.ownsRow.cells h.1 (g := g) rfl _ _ h2
  rw [cell_add] at e1 e2
  rw [Nat.zero_add]
  exact ⟨A1, n1, c1, A2, n2, c2, e1, e2, h3.more hb⟩
theorem Bk.append_ {w w' : World} {b m1 d1 m2 d2 : Nat} {D1 D2 : Option Addr} {v v' : Value} {Fs : List Fac} {vs : List Value} {F : Fac} (h : Bk w b v Fs vs) (hx : FacW w b D1 m1 D2 m2 F)
    (hN : w'.ownsRow b 44 2 v' (Fs.length + 1) (vs ++ [.slice D1 m1 d1, .slice D2 m2 d2])) (hb : Below b w w') : Bk w' b v' (Fs ++ [F]) (vs ++ [.slice D1 m1 d1, .slice D2 m2 d2]) := by
  refine ⟨by rw [List.length_append, List.length_singleton]; exact hN, fun j G hG => ?_⟩
  have hl := h.length
  by_cases hj : j < Fs.length
  · rw [List.getElem?_append_left hj] at hG
    obtain ⟨A1, n1, c1, A2, n2, c2, h1, h2, h3⟩ := h.2 j G hG
    exact ⟨A1, n1, c1, A2, n2, c2, by rw [List.getElem?_append_left (by omega)]; exact h1, by rw [List.getElem?_append_left (by omega)]; exact h2, h3.keep_ hb⟩
  · have hjl : j = Fs.length := by
      have := (List.getElem?_eq_some_iff.1 hG).1
      rw [List.length_append, List.length_singleton] at this
      omega
    subst hjl
    rw [List.getElem?_append_right (Nat.le_refl _), Nat.sub_self] at hG
    obtain rfl : F = G := by simpa using hG
    refine ⟨D1, m1, d1, D2, m2, d2, ?_, ?_, hx.keep_ hb⟩
    · rw [List.getElem?_append_right (by omega), hl, Nat.sub_self]; rfl
    · rw [List.getElem?_append_right (by omega), hl, Nat.add_sub_cancel_left]; rfl
theorem Bk.below {w w' : World} {b : Nat} {v : Value} {Fs : List Fac} {vs : List Value} (h : Bk w b v Fs vs) (hb : Below w.heap.size w w') (hbw : b ≤ w.heap.size) : Bk w' b v Fs vs :=
  ⟨owns_but h.1 (KeptBut.of_below hb (fun _ => False)) (fun _ _ e => e), fun j F hF => by
    obtain ⟨A1, n1, c1, A2, n2, c2, h1, h2, h3⟩ := h.2 j F hF
    exact ⟨A1, n1, c1, A2, n2, c2, h1, h2, h3.keep_ (hb.mono hbw)⟩⟩
end Go.Proofs.Ytdpeaabdpolmoaa
