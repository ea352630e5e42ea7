/- Parts of the proof: MH, OpB. -/
import Derived.Test.YtghkpmafocacoaaZAY
import Derived.Test.YtghkpmafocacoaaZAC
import Derived.Test.YtghkpmafocacoaaZAA
namespace Go.Proofs.Ytghkpmafocacoaa
set_option maxRecDepth 100000
set_option linter.unusedVariables false
open Go.RowKit
theorem msgc0 (A : Option Addr) (n c : Nat) (Fs : List Fac) (g : Gr) : MsgC A n c Fs g 0 := fun u t w _ _ _ hd _ => by cases hd
theorem msgc3 {A : Option Addr} {n c : Nat} {Fs : List Fac} {g : Gr} (hl8 : listOk Fs = true) (hg : prG (prsL Fs) = some g) (hst : Fst Fs g) : MsgC A n c Fs g 3 := by
  have h1 := msg_of A n c Fs g 0 hl8 hst (all_of A n c Fs g 0 hl8 hg (msgc0 A n c Fs g))
  have h2 := msg_of A n c Fs g 1 hl8 hst (all_of A n c Fs g 1 hl8 hg h1)
  exact msg_of A n c Fs g 2 hl8 hst (all_of A n c Fs g 2 hl8 hg h2)
theorem mem_over (L : Fin 16) (t : Int) : decide (t ∈ over (L.val : Int)) = (tb (L.val : Int) t.toNat && inB t 0 3) := by
  by_cases hv : inB t 0 3 = true
  · have hb := inB_iff.1 hv
    obtain ⟨l, rfl, hl⟩ := nat4 hb.1 hb.2
    rw [hv, Bool.and_true, Int.toNat_natCast, Bool.eq_iff_iff, decide_eq_true_eq]
    exact over_mem L ⟨l, by omega⟩
  · have h0 : ¬ t ∈ over (L.val : Int) := fun q => by
      have hall : ∀ L : Fin 16, ∀ v ∈ over (L.val : Int), 0 ≤ v ∧ v ≤ 3 := by decide +kernel
      exact hv (inB_iff.2 (hall L t q))
    rw [decide_eq_false h0]
    rw [Bool.not_eq_true] at hv
    rw [hv, Bool.and_false]
set_option maxHeartbeats 1000000 in
theorem specMessageOf_any (A : Option Addr) (n c : Nat) (Fs : List Fac) (v t : Int) (w : World) (h : FLst w w.heap.size A n Fs) (hn : n ≤ maxLen) (hsm : smallF Fs) :
    Calls Try.prog 45 #[.slice A n c, .int .i64 v, .int .i64 t] w (Lbd w (msgR Fs v t) (okM Fs v t)) := by
  have cO := Lib.hid (fun wx hx => specTreeOk_any A n c Fs wx hx hn hsm)
  have cV := Lib.hid (fun wx => l1Var_any v wx)
  have hI := Lib.hid h
  have hl := h.1
  clear h
  go_enter Try.func45, Try.ntmps45
  go_wp2_with fail
  refine (cO.out w hI.out).mono ?_
  rintro e w1 ⟨rfl, hb1⟩
  have hB1 := Lib.hid hb1
  have hI1 := Lib.hid ((hI.out.below hb1).more hb1.size)
  clear hb1
  cases htt : treeOk Fs
  · have htth := Lib.hid htt
    clear htt
    go_wp2_with fail
    go_ret2
    have hok : okM Fs v t = false := by unfold okM; rw [htth.out]; rfl
    rw [show msgR Fs v t = [] by unfold msgR; rw [hok]; rfl, hok]
    exact ⟨_, rfl, IOwn.nil _ _, hB1.out⟩
  have h1 := (tree_parts htt).1
  have h8 : n ≤ 8 := by
    unfold listOk at h1
    rw [Bool.and_eq_true, decide_eq_true_eq] at h1
    omega
  have htth := Lib.hid htt
  cases hv : inB v 0 3
  · have hvh := Lib.hid hv
    rw [hv] at cV
    clear hv htt h1
    go_wp2_with (go_at_call 66; refine (cV.out _).mono ?_; rintro e w' ⟨rfl, rfl⟩)
    go_ret2
    have hok : okM Fs v t = false := by unfold okM nxI; rw [hvh.out, if_neg (by decide)]; rw [show tb 0 t.toNat = false by unfold tb; exact Nat.zero_testBit _]; simp
    rw [show msgR Fs v t = [] by unfold msgR; rw [hok]; rfl, hok]
    exact ⟨_, rfl, IOwn.nil _ _, hB1.out⟩
  · have hvb := inB_iff.1 hv
    obtain ⟨k, rfl, hk⟩ := nat4 hvb.1 hvb.2
    have hvh := Lib.hid hv
    rw [hv] at cV
    have hk3 : k ≤ 3 := by omega
    have hnx16 := (prs_row (gOf Fs) ⟨k, by omega⟩).2.2.1
    simp only at hnx16
    have hnS : nxS (prsL Fs) k = ((gOf Fs).nx k : Int) := by
      have h2 := nxS_eq (prsL_PrS (list_nine h1)) (prsL Fs).length (g := gOf Fs) (by rw [List.take_of_length_le (Nat.le_refl _)]; exact tree_pr htt) k hk3
      rwa [List.take_of_length_le (Nat.le_refl _)] at h2
    have cN := Lib.hid (fun wx hx => l10Next_any A n c Fs k wx hx (by omega) (list_nine h1) hk3)
    rw [hnS] at cN
    have hlo : (over ((gOf Fs).nx k : Int)).length ≤ 4 := (over_ok ⟨(gOf Fs).nx k, hnx16⟩).2.2
    have hokE := Lib.hid (show okM Fs (k : Int) t = decide (t ∈ over ((gOf Fs).nx k : Int)) by
      unfold okM nxI
      rw [htt, hv, if_pos rfl, Bool.true_and, Int.toNat_natCast]
      exact (mem_over ⟨(gOf Fs).nx k, hnx16⟩ t).symm)
    cases hb : decide (t ∈ over ((gOf Fs).nx k : Int))
    · have hok := Lib.hid (show okM Fs (k : Int) t = false by rw [hokE.out, hb])
      have cH := Lib.hid (fun A2 c2 wx hx => l8Has_any A2 (over ((gOf Fs).nx k : Int)).length c2 (over ((gOf Fs).nx k : Int)) t wx hx (by unfold maxLen; omega))
      rw [hb] at cH
      generalize over ((gOf Fs).nx k : Int) = os at *
      clear hv htt h1 hvb hb hnS
      go_wp2_with (first
        | (go_at_call 66; refine (cV.out _).mono ?_; rintro e w' ⟨rfl, rfl⟩)
        | (go_at_call 95; refine (cN.out _ hI1.out).mono ?_; rintro e w5 ⟨v5, rfl, hv5, hb5⟩; have hB5 := Lib.hid (hB1.out.trans (hb5.mono hB1.out.size)); obtain ⟨A5, c5, hf5, _, _⟩ := IOwn.form hv5; subst hf5; have hl5 := Lib.hid (IOwn.lst hv5); clear hb5 hv5)
        | (go_at_call 94; refine (cH.out _ _ _ hl5.out).mono ?_; rintro e w' ⟨rfl, rfl⟩))
      go_ret2
      rw [show msgR Fs (k : Int) t = [] by unfold msgR; rw [hok.out]; rfl, hok.out]
      exact ⟨_, rfl, IOwn.nil _ _, hB5.out⟩
    · have hok := Lib.hid (show okM Fs (k : Int) t = true by rw [hokE.out, hb])
      have hmo := mem_over ⟨(gOf Fs).nx k, hnx16⟩ t
      simp only at hmo
      rw [hb, eq_comm, Bool.and_eq_true] at hmo
      have htb := inB_iff.1 hmo.2
      obtain ⟨l, rfl, hl3⟩ := nat4 htb.1 htb.2
      have hed : ((gOf Fs).nx k).testBit l = true := by
        have := hmo.1
        rw [Int.toNat_natCast] at this
        exact this
      have cH := Lib.hid (fun A2 c2 wx hx => l8Has_any A2 (over ((gOf Fs).nx k : Int)).length c2 (over ((gOf Fs).nx k : Int)) (l : Int) wx hx (by unfold maxLen; omega))
      rw [hb] at cH
      have cM := Lib.hid (fun wx hx => msgc3 (A := A) (n := n) (c := c) h1 (tree_pr htt) (tree_fst htt).1 k l wx hk3 (by omega) hed (dep_all (gOf Fs) (tree_fst htt).1.acy ⟨k, by omega⟩ ⟨l, by omega⟩ hed) hx)
      unfold R3d at cM
      have hR := Lib.hid (show msgR Fs (k : Int) (l : Int) = row3 (fun y => IntKind.i64.wrap (msgT Fs (gOf Fs) k l y)) by
        unfold msgR
        rw [hok.out, if_pos rfl]
        rfl)
      generalize over ((gOf Fs).nx k : Int) = os at *
      have hI1b := Lib.hid (fun wx (hx : Below w.heap.size w wx) => (hI.out.below hx).more hx.size)
      clear hv htt h1 hvb hb hnS hmo htb hed
      go_wp2_with (first
        | (go_at_call 66; refine (cV.out _).mono ?_; rintro e w' ⟨rfl, rfl⟩)
        | (go_at_call 95; refine (cN.out _ hI1.out).mono ?_; rintro e w5 ⟨v5, rfl, hv5, hb5⟩; have hB5 := Lib.hid (hB1.out.trans (hb5.mono hB1.out.size)); obtain ⟨A5, c5, hf5, _, _⟩ := IOwn.form hv5; subst hf5; have hl5 := Lib.hid (IOwn.lst hv5); clear hb5 hv5)
        | (go_at_call 94; refine (cH.out _ _ _ hl5.out).mono ?_; rintro e w' ⟨rfl, rfl⟩)
        | (go_at_call 96; refine (cM.out _ (hI1b.out _ hB5.out)).mono ?_; rintro e w6 ⟨g6, c6, rfl, hv6, hb6⟩; have hB6 := Lib.hid (hB5.out.trans (hb6.mono hB5.out.size)); have hvo := Lib.hid (show IOwn w6 w.heap.size (.slice (some ⟨g6, 0, none⟩) 3 c6) (row3 fun y => IntKind.i64.wrap (msgT Fs (gOf Fs) k l y)) from owns_le hv6 hB5.out.size); clear hb6 hv6))
      go_ret2
      rw [hR.out, hok.out]
      exact ⟨_, rfl, hvo.out, hB6.out⟩
end Go.Proofs.Ytghkpmafocacoaa

namespace Go.Proofs.Ytghkpmafocacoaa
set_option maxRecDepth 100000
open Go.ChangeShapes Go.WideShapes Go.ChangeAt Go.RowKit Go.Deep
set_option maxRecDepth 100000 in
theorem open_bytes {H : Type} {enc : TypeId × Value → H} {w : World} {b0 : Nat} {r : Reach} {v : Value} {d : DataW H} {p : List MemPlace} (hv : Value.okWide Try.prog w r b0 43 v) (h : DataW.Trod enc Try.prog w 0 (fun _ => true) true 43 v d p) :
    ∃ (A : Option Addr) (n c : Nat), v = .slice A n c ∧ n ≤ c ∧ c ≤ maxLen ∧ Byt w w.heap.size A n := by
  obtain ⟨A, n, c, rfl⟩ := okWide_slice Try.underlying43 hv
  obtain ⟨fuel, hf⟩ := h
  rcases open_ints Try.underlying43 Try.underlying5 (by kernel_rfl) hf with ⟨hcs, _⟩ | ⟨x, l, c', zs, hcs, _, hl, hm, hz, _, hcell, hwz⟩
  · simp [Value.cells] at hcs
    obtain ⟨rfl, rfl, rfl⟩ := hcs
    exact ⟨none, 0, 0, rfl, Nat.le_refl _, by simp [maxLen], fun h => absurd h (by omega)⟩
  · simp [Value.cells] at hcs
    obtain ⟨rfl, rfl, rfl⟩ := hcs
    refine ⟨some x, n, c, rfl, hl, hm, fun hn => ?_⟩
    have hz' : zs.length = c := by simpa using hz
    obtain ⟨g, off, spot⟩ := x
    have h0 := hcell 0 (by omega)
    have hspot : spot = none := by simpa [Addr.add] using World.cell?_spot h0
    subst hspot
    have hlt := World.block_lt_of_cell? w _ h0
    refine ⟨g, off, rfl, by simpa [Addr.add] using hlt, fun i hi => ?_⟩
    have hi' : i < zs.length := by omega
    have hw := hwz (zs.getD i 0) (by rw [List.getD_eq_getElem?_getD, List.getElem?_eq_getElem hi']; exact List.getElem_mem hi')
    have hbd := bounds_u8 hw
    refine ⟨zs.getD i 0, ?_, hbd.1, hbd.2⟩
    rw [← hcell i hi']
    congr 1
    unfold Addr.add
    split
    · (rename_i h0; simp; try omega)
    · (simp; try omega)
end Go.Proofs.Ytghkpmafocacoaa
