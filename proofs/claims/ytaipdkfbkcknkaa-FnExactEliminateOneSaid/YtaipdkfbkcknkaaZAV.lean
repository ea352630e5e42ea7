/- Parts of the proof: K6, K9, KJ. -/
import Derived.Test.YtaipdkfbkcknkaaZAK
import Derived.BigQuiet
import Derived.Test.YtaipdkfbkcknkaaZAT
import Derived.Test.YtaipdkfbkcknkaaZAE
import Derived.Test.YtaipdkfbkcknkaaZAU
import Derived.Test.YtaipdkfbkcknkaaZAJ
namespace Go.Proofs.Ytaipdkfbkcknkaa
set_option maxRecDepth 100000
set_option linter.unusedVariables false
open Go.RowKit
theorem list_fine {Fs : List Fac} (h : listOk Fs = true) : Fs.length ≤ 8 ∧ (∀ F ∈ Fs, facOk 9 F = true) ∧ Fine Fs := by
  obtain ⟨h1, h2⟩ := list_parts h
  exact ⟨h1, h2, fun F hF => mB_ok (h2 F hF)⟩
end Go.Proofs.Ytaipdkfbkcknkaa

namespace Go.Proofs.Ytaipdkfbkcknkaa
set_option maxRecDepth 100000
set_option linter.unusedVariables false
open Go.RowKit
def FLst0 (w : World) (B : Nat) (A : Option Addr) (n : Nat) (Fs : List Fac) : Prop := FLst w B A n Fs ∧ Nilf w A n
theorem RowsF.flst0 {w : World} {base : Nat} {A : Option Addr} {n c : Nat} {Fs : List Fac} {vs : List Value} (h : RowsF w base (.slice A n c) Fs vs) (hn : Fs.length = n) : FLst0 w w.heap.size A n Fs := ⟨h.flst hn, h.nilf hn⟩
theorem FLst0.below {w w' : World} {B n : Nat} {A : Option Addr} {Fs : List Fac} (h : FLst0 w B A n Fs) (hb : Below B w w') : FLst0 w' B A n Fs := ⟨h.1.below hb, h.2.below h.1 hb⟩
theorem FLst0.more {w : World} {B B' n : Nat} {A : Option Addr} {Fs : List Fac} (h : FLst0 w B A n Fs) (hb : B ≤ B') : FLst0 w B' A n Fs := ⟨h.1.more hb, h.2⟩
theorem pow_bd {Fs : List Fac} (h8 : Fs.length ≤ 8) (hf : ∀ F ∈ Fs, facOk 9 F = true) {k : Nat} (hk : k ≤ 4) : (3 : Int) ^ k * pb Fs ≤ 10000000000 := by
  have h1 := pb_nine hf
  have g9 : ∀ k : Fin 9, (9 : Int) ^ k.val ≤ 9 ^ 8 := by decide +kernel
  have g3 : ∀ k : Fin 5, (3 : Int) ^ k.val ≤ 3 ^ 4 := by decide +kernel
  have h2 : (9 : Int) ^ Fs.length ≤ 9 ^ 8 := g9 ⟨Fs.length, by omega⟩
  have h3 : (3 : Int) ^ k ≤ 3 ^ 4 := g3 ⟨k, by omega⟩
  have h4 := Int.mul_le_mul h3 (Int.le_trans h1 h2) (by have := pb_pos Fs; omega) (by decide)
  have h5 : (3 : Int) ^ 4 * 9 ^ 8 ≤ 10000000000 := by decide
  omega
end Go.Proofs.Ytaipdkfbkcknkaa

namespace Go.Proofs.Ytaipdkfbkcknkaa
set_option maxRecDepth 100000
set_option linter.unusedVariables false
open Go.RowKit
def oneOkV (Fs : List Fac) (v : Int) : Bool := listOk Fs && inB v 0 3
def oneTo (Fs : List Fac) (v : Int) : List Fac := if oneOkV Fs v = true then elim1 Fs v else []
set_option maxHeartbeats 2000000 in
theorem EliminateOne_any (A : Option Addr) (n c : Nat) (Fs : List Fac) (v : Int) (w : World) (h : FLst w w.heap.size A n Fs) (hn : n ≤ maxLen) (hsm : smallF Fs) :
    Calls Try.prog 22 #[.slice A n c, .int .i64 v] w (Fgd w (oneTo Fs v) (oneOkV Fs v)) := by
  have hI := Lib.hid h
  have hl := h.1
  have cK := Lib.hid (factorsOk_any A n c Fs w h hn hsm)
  have cV := Lib.hid (fun wx => varOk_any v wx)
  clear h hn hsm
  cases hk : listOk Fs
  · have hT : oneTo Fs v = [] := by unfold oneTo oneOkV; rw [hk]; rfl
    have hO : oneOkV Fs v = false := by unfold oneOkV; rw [hk]; rfl
    rw [hT, hO]
    rw [hk] at cK
    clear hk hT hO
    go_enter Try.func22, Try.ntmps22
    go_wp2_with fail
    refine cK.out.mono ?_
    rintro e w1 ⟨rfl, hb⟩
    go_wp2_with fail
    go_ret2
    exact ⟨_, [], rfl, RowsF.nil _ _, Apart.nil, hb⟩
  · rw [hk] at cK
    cases hin : inB v 0 3
    · have hT : oneTo Fs v = [] := by unfold oneTo oneOkV; rw [hin, hk]; rfl
      have hO : oneOkV Fs v = false := by unfold oneOkV; rw [hin, hk]; rfl
      rw [hT, hO]
      rw [hin] at cV
      clear hk hin hT hO
      go_enter Try.func22, Try.ntmps22
      go_wp2_with fail
      refine cK.out.mono ?_
      rintro e w1 ⟨rfl, hb⟩
      go_wp2_with fail
      refine (cV.out _).mono ?_
      rintro e w' ⟨rfl, rfl⟩
      go_wp2_with fail
      go_ret2
      exact ⟨_, [], rfl, RowsF.nil _ _, Apart.nil, hb⟩
    · have hT : oneTo Fs v = elim1 Fs v := by unfold oneTo oneOkV; rw [hin, hk]; rfl
      have hO : oneOkV Fs v = true := by unfold oneOkV; rw [hin, hk]; rfl
      rw [hT, hO]
      rw [hin] at cV
      obtain ⟨V, rfl, hVt⟩ := nat_three (inB_iff.1 hin)
      clear hVt
      obtain ⟨h8, hf, hfine⟩ := list_fine hk
      have hp0 := pow_bd h8 hf (k := 0) (by decide)
      have hpK : pb Fs ≤ 10000000000 := by simpa using hp0
      have cS := Lib.hid (fun wx hx => stridedOf_any A n c Fs wx hx (by omega) hf)
      have cE := Lib.hid (fun (A' : Option Addr) (c' base ob : Nat) (us : List Value) wx hx ha hb => eliminated_any A' n c' base ob Fs us V wx hx hl (by omega) hfine hpK ha hb)
      have hElen := elim1_len Fs (V.val : Int)
      have hEl : (elim1 Fs (V.val : Int)).length ≤ 9 := by omega
      obtain ⟨j0, hj0, hj1, hj2, hj3⟩ := info_parts info_fac
      have hlh := Lib.hid hl
      generalize elim1 Fs (V.val : Int) = Es at *
      clear hk hin hT hO hf hfine hp0 hpK hElen hl
      go_enter Try.func22, Try.ntmps22
      go_wp2_with fail
      refine cK.out.mono ?_
      rintro e w1 ⟨rfl, hb⟩
      have hb1 := Lib.hid hb
      have hI1 := Lib.hid ((hI.out.below hb).more hb.size)
      clear hb
      go_wp2_with fail
      refine (cV.out _).mono ?_
      rintro e w' ⟨rfl, rfl⟩
      go_wp2_with fail
      refine (cS.out _ hI1.out).mono ?_
      rintro e w2 ⟨v2, us2, rfl, hR2, hA2, hb2⟩
      obtain ⟨A2s, c2s, rfl, _, _⟩ := hR2.form
      rw [hlh.out] at hR2 ⊢
      have hB2 := Lib.hid (hb1.out.trans (hb2.mono hb1.out.size))
      have cEk := Lib.hid (cE.out A2s c2s _ _ us2 w2 hR2 hA2 hb2.size)
      have hz2 := Lib.hid hb2.size
      clear hR2 hA2 hb2
      go_wp2_with fail
      refine cEk.out.mono ?_
      rintro e w3 ⟨v3, us, rfl, hR3, hA3, hb3⟩
      obtain ⟨A3, c3, rfl, _, _⟩ := hR3.form
      obtain ⟨m, hm⟩ : ∃ m, Es.length = m := ⟨_, rfl⟩
      rw [hm] at hR3 hEl ⊢
      have hB3 := Lib.hid (hB2.out.trans (hb3.mono hB2.out.size))
      have kR := Lib.hid hR3
      have kA := Lib.hid hA3
      have hmh := Lib.hid hm
      have hw13 := Lib.hid (show w.heap.size ≤ w1.heap.size ∧ w1.heap.size ≤ w3.heap.size from ⟨hb1.out.size, Nat.le_trans hz2.out hb3.size⟩)
      clear hR3 hA3 hb3 hm
      go_wp2_with fail
      go_loopg [6, 22] m (fun gq l x wr => ∃ k : Nat, k ≤ m ∧ gq = m - k ∧ x = .int .i64 k ∧ wr.ownsRow w3.heap.size 36 2 l k (us.take (k * 2)) ∧ Below w3.heap.size w3 wr)
      case atStart => exact ⟨0, Nat.zero_le _, rfl, rfl, World.ownsRow_nil _ _ _ _, Below.refl _ _⟩
      case round =>
        obtain ⟨k, hkm, hgn, rfl, hO, hB⟩ := hrel
        have hgk : gk = m - k := hgn
        obtain ⟨Al, cl, rfl, _, _⟩ := owns_form hO
        have kO := Lib.hid hO
        have kB := Lib.hid hB
        clear hgn hO
        by_cases hlt : k < m
        · have hk0 : (0 : Int) ≤ (k : Int) := by omega
          have hk1 : (k : Int) < (m : Int) := by omega
          obtain ⟨F, hFk⟩ : ∃ F, Es[k]? = some F := ⟨_, List.getElem?_eq_getElem (by have := hmh.out; omega)⟩
          obtain ⟨g, A1, c1, A2, c2, rfl, hg, hu1, hu2, hcl, _, _⟩ := (kR.out.below hB).at_ hmh.out hFk
          have htw := Lib.hid (take_two hu1 hu2)
          have cl0 : wr.cell? ⟨g, k * 6, none⟩ = some (.slice A1 F.vs.length c1) := hcl 0 (by decide)
          have cl1 : wr.cell? ⟨g, k * 6 + 1, none⟩ = some (.slice A2 F.ns.length c2) := hcl 1 (by decide)
          have cl2 : wr.cell? ⟨g, k * 6 + 2, none⟩ = some (.int .i64 (strL (setOf F.vs) 0)) := hcl 2 (by decide)
          have cl3 : wr.cell? ⟨g, k * 6 + 3, none⟩ = some (.int .i64 (strL (setOf F.vs) 1)) := hcl 3 (by decide)
          have cl4 : wr.cell? ⟨g, k * 6 + 4, none⟩ = some (.int .i64 (strL (setOf F.vs) 2)) := hcl 4 (by decide)
          have cl5 : wr.cell? ⟨g, k * 6 + 5, none⟩ = some (.int .i64 (strL (setOf F.vs) 3)) := hcl 5 (by decide)
          have hal : Below wr.heap.size wr ((wr.alloc (.cells #[.slice A1 F.vs.length c1, .slice A2 F.ns.length c2, .int .i64 (strL (setOf F.vs) 0), .int .i64 (strL (setOf F.vs) 1), .int .i64 (strL (setOf F.vs) 2), .int .i64 (strL (setOf F.vs) 3)] 79)).alloc (.cells #[.slice A1 F.vs.length c1, .slice A2 F.ns.length c2] 36)) := ((Below.refl _ _).alloc (Nat.le_refl _) _).alloc (by simp) _
          have hO5 := Lib.hid (show ((wr.alloc (.cells #[.slice A1 F.vs.length c1, .slice A2 F.ns.length c2, .int .i64 (strL (setOf F.vs) 0), .int .i64 (strL (setOf F.vs) 1), .int .i64 (strL (setOf F.vs) 2), .int .i64 (strL (setOf F.vs) 3)] 79)).alloc (.cells #[.slice A1 F.vs.length c1, .slice A2 F.ns.length c2] 36)).ownsRow w3.heap.size 36 2 (.slice Al k cl) k (us.take (k * 2)) from owns_but kO.out (KeptBut.of_below hal (fun _ => False)) (fun _ _ e => e))
          have hnw := Lib.hid (World.news_of_block (Has.newAt (w := (wr.alloc (.cells #[.slice A1 F.vs.length c1, .slice A2 F.ns.length c2, .int .i64 (strL (setOf F.vs) 0), .int .i64 (strL (setOf F.vs) 1), .int .i64 (strL (setOf F.vs) 2), .int .i64 (strL (setOf F.vs) 3)] 79))) (n := wr.heap.size + 1) (t := 36) (cs := #[.slice A1 F.vs.length c1, .slice A2 F.ns.length c2]) (by simp)))
          have hB5 := Lib.hid (hB.trans (hal.mono hB.size))
          have hsz5 := Lib.hid hB5.out.size
          clear hal hcl hu1 hu2 hFk hB
          go_wp2_with (at_builtin; refine wpList_append_lies _ rfl (.tmp 26) (.tmp 29) 28 rfl w3.heap.size 36 j0 _ 2 48 Try.underlying28 hj0 hj1 hj2 hj3 rfl (by decide) (.slice Al k cl) k _ rfl (by exact hO5.out) ⟨wr.heap.size + 1, 0, none⟩ 1 1 [.slice A1 F.vs.length c1, .slice A2 F.ns.length c2] rfl rfl (by exact hnw.out) (by simp [Value.oneCell']) (by omega) (by unfold maxLen; omega) (by omega) (by exact hsz5.out) (wr.heap.size + 1 + 1) (by simp) ?_; intro gr cr2 w6 hown6 hgrow6 hat6 hlt6)
          have nO := Lib.hid (show w6.ownsRow w3.heap.size 36 2 (.slice (some ⟨gr, 0, none⟩) (k + 1) cr2) (k + 1) (us.take ((k + 1) * 2)) from by rw [htw.out]; exact hown6)
          have nB := Lib.hid (hB5.out.grown hgrow6 hB5.out.size (fun b e => (World.ownsRow.lt hO5.out b e).1))
          clear hown6 hgrow6 hat6
          go_wp2_with fail
          go_roundg (m - (k + 1))
          case measure => omega
          case rel => exact ⟨k + 1, by omega, rfl, by go_num, nO.out, nB.out⟩
        · obtain rfl : k = m := by omega
          have hul := kR.out.2.1
          have hF := Lib.hid (show RowsF wr w.heap.size (.slice Al k cl) Es us from by
            refine ⟨?_, fun i x hx => ?_⟩
            · have h9 := owns_le kO.out (show w.heap.size ≤ w3.heap.size from Nat.le_trans hw13.out.1 hw13.out.2)
              rw [hmh.out]
              rwa [List.take_of_length_le (by rw [hul, hmh.out]; exact Nat.le_refl _)] at h9
            · obtain ⟨ds, q1, q2⟩ := (kR.out.2.below hB).2 i x hx
              exact ⟨ds, q1, owns_le q2 hw13.out.1⟩)
          have hBn := Lib.hid (hB3.out.trans (hB.mono hB3.out.size))
          clear hB hul
          go_wp2_with fail
          go_ret2
          exact ⟨_, us, rfl, hF.out, kA.out, hBn.out⟩
theorem specEliminateOne_any (A : Option Addr) (n c : Nat) (Fs : List Fac) (v : Int) (w : World) (h : FLst0 w w.heap.size A n Fs) (hn : n ≤ maxLen) (hsm : smallF Fs) :
    Calls Try.prog 20 #[.slice A n c, .int .i64 v] w (Fgd w (oneTo Fs v) (oneOkV Fs v)) := by
  have hI := Lib.hid h
  have hl := h.1.1
  have cK := Lib.hid (l8List_any A n c Fs w h.1 hn hsm)
  have cV := Lib.hid (fun wx => l1Var_any v wx)
  clear h hn hsm
  cases hk : listOk Fs
  · have hT : oneTo Fs v = [] := by unfold oneTo oneOkV; rw [hk]; rfl
    have hO : oneOkV Fs v = false := by unfold oneOkV; rw [hk]; rfl
    rw [hT, hO]
    rw [hk] at cK
    clear hk hT hO
    go_enter Try.func20, Try.ntmps20
    go_wp2_with fail
    refine cK.out.mono ?_
    rintro e w1 ⟨rfl, hb⟩
    go_wp2_with fail
    go_ret2
    exact ⟨_, [], rfl, RowsF.nil _ _, Apart.nil, hb⟩
  · rw [hk] at cK
    cases hin : inB v 0 3
    · have hT : oneTo Fs v = [] := by unfold oneTo oneOkV; rw [hin, hk]; rfl
      have hO : oneOkV Fs v = false := by unfold oneOkV; rw [hin, hk]; rfl
      rw [hT, hO]
      rw [hin] at cV
      clear hk hin hT hO
      go_enter Try.func20, Try.ntmps20
      go_wp2_with fail
      refine cK.out.mono ?_
      rintro e w1 ⟨rfl, hb⟩
      go_wp2_with fail
      refine (cV.out _).mono ?_
      rintro e w' ⟨rfl, rfl⟩
      go_wp2_with fail
      go_ret2
      exact ⟨_, [], rfl, RowsF.nil _ _, Apart.nil, hb⟩
    · have hT : oneTo Fs v = elim1 Fs v := by unfold oneTo oneOkV; rw [hin, hk]; rfl
      have hO : oneOkV Fs v = true := by unfold oneOkV; rw [hin, hk]; rfl
      rw [hT, hO]
      rw [hin] at cV
      obtain ⟨V, rfl, hVt⟩ := nat_three (inB_iff.1 hin)
      clear hVt
      obtain ⟨h8, hf, hfine⟩ := list_fine hk
      have hp0 := pow_bd h8 hf (k := 0) (by decide)
      have hpK : pb Fs ≤ 10000000000 := by simpa using hp0
      have cL := Lib.hid (fun wx (hx : FLst0 wx wx.heap.size A n Fs) => l9One_any A n c Fs V wx hx.1 hx.2 (by omega) hfine hpK)
      generalize elim1 Fs (V.val : Int) = Es at *
      clear hk hin hT hO hf hfine hp0 hpK
      go_enter Try.func20, Try.ntmps20
      go_wp2_with fail
      refine cK.out.mono ?_
      rintro e w1 ⟨rfl, hb⟩
      have hb1 := Lib.hid hb
      have hI1 := Lib.hid ((hI.out.below hb).more hb.size)
      clear hb
      go_wp2_with fail
      refine (cV.out _).mono ?_
      rintro e w' ⟨rfl, rfl⟩
      go_wp2_with fail
      refine (cL.out _ hI1.out).mono ?_
      rintro e w2 ⟨v2, vs, rfl, hR, hA, hb2⟩
      have hF := Lib.hid (hR.le hb1.out.size)
      have hBn := Lib.hid (hb1.out.trans (hb2.mono hb1.out.size))
      have kA := Lib.hid hA
      clear hR hA hb2
      go_wp2_with fail
      go_ret2
      exact ⟨_, vs, rfl, hF.out, kA.out, hBn.out⟩
end Go.Proofs.Ytaipdkfbkcknkaa
