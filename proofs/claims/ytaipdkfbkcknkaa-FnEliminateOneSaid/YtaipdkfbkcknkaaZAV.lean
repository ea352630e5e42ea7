/- Parts of the proof: KJ, KK, KQ, Hb, OpB. -/
import Derived.Test.YtaipdkfbkcknkaaZAU
import Derived.Test.YtaipdkfbkcknkaaZAL
import Derived.Test.YtaipdkfbkcknkaaZAG
import Derived.Test.YtaipdkfbkcknkaaZAP
import Derived.Test.YtaipdkfbkcknkaaZAB
import Derived.Test.YtaipdkfbkcknkaaZAD
import Derived.Test.YtaipdkfbkcknkaaZAF
import Derived.Test.YtaipdkfbkcknkaaZAC
import Derived.Test.YtaipdkfbkcknkaaZAA
namespace Go.Proofs.Ytaipdkfbkcknkaa
set_option maxRecDepth 100000
set_option linter.unusedVariables false
open Go.RowKit
def oneOkV (Fs : List Fac) (v : Int) : Bool := listOk Fs && inB v 0 3
def oneTo (Fs : List Fac) (v : Int) : List Fac := if oneOkV Fs v = true then elim1 Fs v else []
set_option maxHeartbeats 2000000 in
theorem EliminateOne_any (A : Option Addr) (n c : Nat) (Fs : List Fac) (v : Int) (w : World) (h : FLst w w.heap.size A n Fs) (hn : n ≤ maxLen) (hsm : smallF Fs) :
    Calls Try.prog 22 #[.slice A n c, .int .i64 v] w (Fgd w (oneTo Fs v) (oneOkV Fs v)) := by
  have hI := Lib.hid h
  have hl := h.1
  have cK := Lib.hid (factorsOk_any A n c Fs w h hn hsm)
  have cV := Lib.hid (fun wx => varOk_any v wx)
  clear h hn hsm
  cases hk : listOk Fs
  · have hT : oneTo Fs v = [] := by unfold oneTo oneOkV; rw [hk]; rfl
    have hO : oneOkV Fs v = false := by unfold oneOkV; rw [hk]; rfl
    rw [hT, hO]
    rw [hk] at cK
    clear hk hT hO
    go_enter Try.func22, Try.ntmps22
    go_wp2_with fail
    refine cK.out.mono ?_
    rintro e w1 ⟨rfl, hb⟩
    go_wp2_with fail
    go_ret2
    exact ⟨_, [], rfl, RowsF.nil _ _, Apart.nil, hb⟩
  · rw [hk] at cK
    cases hin : inB v 0 3
    · have hT : oneTo Fs v = [] := by unfold oneTo oneOkV; rw [hin, hk]; rfl
      have hO : oneOkV Fs v = false := by unfold oneOkV; rw [hin, hk]; rfl
      rw [hT, hO]
      rw [hin] at cV
      clear hk hin hT hO
      go_enter Try.func22, Try.ntmps22
      go_wp2_with fail
      refine cK.out.mono ?_
      rintro e w1 ⟨rfl, hb⟩
      go_wp2_with fail
      refine (cV.out _).mono ?_
      rintro e w' ⟨rfl, rfl⟩
      go_wp2_with fail
      go_ret2
      exact ⟨_, [], rfl, RowsF.nil _ _, Apart.nil, hb⟩
    · have hT : oneTo Fs v = elim1 Fs v := by unfold oneTo oneOkV; rw [hin, hk]; rfl
      have hO : oneOkV Fs v = true := by unfold oneOkV; rw [hin, hk]; rfl
      rw [hT, hO]
      rw [hin] at cV
      obtain ⟨V, rfl, hVt⟩ := nat_three (inB_iff.1 hin)
      clear hVt
      obtain ⟨h8, hf, hfine⟩ := list_fine hk
      have hp0 := pow_bd h8 hf (k := 0) (by decide)
      have hpK : pb Fs ≤ 10000000000 := by simpa using hp0
      have cS := Lib.hid (fun wx hx => stridedOf_any A n c Fs wx hx (by omega) hf)
      have cE := Lib.hid (fun (A' : Option Addr) (c' base ob : Nat) (us : List Value) wx hx ha hb => eliminated_any A' n c' base ob Fs us V wx hx hl (by omega) hfine hpK ha hb)
      have hElen := elim1_len Fs (V.val : Int)
      have hEl : (elim1 Fs (V.val : Int)).length ≤ 9 := by omega
      obtain ⟨j0, hj0, hj1, hj2, hj3⟩ := info_parts info_fac
      have hlh := Lib.hid hl
      generalize elim1 Fs (V.val : Int) = Es at *
      clear hk hin hT hO hf hfine hp0 hpK hElen hl
      go_enter Try.func22, Try.ntmps22
      go_wp2_with fail
      refine cK.out.mono ?_
      rintro e w1 ⟨rfl, hb⟩
      have hb1 := Lib.hid hb
      have hI1 := Lib.hid ((hI.out.below hb).more hb.size)
      clear hb
      go_wp2_with fail
      refine (cV.out _).mono ?_
      rintro e w' ⟨rfl, rfl⟩
      go_wp2_with fail
      refine (cS.out _ hI1.out).mono ?_
      rintro e w2 ⟨v2, us2, rfl, hR2, hA2, hb2⟩
      obtain ⟨A2s, c2s, rfl, _, _⟩ := hR2.form
      rw [hlh.out] at hR2 ⊢
      have hB2 := Lib.hid (hb1.out.trans (hb2.mono hb1.out.size))
      have cEk := Lib.hid (cE.out A2s c2s _ _ us2 w2 hR2 hA2 hb2.size)
      have hz2 := Lib.hid hb2.size
      clear hR2 hA2 hb2
      go_wp2_with fail
      refine cEk.out.mono ?_
      rintro e w3 ⟨v3, us, rfl, hR3, hA3, hb3⟩
      obtain ⟨A3, c3, rfl, _, _⟩ := hR3.form
      obtain ⟨m, hm⟩ : ∃ m, Es.length = m := ⟨_, rfl⟩
      rw [hm] at hR3 hEl ⊢
      have hB3 := Lib.hid (hB2.out.trans (hb3.mono hB2.out.size))
      have kR := Lib.hid hR3
      have kA := Lib.hid hA3
      have hmh := Lib.hid hm
      have hw13 := Lib.hid (show w.heap.size ≤ w1.heap.size ∧ w1.heap.size ≤ w3.heap.size from ⟨hb1.out.size, Nat.le_trans hz2.out hb3.size⟩)
      clear hR3 hA3 hb3 hm
      go_wp2_with fail
      go_loopg [6, 22] m (fun gq l x wr => ∃ k : Nat, k ≤ m ∧ gq = m - k ∧ x = .int .i64 k ∧ wr.ownsRow w3.heap.size 36 2 l k (us.take (k * 2)) ∧ Below w3.heap.size w3 wr)
      case atStart => exact ⟨0, Nat.zero_le _, rfl, rfl, World.ownsRow_nil _ _ _ _, Below.refl _ _⟩
      case round =>
        obtain ⟨k, hkm, hgn, rfl, hO, hB⟩ := hrel
        have hgk : gk = m - k := hgn
        obtain ⟨Al, cl, rfl, _, _⟩ := owns_form hO
        have kO := Lib.hid hO
        have kB := Lib.hid hB
        clear hgn hO
        by_cases hlt : k < m
        · have hk0 : (0 : Int) ≤ (k : Int) := by omega
          have hk1 : (k : Int) < (m : Int) := by omega
          obtain ⟨F, hFk⟩ : ∃ F, Es[k]? = some F := ⟨_, List.getElem?_eq_getElem (by have := hmh.out; omega)⟩
          obtain ⟨g, A1, c1, A2, c2, rfl, hg, hu1, hu2, hcl, _, _⟩ := (kR.out.below hB).at_ hmh.out hFk
          have htw := Lib.hid (take_two hu1 hu2)
          have cl0 : wr.cell? ⟨g, k * 6, none⟩ = some (.slice A1 F.vs.length c1) := hcl 0 (by decide)
          have cl1 : wr.cell? ⟨g, k * 6 + 1, none⟩ = some (.slice A2 F.ns.length c2) := hcl 1 (by decide)
          have cl2 : wr.cell? ⟨g, k * 6 + 2, none⟩ = some (.int .i64 (strL (setOf F.vs) 0)) := hcl 2 (by decide)
          have cl3 : wr.cell? ⟨g, k * 6 + 3, none⟩ = some (.int .i64 (strL (setOf F.vs) 1)) := hcl 3 (by decide)
          have cl4 : wr.cell? ⟨g, k * 6 + 4, none⟩ = some (.int .i64 (strL (setOf F.vs) 2)) := hcl 4 (by decide)
          have cl5 : wr.cell? ⟨g, k * 6 + 5, none⟩ = some (.int .i64 (strL (setOf F.vs) 3)) := hcl 5 (by decide)
          have hal : Below wr.heap.size wr ((wr.alloc (.cells #[.slice A1 F.vs.length c1, .slice A2 F.ns.length c2, .int .i64 (strL (setOf F.vs) 0), .int .i64 (strL (setOf F.vs) 1), .int .i64 (strL (setOf F.vs) 2), .int .i64 (strL (setOf F.vs) 3)] 79)).alloc (.cells #[.slice A1 F.vs.length c1, .slice A2 F.ns.length c2] 36)) := ((Below.refl _ _).alloc (Nat.le_refl _) _).alloc (by simp) _
          have hO5 := Lib.hid (show ((wr.alloc (.cells #[.slice A1 F.vs.length c1, .slice A2 F.ns.length c2, .int .i64 (strL (setOf F.vs) 0), .int .i64 (strL (setOf F.vs) 1), .int .i64 (strL (setOf F.vs) 2), .int .i64 (strL (setOf F.vs) 3)] 79)).alloc (.cells #[.slice A1 F.vs.length c1, .slice A2 F.ns.length c2] 36)).ownsRow w3.heap.size 36 2 (.slice Al k cl) k (us.take (k * 2)) from owns_but kO.out (KeptBut.of_below hal (fun _ => False)) (fun _ _ e => e))
          have hnw := Lib.hid (World.news_of_block (Has.newAt (w := (wr.alloc (.cells #[.slice A1 F.vs.length c1, .slice A2 F.ns.length c2, .int .i64 (strL (setOf F.vs) 0), .int .i64 (strL (setOf F.vs) 1), .int .i64 (strL (setOf F.vs) 2), .int .i64 (strL (setOf F.vs) 3)] 79))) (n := wr.heap.size + 1) (t := 36) (cs := #[.slice A1 F.vs.length c1, .slice A2 F.ns.length c2]) (by simp)))
          have hB5 := Lib.hid (hB.trans (hal.mono hB.size))
          have hsz5 := Lib.hid hB5.out.size
          clear hal hcl hu1 hu2 hFk hB
          go_wp2_with (at_builtin; refine wpList_append_lies _ rfl (.tmp 26) (.tmp 29) 28 rfl w3.heap.size 36 j0 _ 2 48 Try.underlying28 hj0 hj1 hj2 hj3 rfl (by decide) (.slice Al k cl) k _ rfl (by exact hO5.out) ⟨wr.heap.size + 1, 0, none⟩ 1 1 [.slice A1 F.vs.length c1, .slice A2 F.ns.length c2] rfl rfl (by exact hnw.out) (by simp [Value.oneCell']) (by omega) (by unfold maxLen; omega) (by omega) (by exact hsz5.out) (wr.heap.size + 1 + 1) (by simp) ?_; intro gr cr2 w6 hown6 hgrow6 hat6 hlt6)
          have nO := Lib.hid (show w6.ownsRow w3.heap.size 36 2 (.slice (some ⟨gr, 0, none⟩) (k + 1) cr2) (k + 1) (us.take ((k + 1) * 2)) from by rw [htw.out]; exact hown6)
          have nB := Lib.hid (hB5.out.grown hgrow6 hB5.out.size (fun b e => (World.ownsRow.lt hO5.out b e).1))
          clear hown6 hgrow6 hat6
          go_wp2_with fail
          go_roundg (m - (k + 1))
          case measure => omega
          case rel => exact ⟨k + 1, by omega, rfl, by go_num, nO.out, nB.out⟩
        · obtain rfl : k = m := by omega
          have hul := kR.out.2.1
          have hF := Lib.hid (show RowsF wr w.heap.size (.slice Al k cl) Es us from by
            refine ⟨?_, fun i x hx => ?_⟩
            · have h9 := owns_le kO.out (show w.heap.size ≤ w3.heap.size from Nat.le_trans hw13.out.1 hw13.out.2)
              rw [hmh.out]
              rwa [List.take_of_length_le (by rw [hul, hmh.out]; exact Nat.le_refl _)] at h9
            · obtain ⟨ds, q1, q2⟩ := (kR.out.2.below hB).2 i x hx
              exact ⟨ds, q1, owns_le q2 hw13.out.1⟩)
          have hBn := Lib.hid (hB3.out.trans (hB.mono hB3.out.size))
          clear hB hul
          go_wp2_with fail
          go_ret2
          exact ⟨_, us, rfl, hF.out, kA.out, hBn.out⟩
theorem specEliminateOne_any (A : Option Addr) (n c : Nat) (Fs : List Fac) (v : Int) (w : World) (h : FLst0 w w.heap.size A n Fs) (hn : n ≤ maxLen) (hsm : smallF Fs) :
    Calls Try.prog 20 #[.slice A n c, .int .i64 v] w (Fgd w (oneTo Fs v) (oneOkV Fs v)) := by
  have hI := Lib.hid h
  have hl := h.1.1
  have cK := Lib.hid (l8List_any A n c Fs w h.1 hn hsm)
  have cV := Lib.hid (fun wx => l1Var_any v wx)
  clear h hn hsm
  cases hk : listOk Fs
  · have hT : oneTo Fs v = [] := by unfold oneTo oneOkV; rw [hk]; rfl
    have hO : oneOkV Fs v = false := by unfold oneOkV; rw [hk]; rfl
    rw [hT, hO]
    rw [hk] at cK
    clear hk hT hO
    go_enter Try.func20, Try.ntmps20
    go_wp2_with fail
    refine cK.out.mono ?_
    rintro e w1 ⟨rfl, hb⟩
    go_wp2_with fail
    go_ret2
    exact ⟨_, [], rfl, RowsF.nil _ _, Apart.nil, hb⟩
  · rw [hk] at cK
    cases hin : inB v 0 3
    · have hT : oneTo Fs v = [] := by unfold oneTo oneOkV; rw [hin, hk]; rfl
      have hO : oneOkV Fs v = false := by unfold oneOkV; rw [hin, hk]; rfl
      rw [hT, hO]
      rw [hin] at cV
      clear hk hin hT hO
      go_enter Try.func20, Try.ntmps20
      go_wp2_with fail
      refine cK.out.mono ?_
      rintro e w1 ⟨rfl, hb⟩
      go_wp2_with fail
      refine (cV.out _).mono ?_
      rintro e w' ⟨rfl, rfl⟩
      go_wp2_with fail
      go_ret2
      exact ⟨_, [], rfl, RowsF.nil _ _, Apart.nil, hb⟩
    · have hT : oneTo Fs v = elim1 Fs v := by unfold oneTo oneOkV; rw [hin, hk]; rfl
      have hO : oneOkV Fs v = true := by unfold oneOkV; rw [hin, hk]; rfl
      rw [hT, hO]
      rw [hin] at cV
      obtain ⟨V, rfl, hVt⟩ := nat_three (inB_iff.1 hin)
      clear hVt
      obtain ⟨h8, hf, hfine⟩ := list_fine hk
      have hp0 := pow_bd h8 hf (k := 0) (by decide)
      have hpK : pb Fs ≤ 10000000000 := by simpa using hp0
      have cL := Lib.hid (fun wx (hx : FLst0 wx wx.heap.size A n Fs) => l9One_any A n c Fs V wx hx.1 hx.2 (by omega) hfine hpK)
      generalize elim1 Fs (V.val : Int) = Es at *
      clear hk hin hT hO hf hfine hp0 hpK
      go_enter Try.func20, Try.ntmps20
      go_wp2_with fail
      refine cK.out.mono ?_
      rintro e w1 ⟨rfl, hb⟩
      have hb1 := Lib.hid hb
      have hI1 := Lib.hid ((hI.out.below hb).more hb.size)
      clear hb
      go_wp2_with fail
      refine (cV.out _).mono ?_
      rintro e w' ⟨rfl, rfl⟩
      go_wp2_with fail
      refine (cL.out _ hI1.out).mono ?_
      rintro e w2 ⟨v2, vs, rfl, hR, hA, hb2⟩
      have hF := Lib.hid (hR.le hb1.out.size)
      have hBn := Lib.hid (hb1.out.trans (hb2.mono hb1.out.size))
      have kA := Lib.hid hA
      clear hR hA hb2
      go_wp2_with fail
      go_ret2
      exact ⟨_, vs, rfl, hF.out, kA.out, hBn.out⟩
end Go.Proofs.Ytaipdkfbkcknkaa

namespace Go.Proofs.Ytaipdkfbkcknkaa
set_option maxRecDepth 100000
set_option linter.unusedVariables false
open Go.RowKit
theorem elim_tb {Fs : List Fac} (h : Fine Fs) (v : Fin 4) {u : Nat} (hu : u ≤ 3) (hp : u = v.val ∨ ∀ F ∈ Fs, tb (setOf F.vs) u = false) : ∀ F ∈ elim1 Fs (v.val : Int), tb (setOf F.vs) u = false := fun F hF => by
  rcases List.mem_append.1 hF with hF | hF
  · obtain ⟨hF1, hF2⟩ := List.mem_filter.1 hF
    rcases hp with rfl | hp
    · rw [← has_tb (h F hF1) v]; simpa using hF2
    · exact hp F hF1
  · rw [List.mem_singleton.1 hF]
    obtain ⟨h1, _, h3⟩ := prodV_all h v
    unfold elimF
    rw [fOut_set h1 (by omega), h3, tb_bdf (by omega) (by omega) hu]
    by_cases e : v.val = u
    · subst e; simp
    · rcases hp with rfl | hp
      · exact absurd rfl e
      · rw [nbS_tb _ (by omega) hu, decide_eq_false e, Bool.false_or]
        have : ((setsF Fs).any fun s => tb s v.val && tb s u) = false := by
          rw [List.any_eq_false]
          intro s hs
          obtain ⟨G, hG, rfl⟩ := List.mem_map.1 hs
          simp [hp G hG]
        rw [this]
        rfl
end Go.Proofs.Ytaipdkfbkcknkaa

namespace Go.Proofs.Ytaipdkfbkcknkaa
set_option maxRecDepth 100000
set_option linter.unusedVariables false
open Go.RowKit
theorem prodAt_cons (F : Fac) (r : List Fac) (st : Int) : prodAt (F :: r) st = fAt F st * prodAt r st := by
  unfold prodAt
  rw [List.foldl_cons, fold_mul st r (1 * fAt F st), Int.one_mul]
theorem prodAt_part (p : Fac → Bool) (st : Int) : ∀ Fs, prodAt (Fs.filter p) st * prodAt (Fs.filter fun F => !p F) st = prodAt Fs st
  | [] => rfl
  | F :: r => by
    have ih := prodAt_part p st r
    cases hp : p F
    · rw [List.filter_cons_of_neg (by simp [hp]), List.filter_cons_of_pos (by simp [hp]), prodAt_cons, prodAt_cons, ← ih, Int.mul_left_comm]
    · rw [List.filter_cons_of_pos hp, List.filter_cons_of_neg (by simp [hp]), prodAt_cons, prodAt_cons, ← ih, Int.mul_assoc]
theorem prodAt_free {v st x : Int} (hs : 0 ≤ st ∧ st ≤ 80) (hv : 0 ≤ v ∧ v ≤ 3) (hx : 0 ≤ x ∧ x ≤ 2) : ∀ {Fs : List Fac}, Fine Fs → (∀ F ∈ Fs, v ∉ F.vs) → prodAt Fs (withValue st v x) = prodAt Fs st
  | [], _, _ => rfl
  | F :: r, hf, h => by
    rw [prodAt_cons, prodAt_cons, prodAt_free hs hv hx (fun G hG => hf G (List.mem_cons_of_mem _ hG)) fun G hG => h G (List.mem_cons_of_mem _ hG)]
    congr 1
    refine fAt_agree fun u hu => ?_
    have hub := (fac_parts (hf F List.mem_cons_self)).2.2.2.2 u hu
    exact (valueAt_with hs hv hx).2 u hub.1 hub.2 (fun e => h F List.mem_cons_self (e ▸ hu))
theorem prodAt_snoc (Fs : List Fac) (F : Fac) (st : Int) : prodAt (Fs ++ [F]) st = prodAt Fs st * fAt F st := by
  unfold prodAt
  rw [List.foldl_append]
  rfl
/-- The sum over the first values of a variable. -/
def sE (Fs : List Fac) (v st : Int) : Nat → Int
  | 0 => 0
  | k + 1 => sE Fs v st k + prodAt Fs (withValue st v (k : Int))
theorem elim1_sum {Fs : List Fac} (h : Fine Fs) (v : Fin 4) {st : Int} (hs : 0 ≤ st ∧ st ≤ 80) : prodAt (elim1 Fs (v.val : Int)) st = sE Fs (v.val : Int) st 3 := by
  have hv : 0 ≤ (v.val : Int) ∧ (v.val : Int) ≤ 3 := by omega
  obtain ⟨h1, h2, _⟩ := prodV_all h v
  have e : ∀ x : Int, 0 ≤ x ∧ x ≤ 2 → prodAt Fs (withValue st (v.val : Int) x) = prodAt (havF Fs (v.val : Int)) (withValue st (v.val : Int) x) * prodAt (witF Fs (v.val : Int)) st := fun x hx => by
    rw [← prodAt_part (hasF (v.val : Int)) _ Fs]
    congr 1
    refine prodAt_free hs hv hx (fine_filter h _) fun F hF => ?_
    have := (List.mem_filter.1 hF).2
    unfold hasF at this
    simpa using this
  unfold elim1
  rw [prodAt_snoc]
  unfold elimF
  rw [fOut_at h1 hv hs, h2 _ (with_bd hs hv (by decide)), h2 _ (with_bd hs hv (by decide)), h2 _ (with_bd hs hv (by decide))]
  rw [if_pos (.inl (by decide)), if_pos (.inl (by decide)), if_pos (.inl (by decide))]
  show _ = 0 + prodAt Fs (withValue st (v.val : Int) 0) + prodAt Fs (withValue st (v.val : Int) 1) + prodAt Fs (withValue st (v.val : Int) 2)
  rw [e 0 (by decide), e 1 (by decide), e 2 (by decide), Int.zero_add, ← Int.add_mul, ← Int.add_mul, Int.mul_comm]
theorem sE_bd {Fs : List Fac} (h : Fine Fs) (hK : pb Fs ≤ 10000000000) {v st : Int} (hs : 0 ≤ st ∧ st ≤ 80) (hv : 0 ≤ v ∧ v ≤ 3) : ∀ k : Nat, k ≤ 3 → 0 ≤ sE Fs v st k ∧ sE Fs v st k ≤ 10000000000 * k
  | 0, _ => ⟨Int.le_refl _, by show (0 : Int) ≤ _; omega⟩
  | k + 1, hk => by
    obtain ⟨a1, a2⟩ := sE_bd h hK hs hv k (by omega)
    have hb := prodAt_bd h (with_bd hs hv (x := (k : Int)) (by omega)) Fs.length
    rw [List.take_of_length_le (Nat.le_refl _)] at hb
    show 0 ≤ sE Fs v st k + prodAt Fs (withValue st v (k : Int)) ∧ sE Fs v st k + prodAt Fs (withValue st v (k : Int)) ≤ _
    omega
theorem elim1_no {Fs : List Fac} (h : Fine Fs) (v : Fin 4) : ∀ F ∈ elim1 Fs (v.val : Int), (v.val : Int) ∉ F.vs := fun F hF hm => by
  have h1 := elim_tb h v (u := v.val) (by omega) (.inl rfl) F hF
  have h2 := has_tb (elim1_fine h v F hF) v
  rw [h1] at h2
  unfold hasF at h2
  simp [hm] at h2
/-- A drawn list of factors and a number. -/
def DrLi (w : World) (e : Ending) (w' : World) : Prop :=
  ∃ (v : Value) (Fs : List Fac) (vs : List Value) (x : Int), e = .returned (.tuple #[v, .int .i64 x]) ∧ RowsF w' w.heap.size v Fs vs ∧ Fs.length ≤ 6 ∧ smallF Fs ∧ Below w.heap.size w w'
theorem DrawEliminateOne_any (A : Option Addr) (n c : Nat) (w : World) (h : Byt w w.heap.size A n) (hn : n ≤ c) (hc : c ≤ maxLen) :
    Calls Try.prog 44 #[.slice A n c] w (DrLi w) := by
  have hO := Lib.hid (l40Open_any A n c _ h hn hc)
  clear h hc
  go_enter Try.func44, Try.ntmps44
  go_wp2_with fail
  refine (hO.out).mono ?_
  rintro e w1 ⟨rfl, ⟨n', hn', hr1⟩, hb1⟩
  have hz1 := hr1.lt
  have kr1 := Lib.hid hr1
  have kb1 := Lib.hid hb1
  clear hr1 hb1
  go_wp2_with fail
  refine (l8Factors_any w.heap.size A n' c 0 w.heap.size w1 kr1.out (by omega) hn' (by omega)).mono ?_
  rintro e w2 ⟨v, Fs, vs, p', rfl, hR, hl, hbd, hp, hr2, hc2⟩
  have kR := Lib.hid (hR.le (show w.heap.size + 1 ≤ w1.heap.size by omega))
  have kC := Lib.hid hc2
  have kr2 := Lib.hid hr2
  have kbd := Lib.hid (show smallF Fs from fun F hF => by have := hbd F hF; unfold maxLen; omega)
  clear hR hr2 hc2 hbd
  go_wp2_with fail
  refine (pick_any w.heap.size A n' c p' w.heap.size 5 _ kr2.out (by omega) hn' (by decide)).mono ?_
  rintro e w3 ⟨x, rfl, hx0, hx5, hr3, hc3⟩
  have kr3 := Lib.hid hr3
  have kC3 := Lib.hid (kC.out.trans hc3)
  have kR3 := Lib.hid (kR.out.chg hc3 (by omega))
  clear hr3 hc3
  go_wp2_with fail
  refine (pick_any w.heap.size A n' c (p' + 1) w.heap.size 20 _ kr3.out (by omega) hn' (by decide)).mono ?_
  rintro e w4 ⟨y, rfl, hy0, hy5, hr4, hc4⟩
  have kC4 := Lib.hid (kC3.out.trans hc4)
  have kR4 := Lib.hid ((kR3.out.chg hc4 (by omega)).le (show w.heap.size ≤ w.heap.size + 1 by omega))
  have kB := Lib.hid (kb1.out.trans (kC4.out.below (B := w.heap.size) (Nat.le_refl _) (by omega)))
  clear hr4 hc4
  go_wp2_with fail
  go_ret2
  exact ⟨v, Fs, vs, _, rfl, kR4.out, hl, kbd.out, kB.out⟩
end Go.Proofs.Ytaipdkfbkcknkaa

namespace Go.Proofs.Ytaipdkfbkcknkaa
set_option maxRecDepth 100000
set_option linter.unusedVariables false
open Go.RowKit
set_option maxHeartbeats 2000000 in
theorem wcFactor_any (A1 A2 B1 B2 : Option Addr) (n1 c1 n2 c2 m1 k1 m2 k2 : Nat) (F : Fac) (w : World) (h : FacW w w.heap.size A1 n1 A2 n2 F) (g : FacW w w.heap.size B1 m1 B2 m2 F) (hn1 : n1 ≤ maxLen) (hn2 : n2 ≤ maxLen) (hm1 : m1 ≤ maxLen) (hm2 : m2 ≤ maxLen) :
    Calls Try.prog 40 #[.agg #[.slice A1 n1 c1, .slice A2 n2 c2], .agg #[.slice B1 m1 k1, .slice B2 m2 k2]] w fun e w' => e = .returned (.bool true) ∧ Below w.heap.size w w' := by
  have hB0 : Below w.heap.size w ((w.alloc (.cells #[.slice A1 n1 c1, .slice A2 n2 c2] 36)).alloc (.cells #[.slice B1 m1 k1, .slice B2 m2 k2] 36)) := ((Below.refl _ _).alloc (Nat.le_refl _) _).alloc (by simp) _
  have hf := Lib.hid ((Has.new w 36 #[.slice A1 n1 c1, .slice A2 n2 c2]).alloc (.cells #[.slice B1 m1 k1, .slice B2 m2 k2] 36))
  have hg := Lib.hid (Has.newAt (w := w.alloc (.cells #[.slice A1 n1 c1, .slice A2 n2 c2] 36)) (n := w.heap.size + 1) (t := 36) (cs := #[.slice B1 m1 k1, .slice B2 m2 k2]) (by simp))
  have hF0 := Lib.hid (h.below hB0)
  have hH0 := Lib.hid (g.below hB0)
  have hB := Lib.hid hB0
  have c0 := hf.out.cell
  have c1' := hg.out.cell
  clear h g hB0
  go_enter Try.func40, Try.ntmps40
  go_wp2_with fail
  generalize (w.alloc (.cells #[.slice A1 n1 c1, .slice A2 n2 c2] 36)).alloc (.cells #[.slice B1 m1 k1, .slice B2 m2 k2] 36) = W0 at hf hg hF0 hH0 hB c0 c1' ⊢
  refine (wcInts_any A1 B1 n1 m1 c1 k1 F.vs F.vs _ hF0.out.1 hH0.out.1 hn1 hm1).mono ?_
  rw [decide_eq_true rfl]
  rintro e w1 ⟨rfl, q1, rfl⟩
  have hb1 : Below W0.heap.size W0 (W0.drewN q1) := below_drewN (Below.refl _ _) q1
  have d0 := (hf.out.kept hb1).cell
  have d1 := (hg.out.kept hb1).cell
  have hF1 := Lib.hid (hF0.out.below hb1)
  have hH1 := Lib.hid (hH0.out.below hb1)
  have hB1 := hB.out.trans (hb1.mono hB.out.size)
  clear hf hg hF0 hH0 hB c0 c1' hb1
  generalize W0.drewN q1 = W1 at d0 d1 hF1 hH1 hB1 ⊢
  go_wp2_with fail
  refine (wcInts_any A2 B2 n2 m2 c2 k2 F.ns F.ns _ hF1.out.2 hH1.out.2 hn2 hm2).mono ?_
  rw [decide_eq_true rfl]
  rintro e w2 ⟨rfl, q2, rfl⟩
  have hB2 : Below w.heap.size w (W1.drewN q2) := below_drewN hB1 q2
  go_wp2_with fail
  go_ret
  exact ⟨rfl, hB2⟩
end Go.Proofs.Ytaipdkfbkcknkaa

namespace Go.Proofs.Ytaipdkfbkcknkaa
set_option maxRecDepth 100000
open Go.ChangeShapes Go.WideShapes Go.ChangeAt Go.RowKit Go.Deep
set_option maxRecDepth 100000 in
theorem open_bytes {H : Type} {enc : TypeId × Value → H} {w : World} {b0 : Nat} {r : Reach} {v : Value} {d : DataW H} {p : List MemPlace} (hv : Value.okWide Try.prog w r b0 47 v) (h : DataW.Trod enc Try.prog w 0 (fun _ => true) true 47 v d p) :
    ∃ (A : Option Addr) (n c : Nat), v = .slice A n c ∧ n ≤ c ∧ c ≤ maxLen ∧ Byt w w.heap.size A n := by
  obtain ⟨A, n, c, rfl⟩ := okWide_slice Try.underlying47 hv
  obtain ⟨fuel, hf⟩ := h
  rcases open_ints Try.underlying47 Try.underlying5 (by kernel_rfl) hf with ⟨hcs, _⟩ | ⟨x, l, c', zs, hcs, _, hl, hm, hz, _, hcell, hwz⟩
  · simp [Value.cells] at hcs
    obtain ⟨rfl, rfl, rfl⟩ := hcs
    exact ⟨none, 0, 0, rfl, Nat.le_refl _, by simp [maxLen], fun h => absurd h (by omega)⟩
  · simp [Value.cells] at hcs
    obtain ⟨rfl, rfl, rfl⟩ := hcs
    refine ⟨some x, n, c, rfl, hl, hm, fun hn => ?_⟩
    have hz' : zs.length = c := by simpa using hz
    obtain ⟨g, off, spot⟩ := x
    have h0 := hcell 0 (by omega)
    have hspot : spot = none := by simpa [Addr.add] using World.cell?_spot h0
    subst hspot
    have hlt := World.block_lt_of_cell? w _ h0
    refine ⟨g, off, rfl, by simpa [Addr.add] using hlt, fun i hi => ?_⟩
    have hi' : i < zs.length := by omega
    have hw := hwz (zs.getD i 0) (by rw [List.getD_eq_getElem?_getD, List.getElem?_eq_getElem hi']; exact List.getElem_mem hi')
    have hbd := bounds_u8 hw
    refine ⟨zs.getD i 0, ?_, hbd.1, hbd.2⟩
    rw [← hcell i hi']
    congr 1
    unfold Addr.add
    split
    · (rename_i h0; simp; try omega)
    · (simp; try omega)
end Go.Proofs.Ytaipdkfbkcknkaa
