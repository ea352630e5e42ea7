/- Parts of the proof: LC. -/
import Derived.Test.YtghkpmafocacoaaZAN
namespace Go.Proofs.Ytghkpmafocacoaa
set_option maxRecDepth 100000
set_option linter.unusedVariables false
open Go.RowKit
def okM (Fs : List Fac) (u t : Int) : Bool := treeOk Fs && (tb (nxI (gOf Fs) u) t.toNat && inB t 0 3)
def msgR (Fs : List Fac) (u t : Int) : List Int := if okM Fs u t = true then [IntKind.i64.wrap (msgT Fs (gOf Fs) u.toNat t.toNat 0), IntKind.i64.wrap (msgT Fs (gOf Fs) u.toNat t.toNat 1), IntKind.i64.wrap (msgT Fs (gOf Fs) u.toNat t.toNat 2)] else []
def belR (Fs : List Fac) (v : Int) : List Int := if (treeOk Fs && inB v 0 3) = true then [IntKind.i64.wrap (allT Fs (gOf Fs) v.toNat 4 0), IntKind.i64.wrap (allT Fs (gOf Fs) v.toNat 4 1), IntKind.i64.wrap (allT Fs (gOf Fs) v.toNat 4 2)] else []
theorem msgR_len (Fs : List Fac) (u t : Int) : (msgR Fs u t).length ≤ 4 := by unfold msgR; split <;> simp
theorem tree_parts {Fs : List Fac} (h : treeOk Fs = true) : listOk Fs = true ∧ grL Fs = some (gOf Fs) := by
  unfold treeOk at h
  rw [Bool.and_eq_true] at h
  refine ⟨h.1, ?_⟩
  unfold gOf
  cases hq : grL Fs with
  | none => rw [hq] at h; cases h.2
  | some g => rfl
theorem list_nine {Fs : List Fac} (h : listOk Fs = true) : ∀ F ∈ Fs, facOk 9 F = true := by
  unfold listOk at h
  rw [Bool.and_eq_true] at h
  exact List.all_eq_true.1 h.2
theorem tree_fst {Fs : List Fac} (h : treeOk Fs = true) : Fst Fs (gOf Fs) ∧ (∀ F ∈ Fs, facOk 9 F = true) ∧ ∀ v x, 0 ≤ ownL Fs v x ∧ ownL Fs v x ≤ 43046721 := by
  obtain ⟨h1, h2⟩ := tree_parts h
  refine ⟨fst_all h1 h2, list_nine h1, fun v x => ?_⟩
  have := ownL_small h1 v x Fs.length
  rwa [List.take_of_length_le (Nat.le_refl _)] at this
set_option maxHeartbeats 1000000 in
theorem MessageOf_any (A : Option Addr) (n c : Nat) (Fs : List Fac) (u t : Int) (w : World) (h : FLst w w.heap.size A n Fs) (hn : n ≤ maxLen) (hsm : smallF Fs) :
    Calls Try.prog 44 #[.slice A n c, .int .i64 u, .int .i64 t] w (Rtd w (msgR Fs u t) (okM Fs u t)) := by
  obtain ⟨hzero, hsize⟩ := zero_of_info (P := Try.prog) info_forest
  have cF := Lib.hid (fun wx hx => forestOf_any A n c Fs wx hx hn hsm)
  have hI := Lib.hid h
  have hs0 := fz.size
  have hbu := zero_fz
  obtain ⟨zc, hzc⟩ : ∃ zc, fz.cells = zc := ⟨_, rfl⟩
  rw [hzc] at hzero hs0 hbu
  have hs0h := Lib.hid hs0
  have hszh := Lib.hid hsize
  have cB := Lib.hid (fun wx => bitOf_any t wx)
  clear hsize h hsm hzc hs0
  go_enter Try.func44, Try.ntmps44
  go_wp2_with fail
  refine (cF.out _ hI.out).mono ?_
  rintro e w1 ⟨hb1, f, rfl, hone, hgt⟩
  have hs97 := Lib.hid f.size
  have hofc := Lib.hid (Fo.one f hone)
  obtain ⟨fc, hfc⟩ : ∃ fc, f.cells = fc := ⟨_, rfl⟩
  rw [hfc] at hs97 hofc ⊢
  have hN := Lib.hid (fof_store (zc := zc) hb1 hs0h.out hs97.out)
  have hT1 := Lib.hid (show (w1.alloc (.cells zc 102)).there w1.heap.size 0 fc.size from by rw [hs97.out]; exact room97 (Has.new w1 102 zc) hs0h.out)
  have hZ2 := Lib.hid (show (Try.prog.info? 102).map (·.size) = some fc.size from by rw [hszh.out, hs97.out])
  have hbh := Lib.hid hb1
  have hfch := Lib.hid hfc
  clear hone hb1 hfc
  cases htt : treeOk Fs
  · have htth := Lib.hid htt
    clear htt hgt
    go_wp2_with (first
      | (refine wpList_store_mid rfl 102 (.tmp 8) (.tmp 13) rfl w1.heap.size 0 fc (by rfl) (by rfl) hT1.out hZ2.out hofc.out ?_))
    have hok := Lib.hid (show okM Fs u t = false by unfold okM; rw [htth.out]; rfl)
    have hR := Lib.hid (show msgR Fs u t = [] by unfold msgR; rw [hok.out]; rfl)
    go_ret2
    rw [hR.out, hok.out]
    exact ⟨_, rfl, .inl ⟨rfl, rfl⟩, hN.out.2.1⟩
  obtain ⟨g, hgr, hfr⟩ := hgt htt
  have htth := Lib.hid htt
  have hgh := Lib.hid (show gOf Fs = g by unfold gOf; rw [hgr]; rfl)
  have hfrh := Lib.hid hfr
  clear htt hgt hgr hfr
  have hNx := Lib.hid (show FoW ((w1.alloc (.cells zc 102)).setCells w1.heap.size 0 fc.toList) w1.heap.size f from by unfold FoW; rw [hfch.out]; exact hN.out.1)
  have hfst := Lib.hid (tree_fst htth.out)
  have hrr := Lib.hid (hfrh.out.below (hN.out.2.2.mono hbh.out.size))
  have cN := Lib.hid (fun wx hx => nextTo_any w1.heap.size f g u wx hx hfrh.out.prs)
  have hokE := Lib.hid (show okM Fs u t = (tb (nxI g u) t.toNat && inB t 0 3) by unfold okM; rw [htth.out, hgh.out]; rfl)
  cases hb : (tb (nxI g u) t.toNat && inB t 0 3)
  · have hz : (bits .and .i64 (nxI g u) (bitN t) == 0) = true := by
      by_cases hv : inB t 0 3 = true
      · have hvb := inB_iff.1 hv
        obtain ⟨k, rfl, hk⟩ := nat4 hvb.1 hvb.2
        rw [bits_and (nxI_bd g u) (by omega)]
        rw [hv, Bool.and_true, Int.toNat_natCast] at hb
        rw [hb]; rfl
      · have h0 : bitN t = 0 := by unfold bitN; rw [if_neg hv]
        rw [h0]
        obtain ⟨q, hq⟩ := fin16 (nxI_bd g u)
        rw [hq]
        have hall : ∀ q : Fin 16, (bits .and .i64 (q.val : Int) 0 == 0) = true := by decide +kernel
        exact hall q
    have hok := Lib.hid (show okM Fs u t = false by rw [hokE.out, hb])
    have hR := Lib.hid (show msgR Fs u t = [] by unfold msgR; rw [hok.out]; rfl)
    clear hb
    generalize nxI g u = L at hz cN
    generalize bitN t = b at hz cB
    have hB2 := Lib.hid hN.out.2.1
    have hzh := Lib.hid hz
    clear hz
    go_wp2_with (first
      | (refine wpList_store_mid rfl 102 (.tmp 8) (.tmp 13) rfl w1.heap.size 0 fc (by rfl) (by rfl) hT1.out hZ2.out hofc.out ?_)
      | (go_at_call 90; refine (cN.out _ hNx.out).mono ?_; rintro e w' ⟨rfl, rfl⟩)
      | (go_at_call 91; refine (cB.out _).mono ?_; rintro e w' ⟨rfl, rfl⟩; have hz := hzh.out))
    go_ret2
    rw [hR.out, hok.out]
    exact ⟨_, rfl, .inl ⟨rfl, rfl⟩, hB2.out⟩
  · rw [Bool.and_eq_true] at hb
    have hok := Lib.hid (show okM Fs u t = true by rw [hokE.out, hb.1, hb.2]; rfl)
    have hvb := inB_iff.1 hb.2
    obtain ⟨l, rfl, hl⟩ := nat4 hvb.1 hvb.2
    have hu : inB u 0 3 = true := by
      cases hq : inB u 0 3
      · have := hb.1
        unfold nxI at this
        rw [hq, if_neg (by decide)] at this
        unfold tb at this
        simp at this
      · rfl
    have hub := inB_iff.1 hu
    obtain ⟨k, rfl, hk⟩ := nat4 hub.1 hub.2
    have hed : (g.nx k).testBit l = true := by
      have := hb.1
      unfold nxI at this
      rw [hu, if_pos rfl, Int.toNat_natCast, Int.toNat_natCast] at this
      exact this
    have hz : (bits .and .i64 (nxI g (k : Int)) (bitN (l : Int)) == 0) = false := by
      rw [bits_and (nxI_bd g _) (by omega)]
      have := hb.1
      rw [Int.toNat_natCast] at this
      rw [this]; rfl
    have hR := Lib.hid (show msgR Fs (k : Int) (l : Int) = [IntKind.i64.wrap (msgT Fs g k l 0), IntKind.i64.wrap (msgT Fs g k l 1), IntKind.i64.wrap (msgT Fs g k l 2)] by unfold msgR; rw [hok.out, if_pos rfl, hgh.out]; rfl)
    rw [hgh.out] at hfst
    have cT := Lib.hid (fun wx hx hy => tellAll_any w.heap.size w1.heap.size hbh.out.size f g Fs wx hx hy hfst.out.2.1 hfst.out.1 hfst.out.2.2)
    have hmem := Lib.hid ((tells_ok g hfst.out.1.acy).2.2 ⟨k, by omega⟩ ⟨l, by omega⟩ hed)
    have hk0 : (0 : Int) ≤ (k : Int) := by omega
    have hk4 : (k : Int) < 4 := by omega
    have hl0 : (0 : Int) ≤ (l : Int) := by omega
    have hl4 : (l : Int) < 4 := by omega
    clear hb hvb hub hu hed
    generalize nxI g (k : Int) = L at hz cN
    generalize bitN (l : Int) = b at hz cB
    have hB2 := Lib.hid hN.out.2.1
    have hzh := Lib.hid hz
    clear hz
    go_wp2_with (first
      | (refine wpList_store_mid rfl 102 (.tmp 8) (.tmp 13) rfl w1.heap.size 0 fc (by rfl) (by rfl) hT1.out hZ2.out hofc.out ?_)
      | (go_at_call 90; refine (cN.out _ hNx.out).mono ?_; rintro e w' ⟨rfl, rfl⟩)
      | (go_at_call 91; refine (cB.out _).mono ?_; rintro e w' ⟨rfl, rfl⟩; have hz := hzh.out)
      | (go_at_call 92; refine (cT.out _ hNx.out hrr.out).mono ?_; rintro e w3 ⟨rfl, hk3, f3, hf3, hs3, ht3⟩; have hB3 := Lib.hid (hB2.out.trans (hk3.below (B := w.heap.size) (fun i hi e => by have := hbh.out.size; omega) hB2.out.size)); have hF3 := Lib.hid hf3; have hT3 := Lib.hid ht3; clear hk3 hf3 ht3))
    go_ret2
    rw [hR.out, hok.out]
    refine ⟨_, rfl, .inr ⟨w1.heap.size, 49 + k * 12 + l * 3, _, _, rfl, hbh.out.size, hF3.out, fun j d hd => ?_⟩, hB3.out⟩
    obtain rfl | rfl | rfl : j = 0 ∨ j = 1 ∨ j = 2 := by
      have := (List.getElem?_eq_some_iff.1 hd).1
      simp at this
      omega
    all_goals
      obtain rfl := Option.some.inj hd
      have h8 := fun y hy => hT3.out k l hmem.out y hy
      rw [← h8 _ (by decide)]
      exact f3.told_at (by omega) (by omega) (by decide) rfl
set_option maxHeartbeats 1000000 in
theorem BeliefOf_any (A : Option Addr) (n c : Nat) (Fs : List Fac) (v : Int) (w : World) (h : FLst w w.heap.size A n Fs) (hn : n ≤ maxLen) (hsm : smallF Fs) :
    Calls Try.prog 47 #[.slice A n c, .int .i64 v] w (Rtd w (belR Fs v) (treeOk Fs && inB v 0 3)) := by
  obtain ⟨hzero, hsize⟩ := zero_of_info (P := Try.prog) info_forest
  have cF := Lib.hid (fun wx hx => forestOf_any A n c Fs wx hx hn hsm)
  have hI := Lib.hid h
  have hs0 := fz.size
  have hbu := zero_fz
  obtain ⟨zc, hzc⟩ : ∃ zc, fz.cells = zc := ⟨_, rfl⟩
  rw [hzc] at hzero hs0 hbu
  have hs0h := Lib.hid hs0
  have hszh := Lib.hid hsize
  have cV := Lib.hid (fun wx => varOk_any v wx)
  clear hsize h hsm hzc hs0
  go_enter Try.func47, Try.ntmps47
  go_wp2_with fail
  refine (cF.out _ hI.out).mono ?_
  rintro e w1 ⟨hb1, f, rfl, hone, hgt⟩
  have hs97 := Lib.hid f.size
  have hofc := Lib.hid (Fo.one f hone)
  obtain ⟨fc, hfc⟩ : ∃ fc, f.cells = fc := ⟨_, rfl⟩
  rw [hfc] at hs97 hofc ⊢
  have hN := Lib.hid (fof_store (zc := zc) hb1 hs0h.out hs97.out)
  have hT1 := Lib.hid (show (w1.alloc (.cells zc 102)).there w1.heap.size 0 fc.size from by rw [hs97.out]; exact room97 (Has.new w1 102 zc) hs0h.out)
  have hZ2 := Lib.hid (show (Try.prog.info? 102).map (·.size) = some fc.size from by rw [hszh.out, hs97.out])
  have hbh := Lib.hid hb1
  have hfch := Lib.hid hfc
  clear hone hb1 hfc
  cases htt : treeOk Fs
  · have htth := Lib.hid htt
    clear htt hgt
    go_wp2_with (first
      | (refine wpList_store_mid rfl 102 (.tmp 6) (.tmp 12) rfl w1.heap.size 0 fc (by rfl) (by rfl) hT1.out hZ2.out hofc.out ?_))
    have hR := Lib.hid (show belR Fs v = [] by unfold belR; rw [htth.out]; rfl)
    go_ret2
    rw [hR.out, htth.out]
    exact ⟨_, rfl, .inl ⟨rfl, rfl⟩, hN.out.2.1⟩
  obtain ⟨g, hgr, hfr⟩ := hgt htt
  have htth := Lib.hid htt
  have hgh := Lib.hid (show gOf Fs = g by unfold gOf; rw [hgr]; rfl)
  have hfrh := Lib.hid hfr
  clear htt hgt hgr hfr
  have hNx := Lib.hid (show FoW ((w1.alloc (.cells zc 102)).setCells w1.heap.size 0 fc.toList) w1.heap.size f from by unfold FoW; rw [hfch.out]; exact hN.out.1)
  cases hv : inB v 0 3
  · have hR := Lib.hid (show belR Fs v = [] by unfold belR; rw [hv, Bool.and_false]; rfl)
    have hok := Lib.hid (show (treeOk Fs && inB v 0 3) = false by rw [hv, Bool.and_false])
    rw [hv] at cV
    clear hv
    go_wp2_with (first
      | (refine wpList_store_mid rfl 102 (.tmp 6) (.tmp 12) rfl w1.heap.size 0 fc (by rfl) (by rfl) hT1.out hZ2.out hofc.out ?_)
      | (go_at_call 97; refine (cV.out _).mono ?_; rintro e w' ⟨rfl, rfl⟩))
    go_ret2
    rw [hR.out, hok.out]
    exact ⟨_, rfl, .inl ⟨rfl, rfl⟩, hN.out.2.1⟩
  · have hvb := inB_iff.1 hv
    obtain ⟨k, rfl, hk⟩ := nat4 hvb.1 hvb.2
    have hR := Lib.hid (show belR Fs (k : Int) = [IntKind.i64.wrap (allT Fs g k 4 0), IntKind.i64.wrap (allT Fs g k 4 1), IntKind.i64.wrap (allT Fs g k 4 2)] by unfold belR; rw [htth.out, hv, hgh.out]; rfl)
    have hok := Lib.hid (show (treeOk Fs && inB (k : Int) 0 3) = true by rw [htth.out, hv]; rfl)
    have hfst := Lib.hid (tree_fst htth.out)
    rw [hgh.out] at hfst
    have hrr := Lib.hid (hfrh.out.below (hN.out.2.2.mono hbh.out.size))
    have cT := Lib.hid (fun wx hx hy => tellAll_any w.heap.size w1.heap.size hbh.out.size f g Fs wx hx hy hfst.out.2.1 hfst.out.1 hfst.out.2.2)
    have hmem := Lib.hid (fun r (hr : r ∈ nbs g k 4) => (tells_ok g hfst.out.1.acy).2.2 ⟨r, by have := (nbs_mem hr).1; omega⟩ ⟨k, by omega⟩ (by have h1 := (nbs_mem hr).2.1; have h2 := (prs_row g ⟨k, by omega⟩).2.2.2.2 ⟨r, by have := (nbs_mem hr).1; omega⟩; simp only at h2 ⊢; rw [← h2]; exact h1))
    have cK := Lib.hid (fun wx f3 hx hy hz => known_any w.heap.size w1.heap.size f3 g Fs k (-1) 4 wx hx hy (by omega) (by decide) (by decide) hfst.out.2.2 hz)
    rw [hv] at cV
    have hk0 : (0 : Int) ≤ (k : Int) := by omega
    have hk4 : (k : Int) < 4 := by omega
    have hB2 := Lib.hid hN.out.2.1
    clear hv hvb
    go_wp2_with (first
      | (refine wpList_store_mid rfl 102 (.tmp 6) (.tmp 12) rfl w1.heap.size 0 fc (by rfl) (by rfl) hT1.out hZ2.out hofc.out ?_)
      | (go_at_call 97; refine (cV.out _).mono ?_; rintro e w' ⟨rfl, rfl⟩)
      | (go_at_call 92; refine (cT.out _ hNx.out hrr.out).mono ?_; rintro e w3 ⟨rfl, hk3, f3, hf3, hs3, ht3⟩; have hB3 := Lib.hid (hB2.out.trans (hk3.below (B := w.heap.size) (fun i hi e => by have := hbh.out.size; omega) hB2.out.size)); have hF3 := Lib.hid hf3; have hT3 := Lib.hid (fun r (hr : r ∈ nbs g k 4) x (hx : x ≤ 2) => ht3 r k (hmem.out r hr) x hx); have hS3 := Lib.hid ((hrr.out.below (hk3.below (B := w.heap.size) (fun i hi e => by have := hbh.out.size; omega) hB2.out.size)).same hs3); clear hk3 hf3 ht3 hs3))
    refine (cK.out w3 f3 hF3.out hS3.out hT3.out).mono ?_
    rintro e w4 ⟨rfl, hb4⟩
    have hB4 := Lib.hid (hB3.out.trans (hb4.mono hB3.out.size))
    clear hb4
    obtain ⟨q, hq⟩ : ∃ q : Nat → Int, (fun x => IntKind.i64.wrap (allT Fs g k 4 x)) = q := ⟨_, rfl⟩
    rw [hq]
    have hq0 := Lib.hid (congrFun hq 0 : IntKind.i64.wrap (allT Fs g k 4 0) = q 0)
    have hq1 := Lib.hid (congrFun hq 1 : IntKind.i64.wrap (allT Fs g k 4 1) = q 1)
    have hq2 := Lib.hid (congrFun hq 2 : IntKind.i64.wrap (allT Fs g k 4 2) = q 2)
    clear hq
    unfold A3
    have hX := Lib.hid (Has.new w4 45 #[.int .i64 (q 0), .int .i64 (q 1), .int .i64 (q 2)])
    have hB5 := Lib.hid (hB4.out.alloc hB4.out.size (.cells #[.int .i64 (q 0), .int .i64 (q 1), .int .i64 (q 2)] 45))
    go_wp2_with fail
    go_ret2
    rw [hR.out, hok.out, hq0.out, hq1.out, hq2.out]
    refine ⟨_, rfl, .inr ⟨w4.heap.size, 0, _, _, rfl, hB4.out.size, hX.out, fun j d hd => ?_⟩, hB5.out⟩
    rw [Nat.zero_add]
    obtain rfl | rfl | rfl : j = 0 ∨ j = 1 ∨ j = 2 := by
      have := (List.getElem?_eq_some_iff.1 hd).1
      simp at this
      omega
    all_goals
      obtain rfl := Option.some.inj hd
      rfl
end Go.Proofs.Ytghkpmafocacoaa
