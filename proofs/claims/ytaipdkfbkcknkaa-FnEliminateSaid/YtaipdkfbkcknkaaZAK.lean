/- Parts of the proof: Gb. -/
import Derived.Test.YtaipdkfbkcknkaaZAJ
namespace Go.Proofs.Ytaipdkfbkcknkaa
set_option maxRecDepth 100000
set_option linter.unusedVariables false
open Go.RowKit
/-- The first values' part of what is summed. -/
def pv (F : Fac) (v val st : Int) : Nat → Int
  | 0 => 0
  | x + 1 => pv F v val st x + (if val < 0 ∨ val = (x : Int) then fAt F (withValue st v (x : Int)) else 0)
theorem pv_bd {F : Fac} (h : facOk 100000000000000000 F = true) (v val st : Int) : ∀ m, 0 ≤ pv F v val st m ∧ pv F v val st m ≤ 100000000000000000 * (m : Int)
  | 0 => by simp [pv]
  | m + 1 => by
    have ih := pv_bd h v val st m
    have hF := fAt_bd h (by decide) (withValue st v (m : Int))
    have e : pv F v val st (m + 1) = pv F v val st m + (if val < 0 ∨ val = (m : Int) then fAt F (withValue st v (m : Int)) else 0) := rfl
    rw [e]
    split <;> omega
theorem fOut_pv (F : Fac) (v val : Int) : fOut F v val = facBy_ (bdf (setOf F.vs) (bitN v)) (fun st => pv F v val st 3) := by
  unfold fOut
  congr 1
  funext st
  show _ = 0 + _ + _ + _
  rw [Int.zero_add]
  rfl
set_option maxHeartbeats 4000000 in
theorem l8Without_M (A1 A2 : Option Addr) (n1 c1 n2 c2 : Nat) (F : Fac) (v val : Int) (w : World) (hF : FacW w w.heap.size A1 n1 A2 n2 F) (h1 : facOk 100000000000000000 F = true) (hv : 0 ≤ v ∧ v ≤ 3) :
    Calls Try.prog 95 #[.agg #[.slice A1 n1 c1, .slice A2 n2 c2], .int .i64 v, .int .i64 val] w (Fcd w (fOut F v val)) := by
  obtain ⟨a1, a2, a3, a4, a5⟩ := fac_parts h1
  have hl1 := hF.1.1
  have cS1 := Lib.hid (fun wx hx => l8Set_any A1 n1 c1 F.vs wx hx (by unfold maxLen; omega) a5)
  have hsF : 0 ≤ setOf F.vs ∧ setOf F.vs ≤ 15 := by have := setOf_bd a5 F.vs.length; rwa [List.take_of_length_le (Nat.le_refl _)] at this
  have hsh := shl_in hv
  have hbd := bits_diff hsF (bitN_le v)
  have hLb := bdf_bd (a := setOf F.vs) (b := bitN v) hsF.2
  have cO := Lib.hid (fun wx => l8Over_any (bdf (setOf F.vs) (bitN v)) wx hLb)
  have cF := Lib.hid (fun (s : Int) (hs : 0 ≤ s ∧ s ≤ 80) wx hx => l8At_any A1 A2 n1 c1 n2 c2 F s wx hx (by omega) a3 a5 hs)
  have hbF := Lib.hid (fun s => fAt_bd h1 (by decide) s)
  have hbP := Lib.hid (fun s => pv_bd h1 v val s)
  have hRes := Lib.hid (fOut_pv F v val)
  obtain ⟨g, hg_⟩ : ∃ g : Int → Int, (fun st => pv F v val st 3) = g := ⟨_, rfl⟩
  have hgv := Lib.hid (fun s => show g s = pv F v val s 3 from by rw [← hg_])
  rw [hg_] at hRes
  generalize hLe : bdf (setOf F.vs) (bitN v) = L at *
  rw [hRes.out]
  have hLh := Lib.hid hLb
  have hv64 : v ≤ 64 := by omega
  have hv0 : 0 ≤ v := hv.1
  have hB0 : Below w.heap.size w (w.alloc (.cells #[.slice A1 n1 c1, .slice A2 n2 c2] 36)) := (Below.refl _ _).alloc (Nat.le_refl _) _
  have hf := Lib.hid (Has.new w 36 #[.slice A1 n1 c1, .slice A2 n2 c2])
  have hF0 := Lib.hid (hF.below hB0)
  have hB0h := Lib.hid hB0
  obtain ⟨i0, hi0, hi1, hi2, hi3⟩ := info_parts info_int
  clear hF hB0 h1 a1 a2 a3 a4 a5 hg_
  go_enter Try.func95, Try.ntmps95
  go_wp2_with fail
  have hz0 : (w.alloc (.cells #[.slice A1 n1 c1, .slice A2 n2 c2] 36)).heap.size = w.heap.size + 1 := by simp
  generalize w.alloc (.cells #[.slice A1 n1 c1, .slice A2 n2 c2] 36) = W0 at hf hF0 hB0h hz0 ⊢
  have hr0 := Has.new W0 36 #[.slice none 0 0, .slice none 0 0]
  have hal0 : Below W0.heap.size W0 _ := (Below.refl _ _).alloc (Nat.le_refl _) (.cells #[.slice none 0 0, .slice none 0 0] 36)
  have hz1 : (W0.alloc (.cells #[.slice none 0 0, .slice none 0 0] 36)).heap.size = W0.heap.size + 1 := by simp
  generalize W0.alloc (.cells #[.slice none 0 0, .slice none 0 0] 36) = W1 at hr0 hal0 hz1 ⊢
  rw [← hz0]
  have hr := Lib.hid hr0
  have hB1 := Lib.hid hal0
  have hWW := hB0h.out.size
  have hfx := Lib.hid (hf.out.kept hB1.out)
  have hFz := Lib.hid (hF0.out.below hB1.out)
  clear hr0 hal0 hz0
  refine wp_region_any (by kernel_rfl) ?_
  change wpAny _ _ _ _ _ _ _ (World.drew _)
  refine wpAny_last (n := 9) (I := fun listed aq wx => listed.size = 10 ∧ ∃ v7 v12 v13 v14 v15 v16 v17 v18 v19 : Value, aq = { tmps := #[.agg #[.slice A1 n1 c1, .slice A2 n2 c2], .int .i64 v, .int .i64 val, .pointer (some ⟨w.heap.size, 0, none⟩), undef, undef, .pointer (some ⟨W0.heap.size, 0, none⟩), v7, undef, undef, undef, undef, v12, v13, v14, v15, v16, v17, v18, v19, undef, undef, undef, undef, undef, undef, undef, undef, undef, undef, undef, undef, undef, undef, undef, undef, undef, undef, undef, undef, undef, undef, undef, undef, undef, undef, undef, undef, undef, undef, undef, undef, undef, undef, undef, undef, undef, undef], defers := [] } ∧ (listed.getD 0 false = true → v12 = .pointer (some ⟨w.heap.size, 0, none⟩)) ∧ (listed.getD 1 false = true → v13 = .slice A1 n1 c1) ∧ (listed.getD 2 false = true → v14 = .int .i64 (setOf F.vs)) ∧ (listed.getD 3 false = true → v15 = .int .i64 v) ∧ (listed.getD 4 false = true → v16 = .int .i64 (bitN v)) ∧ (listed.getD 5 false = true → v17 = .int .i64 L) ∧ (listed.getD 6 false = true → (∃ (D : Option Addr) (cd : Nat), v18 = .slice D (over L).length cd ∧ IOwn wx W1.heap.size (.slice D (over L).length cd) (over L))) ∧ (listed.getD 7 false = true → (∃ (D : Option Addr) (cd : Nat), v19 = .agg #[.slice D (over L).length cd, .slice none 0 0] ∧ IOwn wx W1.heap.size (.slice D (over L).length cd) (over L))) ∧ (listed.getD 8 false = true → (∃ G9, v7 = .pointer (some ⟨G9, 0, none⟩) ∧ W1.heap.size ≤ G9 ∧ Has wx G9 36 #[.slice none 0 0, .slice none 0 0])) ∧ Below W1.heap.size W1 wx) rfl (by kernel_rfl) (by kernel_rfl) ?hs ?hl _ _ _ ?st rfl (by decide) _ (by decide)
  case st =>
    refine ⟨rfl, undef, undef, undef, undef, undef, undef, undef, undef, undef, rfl, ?_, ?_, ?_, ?_, ?_, ?_, ?_, ?_, ?_, (Below.refl _ _).drew⟩ <;> (intro e; exact absurd e (by decide))
  case hs =>
    rintro listed aq wx ⟨hz, v7, v12, v13, v14, v15, v16, v17, v18, v19, rfl, hII⟩ i hin hi
    obtain ⟨h0, o, ho, hd⟩ := mem_ready.1 hi
    have K0 := Lib.hid hII.1
    have K1 := Lib.hid hII.2.1
    have K2 := Lib.hid hII.2.2.1
    have K3 := Lib.hid hII.2.2.2.1
    have K4 := Lib.hid hII.2.2.2.2.1
    have K5 := Lib.hid hII.2.2.2.2.2.1
    have K6 := Lib.hid hII.2.2.2.2.2.2.1
    have K7 := Lib.hid hII.2.2.2.2.2.2.2.1
    have K8 := Lib.hid hII.2.2.2.2.2.2.2.2.1
    have hB : Below W1.heap.size W1 wx := hII.2.2.2.2.2.2.2.2.2
    have hne := Lib.hid (fun k (hk : i ≠ k) => @listed_ne listed i k hk)
    have hx := hfx.out.kept hB
    have hFx : FacW wx wx.heap.size A1 n1 A2 n2 F := hFz.out.below hB
    clear hII hi h0
    rcases (by omega : i = 0 ∨ i = 1 ∨ i = 2 ∨ i = 3 ∨ i = 4 ∨ i = 5 ∨ i = 6 ∨ i = 7 ∨ i = 8) with rfl | rfl | rfl | rfl | rfl | rfl | rfl | rfl | rfl
    · cases ho
      refine wpOp_step rfl (fun K hK => ?_)
      go_simp
      refine hK _ _ ⟨by simpa using hz, v7, .pointer (some ⟨w.heap.size, 0, none⟩), v13, v14, v15, v16, v17, v18, v19, rfl, ?_⟩
      exact ⟨fun _ => rfl, fun e => K1.out (hne.out 1 (by decide) e), fun e => K2.out (hne.out 2 (by decide) e), fun e => K3.out (hne.out 3 (by decide) e), fun e => K4.out (hne.out 4 (by decide) e), fun e => K5.out (hne.out 5 (by decide) e), fun e => K6.out (hne.out 6 (by decide) e), fun e => K7.out (hne.out 7 (by decide) e), fun e => K8.out (hne.out 8 (by decide) e), hB⟩
    · cases ho
      have d0 := hd ⟨0, .data⟩ (by simp) rfl
      obtain rfl := K0.out d0
      have hxc := hx.cell
      refine wpOp_step rfl (fun K hK => ?_)
      go_simp
      refine hK _ _ ⟨by simpa using hz, v7, .pointer (some ⟨w.heap.size, 0, none⟩), .slice A1 n1 c1, v14, v15, v16, v17, v18, v19, rfl, ?_⟩
      exact ⟨fun e => K0.out (hne.out 0 (by decide) e), fun _ => rfl, fun e => K2.out (hne.out 2 (by decide) e), fun e => K3.out (hne.out 3 (by decide) e), fun e => K4.out (hne.out 4 (by decide) e), fun e => K5.out (hne.out 5 (by decide) e), fun e => K6.out (hne.out 6 (by decide) e), fun e => K7.out (hne.out 7 (by decide) e), fun e => K8.out (hne.out 8 (by decide) e), hB⟩
    · cases ho
      have d1 := hd ⟨1, .data⟩ (by simp) rfl
      obtain rfl := K1.out d1
      refine wpOp_step rfl (fun K hK => ?_)
      go_simp
      go_at_call 116
      refine (cS1.out _ hFx.1).mono ?_
      rintro e w3 ⟨rfl, rfl⟩
      refine hK _ _ ⟨by simpa using hz, v7, v12, .slice A1 n1 c1, .int .i64 (setOf F.vs), v15, v16, v17, v18, v19, rfl, ?_⟩
      exact ⟨fun e => K0.out (hne.out 0 (by decide) e), fun e => K1.out (hne.out 1 (by decide) e), fun _ => rfl, fun e => K3.out (hne.out 3 (by decide) e), fun e => K4.out (hne.out 4 (by decide) e), fun e => K5.out (hne.out 5 (by decide) e), fun e => K6.out (hne.out 6 (by decide) e), fun e => K7.out (hne.out 7 (by decide) e), fun e => K8.out (hne.out 8 (by decide) e), hB⟩
    · cases ho
      refine wpOp_step rfl (fun K hK => ?_)
      go_simp
      refine hK _ _ ⟨by simpa using hz, v7, v12, v13, v14, .int .i64 v, v16, v17, v18, v19, rfl, ?_⟩
      exact ⟨fun e => K0.out (hne.out 0 (by decide) e), fun e => K1.out (hne.out 1 (by decide) e), fun e => K2.out (hne.out 2 (by decide) e), fun _ => rfl, fun e => K4.out (hne.out 4 (by decide) e), fun e => K5.out (hne.out 5 (by decide) e), fun e => K6.out (hne.out 6 (by decide) e), fun e => K7.out (hne.out 7 (by decide) e), fun e => K8.out (hne.out 8 (by decide) e), hB⟩
    · cases ho
      have d3 := hd ⟨3, .data⟩ (by simp) rfl
      obtain rfl := K3.out d3
      refine wpOp_step rfl (fun K hK => ?_)
      go_simp
      refine hK _ _ ⟨by simpa using hz, v7, v12, v13, v14, .int .i64 v, .int .i64 (bitN v), v17, v18, v19, rfl, ?_⟩
      exact ⟨fun e => K0.out (hne.out 0 (by decide) e), fun e => K1.out (hne.out 1 (by decide) e), fun e => K2.out (hne.out 2 (by decide) e), fun e => K3.out (hne.out 3 (by decide) e), fun _ => rfl, fun e => K5.out (hne.out 5 (by decide) e), fun e => K6.out (hne.out 6 (by decide) e), fun e => K7.out (hne.out 7 (by decide) e), fun e => K8.out (hne.out 8 (by decide) e), hB⟩
    · cases ho
      have d2 := hd ⟨2, .data⟩ (by simp) rfl
      have d4 := hd ⟨4, .data⟩ (by simp) rfl
      obtain rfl := K2.out d2
      obtain rfl := K4.out d4
      refine wpOp_step rfl (fun K hK => ?_)
      go_simp
      refine hK _ _ ⟨by simpa using hz, v7, v12, v13, .int .i64 (setOf F.vs), v15, .int .i64 (bitN v), .int .i64 L, v18, v19, rfl, ?_⟩
      exact ⟨fun e => K0.out (hne.out 0 (by decide) e), fun e => K1.out (hne.out 1 (by decide) e), fun e => K2.out (hne.out 2 (by decide) e), fun e => K3.out (hne.out 3 (by decide) e), fun e => K4.out (hne.out 4 (by decide) e), fun _ => rfl, fun e => K6.out (hne.out 6 (by decide) e), fun e => K7.out (hne.out 7 (by decide) e), fun e => K8.out (hne.out 8 (by decide) e), hB⟩
    · cases ho
      have d5 := hd ⟨5, .data⟩ (by simp) rfl
      obtain rfl := K5.out d5
      refine wpOp_step rfl (fun K hK => ?_)
      go_simp
      go_at_call 115
      refine (cO.out _).mono ?_
      rintro e w3 ⟨u3, rfl, hD, hb3⟩
      obtain ⟨D, cd, rfl, _, _⟩ := hD.form
      refine hK _ _ ⟨by simpa using hz, v7, v12, v13, v14, v15, v16, .int .i64 L, .slice D _ cd, v19, rfl, ?_⟩
      exact ⟨fun e => K0.out (hne.out 0 (by decide) e), fun e => K1.out (hne.out 1 (by decide) e), fun e => K2.out (hne.out 2 (by decide) e), fun e => K3.out (hne.out 3 (by decide) e), fun e => K4.out (hne.out 4 (by decide) e), fun e => K5.out (hne.out 5 (by decide) e), fun _ => ⟨_, _, rfl, owns_le hD hB.size⟩, fun e => (by obtain ⟨y1, y2, y3, y4⟩ := K7.out (hne.out 7 (by decide) e); exact ⟨y1, y2, y3, y4.below hb3⟩), fun e => (by obtain ⟨G9, y1, y2, y3⟩ := K8.out (hne.out 8 (by decide) e); exact ⟨G9, y1, y2, y3.kept hb3⟩), hB.trans (hb3.mono hB.size)⟩
    · cases ho
      have d6 := hd ⟨6, .data⟩ (by simp) rfl
      obtain ⟨D0, cd0, rfl, hD0⟩ := K6.out d6
      refine wpOp_step rfl (fun K hK => ?_)
      go_simp
      refine hK _ _ ⟨by simpa using hz, v7, v12, v13, v14, v15, v16, v17, .slice D0 (over L).length cd0, .agg #[.slice D0 (over L).length cd0, .slice none 0 0], rfl, ?_⟩
      exact ⟨fun e => K0.out (hne.out 0 (by decide) e), fun e => K1.out (hne.out 1 (by decide) e), fun e => K2.out (hne.out 2 (by decide) e), fun e => K3.out (hne.out 3 (by decide) e), fun e => K4.out (hne.out 4 (by decide) e), fun e => K5.out (hne.out 5 (by decide) e), fun e => K6.out (hne.out 6 (by decide) e), fun _ => ⟨_, _, rfl, hD0⟩, fun e => K8.out (hne.out 8 (by decide) e), hB⟩
    · cases ho
      refine wpOp_step rfl (fun K hK => ?_)
      go_simp
      refine hK _ _ ⟨by simpa using hz, .pointer (some ⟨wx.heap.size, 0, none⟩), v12, v13, v14, v15, v16, v17, v18, v19, rfl, ?_⟩
      exact ⟨fun e => K0.out (hne.out 0 (by decide) e), fun e => K1.out (hne.out 1 (by decide) e), fun e => K2.out (hne.out 2 (by decide) e), fun e => K3.out (hne.out 3 (by decide) e), fun e => K4.out (hne.out 4 (by decide) e), fun e => K5.out (hne.out 5 (by decide) e), fun e => (by obtain ⟨y1, y2, y3, y4⟩ := K6.out (hne.out 6 (by decide) e); exact ⟨y1, y2, y3, y4.below ((Below.refl _ _).alloc (Nat.le_refl _) _)⟩), fun e => (by obtain ⟨y1, y2, y3, y4⟩ := K7.out (hne.out 7 (by decide) e); exact ⟨y1, y2, y3, y4.below ((Below.refl _ _).alloc (Nat.le_refl _) _)⟩), fun _ => ⟨_, rfl, hB.size, Has.new _ _ _⟩, hB.alloc hB.size _⟩
  case hl =>
    rintro listed aq wx ⟨hz, v7, v12, v13, v14, v15, v16, v17, v18, v19, rfl, hII⟩ hall
    have K0 := Lib.hid hII.1
    have K1 := Lib.hid hII.2.1
    have K2 := Lib.hid hII.2.2.1
    have K3 := Lib.hid hII.2.2.2.1
    have K4 := Lib.hid hII.2.2.2.2.1
    have K5 := Lib.hid hII.2.2.2.2.2.1
    have K6 := Lib.hid hII.2.2.2.2.2.2.1
    have K7 := Lib.hid hII.2.2.2.2.2.2.2.1
    have K8 := Lib.hid hII.2.2.2.2.2.2.2.2.1
    have hB : Below W1.heap.size W1 wx := hII.2.2.2.2.2.2.2.2.2
    have hx := hfx.out.kept hB
    have hFx : FacW wx wx.heap.size A1 n1 A2 n2 F := hFz.out.below hB
    clear hII
    obtain rfl := K0.out (hall 0 (by decide))
    obtain rfl := K1.out (hall 1 (by decide))
    obtain rfl := K2.out (hall 2 (by decide))
    obtain rfl := K3.out (hall 3 (by decide))
    obtain rfl := K4.out (hall 4 (by decide))
    obtain rfl := K5.out (hall 5 (by decide))
    obtain ⟨D0, cd0, rfl, hD0⟩ := K6.out (hall 6 (by decide))
    obtain ⟨D, cd, rfl, hD⟩ := K7.out (hall 7 (by decide))
    obtain ⟨G9, rfl, hG0, hG⟩ := K8.out (hall 8 (by decide))
    clear hall K0 K1 K2 K3 K4 K5 K6 K7 K8
    have hgc := hG.cell
    have hgf := hG.frozen
    refine wpOp_step rfl (fun K0 hK0 => ?_)
    go_simp
    refine hK0 _ _ ?_
    clear hK0
    have hN1 := Lib.hid (show FacN W0 ((wx.setCell ⟨G9, 0, none⟩ (.slice D (over L).length cd)).setCell ⟨G9, 1, none⟩ (.slice none 0 0)) G9 (.slice D (over L).length cd) (.slice none 0 0) (over L) [] from by
      have hk := ((KeptBut.refl wx (fun i => i = G9)).put (p := ⟨G9, 0, none⟩) (fun _ => rfl) (.slice D (over L).length cd)).put (p := ⟨G9, 1, none⟩) (fun _ => rfl) (.slice none 0 0)
      refine ⟨IOwn.nil _ _, owns_le (hD.but hk (fun k e1 e2 => iown_ne hD hG (by decide) k e1 e2)) hB1.out.size, (hG.put 0 (.slice D (over L).length cd)).put 1 (.slice none 0 0), (hr.out.kept hB).but hk (fun e => by omega), ?_⟩
      have h9 := hB1.out.trans (hB.mono hB1.out.size)
      have h8 : W0.heap.size ≤ G9 := by omega
      exact (h9.setCell (p := ⟨G9, 0, none⟩) h8 _).setCell (p := ⟨G9, 1, none⟩) h8 _)
    have hd1 := Lib.hid (show ∀ b, (Value.slice D (over L).length cd).ownBlock = some b → (Value.slice none 0 0).ownBlock ≠ some b from fun b _ e => by cases e)
    have hG1 : W0.heap.size < G9 := by omega
    clear hx hFx hgc hgf hD hG
    generalize (wx.setCell ⟨G9, 0, none⟩ (.slice D (over L).length cd)).setCell ⟨G9, 1, none⟩ (.slice none 0 0) = W2 at hN1 ⊢
    have hlb := over_len hLh.out
    have hpb := pow_four hlb
    have cP := Lib.hid (fun wx => l1Power_four (over L).length hlb wx)
    have hall := Lib.hid (facPre_all L g)
    generalize hMM : 3 ^ (over L).length = Q at *
    go_wp2_with fail
    clear hB hB1 hfx hFz
    go_loopg [8] Q (fun gn vv wr => ∃ (k : Nat) (v2 : Value), k ≤ Q ∧ gn = Q - k ∧ vv = .int .i64 k ∧ FacN W0 wr G9 (.slice D (over L).length cd) v2 (over L) (facPre L g k) ∧ (∀ b, (Value.slice D (over L).length cd).ownBlock = some b → v2.ownBlock ≠ some b))
    case atStart => exact ⟨0, _, Nat.zero_le _, rfl, rfl, hN1.out, hd1.out⟩
    case round =>
      obtain ⟨k, v2, hk, hgn, rfl, hN, hd⟩ := hrel
      have hgk : gk = Q - k := hgn
      have hpl := facPre_len L g k
      obtain ⟨E2, e2, rfl, hE1, hE2⟩ := hN.1.form
      rw [hpl] at hN hd hE1
      have hNh := Lib.hid hN
      have hdh := Lib.hid hd
      have cA := hN.2.2.1.cell
      clear hgn hN hd
      by_cases hlt : k < Q
      · have hk0 : (0 : Int) ≤ (k : Int) := by omega
        have hk1 : (k : Int) < (Q : Int) := by omega
        have hsb := stOver_bd hLh.out (i := k)
        have cT := Lib.hid (fun wx hx => l8State_any D (over L).length cd (over L) (k : Int) wx hx (by unfold maxLen; omega) (over_in hLh.out) (by omega))
        have hnx := Lib.hid (facPre_succ L g k)
        generalize stOf (over L) (k : Int) = s at hsb hnx cT
        rw [hgv.out] at hnx
        go_wp2_with fail
        refine (cP.out _).mono ?_
        rintro e w' ⟨rfl, rfl⟩
        go_wp2_with fail
        refine (cT.out _ hNh.out.2.1.lst).mono ?_
        rintro e w' ⟨rfl, rfl⟩
        go_wp2_with fail
        clear cA
        go_loopg [10, 11] 3 (fun gn o vv wr => ∃ x : Nat, x ≤ 3 ∧ gn = 3 - x ∧ vv = .int .i64 x ∧ o = .int .i64 (pv F v val s x) ∧ FacN W0 wr G9 (.slice D (over L).length cd) (.slice E2 k e2) (over L) (facPre L g k))
        case atStart => exact ⟨0, Nat.zero_le _, rfl, rfl, rfl, hNh.out⟩
        case round =>
          obtain ⟨x, hx3, hgn, rfl, rfl, hN⟩ := hrel
          have hgx : gk = 3 - x := hgn
          have hNi := Lib.hid hN
          clear hgn hN
          have hyb := hbP.out s x
          by_cases hlx : x < 3
          · have hx0 : (0 : Int) ≤ (x : Int) := by omega
            have hx1 : (x : Int) < 3 := by omega
            have hpn := Lib.hid (show pv F v val s (x + 1) = pv F v val s x + (if val < 0 ∨ val = (x : Int) then fAt F (withValue s v (x : Int)) else 0) from rfl)
            have htb := with_bd hsb hv (show 0 ≤ (x : Int) ∧ (x : Int) ≤ 2 by omega)
            obtain ⟨u, rfl, hu⟩ := nat4 hv.1 hv.2
            have cW := Lib.hid (fun wx => l1With_any s (x : Int) u hsb.1 hsb.2 hu hx0 (by omega) wx)
            rw [← withValue_yes (v := (u : Int)) hsb.1 hsb.2 rfl hu hx0 (by omega)] at cW
            have cF1 := Lib.hid (cF.out _ htb)
            have hzb := hbF.out (withValue s (u : Int) (x : Int))
            generalize hv0u : (u : Int) = v1 at *
            generalize withValue s v1 (x : Int) = t at htb hpn cW cF1 hzb
            generalize fAt F t = z at hpn cF1 hzb
            generalize pv F v1 val s x = y at hyb hpn ⊢
            have hws : IntKind.i64.wrap (y + z) = y + z := by rw [IntKind.wrap_i64]; omega
            by_cases hneg : val < 0
            · have hpp := Lib.hid (show pv F v1 val s (x + 1) = y + z from by rw [hpn.out, if_pos (Or.inl hneg)])
              go_wp2_with fail
              refine wp_region_any (by kernel_rfl) ?_
              change wpAny _ _ _ _ _ _ _ (World.drew _)
              refine wpAny_last (n := 8) (I := fun listed aq wx => listed.size = 9 ∧ ∃ v43 v44 v45 v46 v47 v48 v49 v50 : Value, aq = { tmps := #[.agg #[.slice A1 n1 c1, .slice A2 n2 c2], .int .i64 v1, .int .i64 val, .pointer (some ⟨w.heap.size, 0, none⟩), undef, undef, .pointer (some ⟨W0.heap.size, 0, none⟩), .pointer (some ⟨G9, 0, none⟩), .int .i64 ↑k, .int .i64 s, .int .i64 y, .int .i64 ↑x, .pointer (some ⟨w.heap.size, 0, none⟩), .slice A1 n1 c1, .int .i64 (setOf F.vs), .int .i64 v1, .int .i64 (bitN v1), .int .i64 L, .slice D0 (over L).length cd0, .agg #[.slice D (over L).length cd, .slice none 0 0], .int .i64 ↑k, .pointer (some ⟨G9, 0, none⟩), .slice D (over L).length cd, .int .i64 ↑(over L).length, .int .i64 ↑Q, .bool true, u26, u27, .pointer (some ⟨G9, 0, none⟩), .slice D (over L).length cd, .int .i64 ↑k, .int .i64 s, .int .i64 ↑x, .bool true, u34, u35, .int .i64 val, .bool true, .bool true, undef, undef, undef, .bool true, v43, v44, v45, v46, v47, v48, v49, v50, u51, u52, u53, u54, u55, u56, undef], defers := [] } ∧ (listed.getD 0 false = true → v43 = .int .i64 y) ∧ (listed.getD 1 false = true → v44 = .agg #[.slice A1 n1 c1, .slice A2 n2 c2]) ∧ (listed.getD 2 false = true → v45 = .int .i64 s) ∧ (listed.getD 3 false = true → v46 = .int .i64 v1) ∧ (listed.getD 4 false = true → v47 = .int .i64 ↑x) ∧ (listed.getD 5 false = true → v48 = .int .i64 t) ∧ (listed.getD 6 false = true → v49 = .int .i64 z) ∧ (listed.getD 7 false = true → v50 = .int .i64 (y + z)) ∧ Below wr.heap.size wr wx) rfl (by kernel_rfl) (by kernel_rfl) ?hs ?hl _ _ _ ?st rfl (by decide) _ (by decide)
              case st =>
                refine ⟨rfl, u43, u44, u45, u46, u47, u48, u49, u50, rfl, ?_, ?_, ?_, ?_, ?_, ?_, ?_, ?_, (Below.refl _ _).drew⟩ <;> (intro e; exact absurd e (by decide))
              case hs =>
                rintro listed aq wx ⟨hz, v43, v44, v45, v46, v47, v48, v49, v50, rfl, hII⟩ i hin hi
                obtain ⟨h0, o, ho, hd⟩ := mem_ready.1 hi
                have K0 := Lib.hid hII.1
                have K1 := Lib.hid hII.2.1
                have K2 := Lib.hid hII.2.2.1
                have K3 := Lib.hid hII.2.2.2.1
                have K4 := Lib.hid hII.2.2.2.2.1
                have K5 := Lib.hid hII.2.2.2.2.2.1
                have K6 := Lib.hid hII.2.2.2.2.2.2.1
                have K7 := Lib.hid hII.2.2.2.2.2.2.2.1
                have hB : Below wr.heap.size wr wx := hII.2.2.2.2.2.2.2.2
                have hne := Lib.hid (fun k (hk : i ≠ k) => @listed_ne listed i k hk)
                have hNx := hNi.out.below hB
                have hx := hf.out.kept hNx.2.2.2.2
                have hFx : FacW wx wx.heap.size A1 n1 A2 n2 F := hF0.out.below hNx.2.2.2.2
                clear hII hi h0
                rcases (by omega : i = 0 ∨ i = 1 ∨ i = 2 ∨ i = 3 ∨ i = 4 ∨ i = 5 ∨ i = 6 ∨ i = 7) with rfl | rfl | rfl | rfl | rfl | rfl | rfl | rfl
                · cases ho
                  refine wpOp_step rfl (fun K hK => ?_)
                  go_simp
                  refine hK _ _ ⟨by simpa using hz, .int .i64 y, v44, v45, v46, v47, v48, v49, v50, rfl, ?_⟩
                  exact ⟨fun _ => rfl, fun e => K1.out (hne.out 1 (by decide) e), fun e => K2.out (hne.out 2 (by decide) e), fun e => K3.out (hne.out 3 (by decide) e), fun e => K4.out (hne.out 4 (by decide) e), fun e => K5.out (hne.out 5 (by decide) e), fun e => K6.out (hne.out 6 (by decide) e), fun e => K7.out (hne.out 7 (by decide) e), hB⟩
                · cases ho
                  have hxc := hx.cell
                  refine wpOp_step rfl (fun K hK => ?_)
                  go_simp
                  refine hK _ _ ⟨by simpa using hz, v43, .agg #[.slice A1 n1 c1, .slice A2 n2 c2], v45, v46, v47, v48, v49, v50, rfl, ?_⟩
                  exact ⟨fun e => K0.out (hne.out 0 (by decide) e), fun _ => rfl, fun e => K2.out (hne.out 2 (by decide) e), fun e => K3.out (hne.out 3 (by decide) e), fun e => K4.out (hne.out 4 (by decide) e), fun e => K5.out (hne.out 5 (by decide) e), fun e => K6.out (hne.out 6 (by decide) e), fun e => K7.out (hne.out 7 (by decide) e), hB⟩
                · cases ho
                  refine wpOp_step rfl (fun K hK => ?_)
                  go_simp
                  refine hK _ _ ⟨by simpa using hz, v43, v44, .int .i64 s, v46, v47, v48, v49, v50, rfl, ?_⟩
                  exact ⟨fun e => K0.out (hne.out 0 (by decide) e), fun e => K1.out (hne.out 1 (by decide) e), fun _ => rfl, fun e => K3.out (hne.out 3 (by decide) e), fun e => K4.out (hne.out 4 (by decide) e), fun e => K5.out (hne.out 5 (by decide) e), fun e => K6.out (hne.out 6 (by decide) e), fun e => K7.out (hne.out 7 (by decide) e), hB⟩
                · cases ho
                  refine wpOp_step rfl (fun K hK => ?_)
                  go_simp
                  refine hK _ _ ⟨by simpa using hz, v43, v44, v45, .int .i64 v1, v47, v48, v49, v50, rfl, ?_⟩
                  exact ⟨fun e => K0.out (hne.out 0 (by decide) e), fun e => K1.out (hne.out 1 (by decide) e), fun e => K2.out (hne.out 2 (by decide) e), fun _ => rfl, fun e => K4.out (hne.out 4 (by decide) e), fun e => K5.out (hne.out 5 (by decide) e), fun e => K6.out (hne.out 6 (by decide) e), fun e => K7.out (hne.out 7 (by decide) e), hB⟩
                · cases ho
                  refine wpOp_step rfl (fun K hK => ?_)
                  go_simp
                  refine hK _ _ ⟨by simpa using hz, v43, v44, v45, v46, .int .i64 ↑x, v48, v49, v50, rfl, ?_⟩
                  exact ⟨fun e => K0.out (hne.out 0 (by decide) e), fun e => K1.out (hne.out 1 (by decide) e), fun e => K2.out (hne.out 2 (by decide) e), fun e => K3.out (hne.out 3 (by decide) e), fun _ => rfl, fun e => K5.out (hne.out 5 (by decide) e), fun e => K6.out (hne.out 6 (by decide) e), fun e => K7.out (hne.out 7 (by decide) e), hB⟩
                · cases ho
                  have d2 := hd ⟨2, .data⟩ (by simp) rfl
                  have d3 := hd ⟨3, .data⟩ (by simp) rfl
                  have d4 := hd ⟨4, .data⟩ (by simp) rfl
                  obtain rfl := K2.out d2
                  obtain rfl := K3.out d3
                  obtain rfl := K4.out d4
                  refine wpOp_step rfl (fun K hK => ?_)
                  go_simp
                  go_at_call 127
                  refine (cW.out _).mono ?_
                  rintro e w3 ⟨rfl, rfl⟩
                  refine hK _ _ ⟨by simpa using hz, v43, v44, .int .i64 s, .int .i64 v1, .int .i64 ↑x, .int .i64 t, v49, v50, rfl, ?_⟩
                  exact ⟨fun e => K0.out (hne.out 0 (by decide) e), fun e => K1.out (hne.out 1 (by decide) e), fun e => K2.out (hne.out 2 (by decide) e), fun e => K3.out (hne.out 3 (by decide) e), fun e => K4.out (hne.out 4 (by decide) e), fun _ => rfl, fun e => K6.out (hne.out 6 (by decide) e), fun e => K7.out (hne.out 7 (by decide) e), hB⟩
                · cases ho
                  have d1 := hd ⟨1, .data⟩ (by simp) rfl
                  have d5 := hd ⟨5, .data⟩ (by simp) rfl
                  obtain rfl := K1.out d1
                  obtain rfl := K5.out d5
                  refine wpOp_step rfl (fun K hK => ?_)
                  go_simp
                  go_at_call 108
                  refine (cF1.out _ hFx).mono ?_
                  rintro e w3 ⟨rfl, hb3⟩
                  refine hK _ _ ⟨by simpa using hz, v43, .agg #[.slice A1 n1 c1, .slice A2 n2 c2], v45, v46, v47, .int .i64 t, .int .i64 z, v50, rfl, ?_⟩
                  exact ⟨fun e => K0.out (hne.out 0 (by decide) e), fun e => K1.out (hne.out 1 (by decide) e), fun e => K2.out (hne.out 2 (by decide) e), fun e => K3.out (hne.out 3 (by decide) e), fun e => K4.out (hne.out 4 (by decide) e), fun e => K5.out (hne.out 5 (by decide) e), fun _ => rfl, fun e => K7.out (hne.out 7 (by decide) e), hB.trans (hb3.mono hB.size)⟩
                · cases ho
                  have d0 := hd ⟨0, .data⟩ (by simp) rfl
                  have d6 := hd ⟨6, .data⟩ (by simp) rfl
                  obtain rfl := K0.out d0
                  obtain rfl := K6.out d6
                  refine wpOp_step rfl (fun K hK => ?_)
                  go_simp
                  refine hK _ _ ⟨by simpa using hz, .int .i64 y, v44, v45, v46, v47, v48, .int .i64 z, .int .i64 (y + z), rfl, ?_⟩
                  exact ⟨fun e => K0.out (hne.out 0 (by decide) e), fun e => K1.out (hne.out 1 (by decide) e), fun e => K2.out (hne.out 2 (by decide) e), fun e => K3.out (hne.out 3 (by decide) e), fun e => K4.out (hne.out 4 (by decide) e), fun e => K5.out (hne.out 5 (by decide) e), fun e => K6.out (hne.out 6 (by decide) e), fun _ => rfl, hB⟩
              case hl =>
                rintro listed aq wx ⟨hz, v43, v44, v45, v46, v47, v48, v49, v50, rfl, hII⟩ hall
                have K0 := Lib.hid hII.1
                have K1 := Lib.hid hII.2.1
                have K2 := Lib.hid hII.2.2.1
                have K3 := Lib.hid hII.2.2.2.1
                have K4 := Lib.hid hII.2.2.2.2.1
                have K5 := Lib.hid hII.2.2.2.2.2.1
                have K6 := Lib.hid hII.2.2.2.2.2.2.1
                have K7 := Lib.hid hII.2.2.2.2.2.2.2.1
                have hB : Below wr.heap.size wr wx := hII.2.2.2.2.2.2.2.2
                have hNx := hNi.out.below hB
                have hx := hf.out.kept hNx.2.2.2.2
                have hFx : FacW wx wx.heap.size A1 n1 A2 n2 F := hF0.out.below hNx.2.2.2.2
                clear hII
                obtain rfl := K0.out (hall 0 (by decide))
                obtain rfl := K1.out (hall 1 (by decide))
                obtain rfl := K2.out (hall 2 (by decide))
                obtain rfl := K3.out (hall 3 (by decide))
                obtain rfl := K4.out (hall 4 (by decide))
                obtain rfl := K5.out (hall 5 (by decide))
                obtain rfl := K6.out (hall 6 (by decide))
                obtain rfl := K7.out (hall 7 (by decide))
                clear hall K0 K1 K2 K3 K4 K5 K6 K7
                refine wpOp_step rfl (fun K0 hK0 => ?_)
                go_simp
                refine hK0 _ _ ?_
                clear hK0
                have hP := Lib.hid hNx
                clear hNx hx hFx
                go_wp2_with fail
                go_roundg (3 - (x + 1))
                case measure => omega
                case rel => exact ⟨x + 1, by omega, rfl, by go_num, by rw [hpp.out], hP.out⟩
            · by_cases hev : val = (x : Int)
              · have hpp := Lib.hid (show pv F v1 val s (x + 1) = y + z from by rw [hpn.out, if_pos (Or.inr hev)])
                have hev' : (val == (x : Int)) = true := by simpa using hev
                clear hev
                go_wp2_with fail
                refine wp_region_any (by kernel_rfl) ?_
                change wpAny _ _ _ _ _ _ _ (World.drew _)
                refine wpAny_last (n := 8) (I := fun listed aq wx => listed.size = 9 ∧ ∃ v43 v44 v45 v46 v47 v48 v49 v50 : Value, aq = { tmps := #[.agg #[.slice A1 n1 c1, .slice A2 n2 c2], .int .i64 v1, .int .i64 val, .pointer (some ⟨w.heap.size, 0, none⟩), undef, undef, .pointer (some ⟨W0.heap.size, 0, none⟩), .pointer (some ⟨G9, 0, none⟩), .int .i64 ↑k, .int .i64 s, .int .i64 y, .int .i64 ↑x, .pointer (some ⟨w.heap.size, 0, none⟩), .slice A1 n1 c1, .int .i64 (setOf F.vs), .int .i64 v1, .int .i64 (bitN v1), .int .i64 L, .slice D0 (over L).length cd0, .agg #[.slice D (over L).length cd, .slice none 0 0], .int .i64 ↑k, .pointer (some ⟨G9, 0, none⟩), .slice D (over L).length cd, .int .i64 ↑(over L).length, .int .i64 ↑Q, .bool true, u26, u27, .pointer (some ⟨G9, 0, none⟩), .slice D (over L).length cd, .int .i64 ↑k, .int .i64 s, .int .i64 ↑x, .bool true, u34, u35, .int .i64 val, .bool false, .bool false, .int .i64 val, .int .i64 ↑x, .bool true, .bool true, v43, v44, v45, v46, v47, v48, v49, v50, u51, u52, u53, u54, u55, u56, undef], defers := [] } ∧ (listed.getD 0 false = true → v43 = .int .i64 y) ∧ (listed.getD 1 false = true → v44 = .agg #[.slice A1 n1 c1, .slice A2 n2 c2]) ∧ (listed.getD 2 false = true → v45 = .int .i64 s) ∧ (listed.getD 3 false = true → v46 = .int .i64 v1) ∧ (listed.getD 4 false = true → v47 = .int .i64 ↑x) ∧ (listed.getD 5 false = true → v48 = .int .i64 t) ∧ (listed.getD 6 false = true → v49 = .int .i64 z) ∧ (listed.getD 7 false = true → v50 = .int .i64 (y + z)) ∧ Below wr.heap.size wr wx) rfl (by kernel_rfl) (by kernel_rfl) ?hs ?hl _ _ _ ?st rfl (by decide) _ (by decide)
                case st =>
                  refine ⟨rfl, u43, u44, u45, u46, u47, u48, u49, u50, rfl, ?_, ?_, ?_, ?_, ?_, ?_, ?_, ?_, (Below.refl _ _).drew⟩ <;> (intro e; exact absurd e (by decide))
                case hs =>
                  rintro listed aq wx ⟨hz, v43, v44, v45, v46, v47, v48, v49, v50, rfl, hII⟩ i hin hi
                  obtain ⟨h0, o, ho, hd⟩ := mem_ready.1 hi
                  have K0 := Lib.hid hII.1
                  have K1 := Lib.hid hII.2.1
                  have K2 := Lib.hid hII.2.2.1
                  have K3 := Lib.hid hII.2.2.2.1
                  have K4 := Lib.hid hII.2.2.2.2.1
                  have K5 := Lib.hid hII.2.2.2.2.2.1
                  have K6 := Lib.hid hII.2.2.2.2.2.2.1
                  have K7 := Lib.hid hII.2.2.2.2.2.2.2.1
                  have hB : Below wr.heap.size wr wx := hII.2.2.2.2.2.2.2.2
                  have hne := Lib.hid (fun k (hk : i ≠ k) => @listed_ne listed i k hk)
                  have hNx := hNi.out.below hB
                  have hx := hf.out.kept hNx.2.2.2.2
                  have hFx : FacW wx wx.heap.size A1 n1 A2 n2 F := hF0.out.below hNx.2.2.2.2
                  clear hII hi h0
                  rcases (by omega : i = 0 ∨ i = 1 ∨ i = 2 ∨ i = 3 ∨ i = 4 ∨ i = 5 ∨ i = 6 ∨ i = 7) with rfl | rfl | rfl | rfl | rfl | rfl | rfl | rfl
                  · cases ho
                    refine wpOp_step rfl (fun K hK => ?_)
                    go_simp
                    refine hK _ _ ⟨by simpa using hz, .int .i64 y, v44, v45, v46, v47, v48, v49, v50, rfl, ?_⟩
                    exact ⟨fun _ => rfl, fun e => K1.out (hne.out 1 (by decide) e), fun e => K2.out (hne.out 2 (by decide) e), fun e => K3.out (hne.out 3 (by decide) e), fun e => K4.out (hne.out 4 (by decide) e), fun e => K5.out (hne.out 5 (by decide) e), fun e => K6.out (hne.out 6 (by decide) e), fun e => K7.out (hne.out 7 (by decide) e), hB⟩
                  · cases ho
                    have hxc := hx.cell
                    refine wpOp_step rfl (fun K hK => ?_)
                    go_simp
                    refine hK _ _ ⟨by simpa using hz, v43, .agg #[.slice A1 n1 c1, .slice A2 n2 c2], v45, v46, v47, v48, v49, v50, rfl, ?_⟩
                    exact ⟨fun e => K0.out (hne.out 0 (by decide) e), fun _ => rfl, fun e => K2.out (hne.out 2 (by decide) e), fun e => K3.out (hne.out 3 (by decide) e), fun e => K4.out (hne.out 4 (by decide) e), fun e => K5.out (hne.out 5 (by decide) e), fun e => K6.out (hne.out 6 (by decide) e), fun e => K7.out (hne.out 7 (by decide) e), hB⟩
                  · cases ho
                    refine wpOp_step rfl (fun K hK => ?_)
                    go_simp
                    refine hK _ _ ⟨by simpa using hz, v43, v44, .int .i64 s, v46, v47, v48, v49, v50, rfl, ?_⟩
                    exact ⟨fun e => K0.out (hne.out 0 (by decide) e), fun e => K1.out (hne.out 1 (by decide) e), fun _ => rfl, fun e => K3.out (hne.out 3 (by decide) e), fun e => K4.out (hne.out 4 (by decide) e), fun e => K5.out (hne.out 5 (by decide) e), fun e => K6.out (hne.out 6 (by decide) e), fun e => K7.out (hne.out 7 (by decide) e), hB⟩
                  · cases ho
                    refine wpOp_step rfl (fun K hK => ?_)
                    go_simp
                    refine hK _ _ ⟨by simpa using hz, v43, v44, v45, .int .i64 v1, v47, v48, v49, v50, rfl, ?_⟩
                    exact ⟨fun e => K0.out (hne.out 0 (by decide) e), fun e => K1.out (hne.out 1 (by decide) e), fun e => K2.out (hne.out 2 (by decide) e), fun _ => rfl, fun e => K4.out (hne.out 4 (by decide) e), fun e => K5.out (hne.out 5 (by decide) e), fun e => K6.out (hne.out 6 (by decide) e), fun e => K7.out (hne.out 7 (by decide) e), hB⟩
                  · cases ho
                    refine wpOp_step rfl (fun K hK => ?_)
                    go_simp
                    refine hK _ _ ⟨by simpa using hz, v43, v44, v45, v46, .int .i64 ↑x, v48, v49, v50, rfl, ?_⟩
                    exact ⟨fun e => K0.out (hne.out 0 (by decide) e), fun e => K1.out (hne.out 1 (by decide) e), fun e => K2.out (hne.out 2 (by decide) e), fun e => K3.out (hne.out 3 (by decide) e), fun _ => rfl, fun e => K5.out (hne.out 5 (by decide) e), fun e => K6.out (hne.out 6 (by decide) e), fun e => K7.out (hne.out 7 (by decide) e), hB⟩
                  · cases ho
                    have d2 := hd ⟨2, .data⟩ (by simp) rfl
                    have d3 := hd ⟨3, .data⟩ (by simp) rfl
                    have d4 := hd ⟨4, .data⟩ (by simp) rfl
                    obtain rfl := K2.out d2
                    obtain rfl := K3.out d3
                    obtain rfl := K4.out d4
                    refine wpOp_step rfl (fun K hK => ?_)
                    go_simp
                    go_at_call 127
                    refine (cW.out _).mono ?_
                    rintro e w3 ⟨rfl, rfl⟩
                    refine hK _ _ ⟨by simpa using hz, v43, v44, .int .i64 s, .int .i64 v1, .int .i64 ↑x, .int .i64 t, v49, v50, rfl, ?_⟩
                    exact ⟨fun e => K0.out (hne.out 0 (by decide) e), fun e => K1.out (hne.out 1 (by decide) e), fun e => K2.out (hne.out 2 (by decide) e), fun e => K3.out (hne.out 3 (by decide) e), fun e => K4.out (hne.out 4 (by decide) e), fun _ => rfl, fun e => K6.out (hne.out 6 (by decide) e), fun e => K7.out (hne.out 7 (by decide) e), hB⟩
                  · cases ho
                    have d1 := hd ⟨1, .data⟩ (by simp) rfl
                    have d5 := hd ⟨5, .data⟩ (by simp) rfl
                    obtain rfl := K1.out d1
                    obtain rfl := K5.out d5
                    refine wpOp_step rfl (fun K hK => ?_)
                    go_simp
                    go_at_call 108
                    refine (cF1.out _ hFx).mono ?_
                    rintro e w3 ⟨rfl, hb3⟩
                    refine hK _ _ ⟨by simpa using hz, v43, .agg #[.slice A1 n1 c1, .slice A2 n2 c2], v45, v46, v47, .int .i64 t, .int .i64 z, v50, rfl, ?_⟩
                    exact ⟨fun e => K0.out (hne.out 0 (by decide) e), fun e => K1.out (hne.out 1 (by decide) e), fun e => K2.out (hne.out 2 (by decide) e), fun e => K3.out (hne.out 3 (by decide) e), fun e => K4.out (hne.out 4 (by decide) e), fun e => K5.out (hne.out 5 (by decide) e), fun _ => rfl, fun e => K7.out (hne.out 7 (by decide) e), hB.trans (hb3.mono hB.size)⟩
                  · cases ho
                    have d0 := hd ⟨0, .data⟩ (by simp) rfl
                    have d6 := hd ⟨6, .data⟩ (by simp) rfl
                    obtain rfl := K0.out d0
                    obtain rfl := K6.out d6
                    refine wpOp_step rfl (fun K hK => ?_)
                    go_simp
                    refine hK _ _ ⟨by simpa using hz, .int .i64 y, v44, v45, v46, v47, v48, .int .i64 z, .int .i64 (y + z), rfl, ?_⟩
                    exact ⟨fun e => K0.out (hne.out 0 (by decide) e), fun e => K1.out (hne.out 1 (by decide) e), fun e => K2.out (hne.out 2 (by decide) e), fun e => K3.out (hne.out 3 (by decide) e), fun e => K4.out (hne.out 4 (by decide) e), fun e => K5.out (hne.out 5 (by decide) e), fun e => K6.out (hne.out 6 (by decide) e), fun _ => rfl, hB⟩
                case hl =>
                  rintro listed aq wx ⟨hz, v43, v44, v45, v46, v47, v48, v49, v50, rfl, hII⟩ hall
                  have K0 := Lib.hid hII.1
                  have K1 := Lib.hid hII.2.1
                  have K2 := Lib.hid hII.2.2.1
                  have K3 := Lib.hid hII.2.2.2.1
                  have K4 := Lib.hid hII.2.2.2.2.1
                  have K5 := Lib.hid hII.2.2.2.2.2.1
                  have K6 := Lib.hid hII.2.2.2.2.2.2.1
                  have K7 := Lib.hid hII.2.2.2.2.2.2.2.1
                  have hB : Below wr.heap.size wr wx := hII.2.2.2.2.2.2.2.2
                  have hNx := hNi.out.below hB
                  have hx := hf.out.kept hNx.2.2.2.2
                  have hFx : FacW wx wx.heap.size A1 n1 A2 n2 F := hF0.out.below hNx.2.2.2.2
                  clear hII
                  obtain rfl := K0.out (hall 0 (by decide))
                  obtain rfl := K1.out (hall 1 (by decide))
                  obtain rfl := K2.out (hall 2 (by decide))
                  obtain rfl := K3.out (hall 3 (by decide))
                  obtain rfl := K4.out (hall 4 (by decide))
                  obtain rfl := K5.out (hall 5 (by decide))
                  obtain rfl := K6.out (hall 6 (by decide))
                  obtain rfl := K7.out (hall 7 (by decide))
                  clear hall K0 K1 K2 K3 K4 K5 K6 K7
                  refine wpOp_step rfl (fun K0 hK0 => ?_)
                  go_simp
                  refine hK0 _ _ ?_
                  clear hK0
                  have hP := Lib.hid hNx
                  clear hNx hx hFx
                  go_wp2_with fail
                  go_roundg (3 - (x + 1))
                  case measure => omega
                  case rel => exact ⟨x + 1, by omega, rfl, by go_num, by rw [hpp.out], hP.out⟩
              · have hpp := Lib.hid (show pv F v1 val s (x + 1) = y from by rw [hpn.out, if_neg (by intro e; rcases e with e | e; exact hneg e; exact hev e), Int.add_zero])
                have hev' : (val == (x : Int)) = false := by simpa using hev
                go_wp2_with fail
                go_roundg (3 - (x + 1))
                case measure => omega
                case rel => exact ⟨x + 1, by omega, rfl, by go_num, by rw [hpp.out], hNi.out⟩
          · obtain rfl : x = 3 := by omega
            generalize pv F v val s 3 = y at hyb hnx ⊢
            have hal : Below wr.heap.size wr (wr.alloc (.cells #[.int .i64 y] 3)) := (Below.refl _ _).alloc (Nat.le_refl _) _
            have hNa := Lib.hid (hNi.out.below hal)
            have hO6 : (wr.alloc (.cells #[.int .i64 y] 3)).ownsRow W0.heap.size 3 1 (.slice E2 k e2) k (ints (facPre L g k)) := by have h1 := hNa.out.1; unfold IOwn at h1; rwa [hpl] at h1
            have hO6h := Lib.hid hO6
            have hnw := Lib.hid (new_one wr (.int .i64 y) 3)
            have hsz6 := Lib.hid hNa.out.2.2.2.2.size
            have cA := hNi.out.2.2.1.cell
            clear hal hO6
            go_wp2_with (at_builtin; refine wpList_append_lies _ rfl (.tmp 52) (.tmp 54) 22 rfl W0.heap.size 3 i0 _ 1 8 Try.underlying22 hi0 hi1 hi2 hi3 rfl (by decide) (.slice E2 k e2) k (ints (facPre L g k)) rfl (by exact hO6h.out) ⟨wr.heap.size, 0, none⟩ 1 1 [.int .i64 y] rfl rfl (by exact hnw.out) (by simp [Value.oneCell']) (by omega) (by unfold maxLen; omega) (by omega) (by exact hsz6.out) (wr.heap.size + 1) (by simp) ?_; intro gr cr2 w6 hown6 hgrow6 hat6 hlt6; have hG6 := hNa.out.2.2.1.but (grown_but_ hgrow6) (fun e => iown_ne hNa.out.1 hNa.out.2.2.1 (by decide) _ e rfl); have hgc := hG6.cell; have hgf := hG6.frozen)
            have hP := Lib.hid (hNa.out.grow (x := y) hpl hG1 hdh.out hown6 hgrow6 (by simpa using hat6))
            rw [← hnx.out] at hP
            clear hgc hgf hG6 hown6 hgrow6 hat6 cA
            go_wp2_with fail
            go_roundg (Q - (k + 1))
            case measure => omega
            case rel => exact ⟨k + 1, _, by omega, rfl, by go_num, hP.out.1, hP.out.2⟩
      · obtain rfl : k = Q := by omega
        obtain ⟨h1, h2, h3, h4, h5⟩ := hNh.out
        rw [hall.out] at h1
        have hB9 := hB0h.out.trans (h5.mono hWW)
        have cR := h4.cell
        have fR := h4.frozen
        have hp1 := (h4.put 0 (.slice D (over L).length cd)).cell 0
        have hp2 := ((h4.put 0 (.slice D (over L).length cd)).put 1 (.slice E2 k e2)).cell 1
        have hV := Lib.hid (show FcV wr W0.heap.size (.slice D (over L).length cd) (.slice E2 k e2) (facBy_ L g) from ⟨h2, h1, hdh.out⟩)
        clear hp1 hp2
        have hp1 := (h4.put 0 (.slice D (over L).length cd)).cell 0
        have hp2 := ((h4.put 0 (.slice D (over L).length cd)).put 1 (.slice E2 k e2)).cell 1
        go_wp2_with fail
        refine (cP.out _).mono ?_
        rintro e w' ⟨rfl, rfl⟩
        go_wp2_with fail
        refine bodyPost_ret (v := .agg #[.slice D (over L).length cd, .slice E2 k e2]) (by simp [results, Try.results95, go_sem, hp1, hp2]) rfl ⟨_, _, rfl, (hV.out.le hWW).put2 h4 _ _, ?_⟩
        exact (hB9.setCell (p := ⟨W0.heap.size, 0, none⟩) hWW _).setCell (p := ⟨W0.heap.size, 1, none⟩) hWW _
end Go.Proofs.Ytaipdkfbkcknkaa
